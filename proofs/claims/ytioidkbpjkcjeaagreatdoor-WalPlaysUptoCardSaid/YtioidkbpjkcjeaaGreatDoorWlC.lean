/- The record with which a text begins, by the program. Conditions: those that each theorem names. -/
import Derived.Test.YtioidkbpjkcjeaaGreatDoorWlR
import Derived.Test.YtioidkbpjkcjeaaGreatDoorRg
namespace Go.Proofs.YtioidkbpjkcjeaaGreatDoor
set_option linter.unusedVariables false
open Go Go.RowKit Wl
def unB (s : ByteArray) : Nat := unfL s.data.toList
theorem lenOf_text (s : ByteArray) : lenOf s.data.toList = unB (s.extract 0 4) := by unfold lenOf unB; rw [ext_any]; simp
theorem seqOf_text (s : ByteArray) : seqOf s.data.toList = unB (s.extract 4 12) := by unfold seqOf unB; rw [ext_any]
theorem bodyOf_text (s : ByteArray) : tx (bodyOf s.data.toList) = s.extract 16 (16 + lenOf s.data.toList) := by
  apply by_ext; rw [tx_list, ext_any]; unfold bodyOf; rw [Nat.add_sub_cancel_left]
def okH (s : ByteArray) : Bool := decide (s.extract 12 16 = sumB (s.extract 0 12))
def okB (s : ByteArray) : Bool := decide (s.extract (16 + lenOf s.data.toList) (20 + lenOf s.data.toList) = sumB (s.extract 4 12 ++ s.extract 16 (16 + lenOf s.data.toList)))
theorem tx_eq {a b : List UInt8} : tx a = tx b ↔ a = b := ⟨tx_inj, congrArg tx⟩
theorem okH_is (s : ByteArray) : headOk s.data.toList = (okH s && decide (lenOf s.data.toList ≤ 16777216) && decide (1 ≤ seqOf s.data.toList) && decide (seqOf s.data.toList ≤ 4503599627370496)) := by
  unfold headOk okH
  have e : (s.extract 12 16 = sumB (s.extract 0 12)) = (sum4 (s.data.toList.take 12) = (s.data.toList.drop 12).take 4) := by
    have h1 : s.extract 12 16 = tx ((s.data.toList.drop 12).take 4) := by apply by_ext; rw [tx_list, ext_any]
    have h2 : sumB (s.extract 0 12) = tx (sum4 (s.data.toList.take 12)) := by unfold sumB; rw [ext_any]; simp
    rw [h1, h2, tx_eq]
    exact propext ⟨Eq.symm, Eq.symm⟩
  simp only [e]
theorem okB_is (s : ByteArray) : bodyOk s.data.toList = okB s := by
  unfold bodyOk okB
  have e : (s.extract (16 + lenOf s.data.toList) (20 + lenOf s.data.toList) = sumB (s.extract 4 12 ++ s.extract 16 (16 + lenOf s.data.toList))) = (sum4 ((s.data.toList.drop 4).take 8 ++ bodyOf s.data.toList) = (s.data.toList.drop (16 + lenOf s.data.toList)).take 4) := by
    have h1 : s.extract (16 + lenOf s.data.toList) (20 + lenOf s.data.toList) = tx ((s.data.toList.drop (16 + lenOf s.data.toList)).take 4) := by
      apply by_ext; rw [tx_list, ext_any, show 20 + lenOf s.data.toList - (16 + lenOf s.data.toList) = 4 by omega]
    have h2 : sumB (s.extract 4 12 ++ s.extract 16 (16 + lenOf s.data.toList)) = tx (sum4 ((s.data.toList.drop 4).take 8 ++ bodyOf s.data.toList)) := by
      rw [← bodyOf_text]; unfold sumB; rw [app_list, ext_any, tx_list]
    rw [h1, h2, tx_eq]
    exact propext ⟨Eq.symm, Eq.symm⟩
  simp only [e]
def oneV : One → Value
  | .torn => .tuple #[.agg #[.int .i64 0, .string ⟨#[]⟩], .int .i64 91]
  | .bad => .tuple #[.agg #[.int .i64 0, .string ⟨#[]⟩], .int .i64 90]
  | .ok q b => .tuple #[.agg #[.int .i64 (q : Int), .string (tx b)], .int .i64 0]
theorem setCell_at {w : World} {g k : Nat} {cs : Array Value} {t : TypeId} {m : Nat × Nat} (h : w.heap[g]? = some (.cells cs t m)) (v : Value) : (w.setCell ⟨g, k, none⟩ v).heap[g]? = some (.cells (cs.setIfInBounds k v) t m) := by
  simp [World.setCell, h, Array.getElem?_modify]
theorem cells2_of {w : World} {g : Nat} {a b : Value} {T : TypeId} (h : w.heap[g]? = some (.cells #[a, b] T (0, 0))) : w.cell? ⟨g, 0, none⟩ = some a ∧ w.cell? ⟨g, 1, none⟩ = some b :=
  ⟨by rw [cell_of_row _ _ _ _ _ _ h]; rfl, by rw [cell_of_row _ _ _ _ _ _ h]; rfl⟩
theorem set2 {w0 w : World} {g : Nat} {a b : Value} {T : TypeId} (h : w.heap[g]? = some (.cells #[a, b] T (0, 0))) (hb : Below w0.heap.size w0 w) (hg : w0.heap.size ≤ g) (x y : Value) :
    (((w.setCell ⟨g, 0, none⟩ x).setCell ⟨g, 1, none⟩ y).cell? ⟨g, 0, none⟩ = some x ∧ ((w.setCell ⟨g, 0, none⟩ x).setCell ⟨g, 1, none⟩ y).cell? ⟨g, 1, none⟩ = some y) ∧ Below w0.heap.size w0 ((w.setCell ⟨g, 0, none⟩ x).setCell ⟨g, 1, none⟩ y) :=
  ⟨cells2_of (setCell_at (setCell_at h x) y), (hb.setCell (p := ⟨g, 0, none⟩) hg _).setCell (p := ⟨g, 1, none⟩) hg _⟩
theorem unfixed_any (s : ByteArray) (w : World) (h : 1 ≤ s.size) (h' : s.size ≤ 8) :
    Calls Tryz.prog 52 #[.string s] w fun e w' => e = .returned (.int .u64 (unB s : Int)) ∧ w = w' := by
  have C := Lib.hid (unfix_any s w h h')
  go_enter Tryz.func52, Tryz.ntmps52
  go_wp2_with (go_at_call 71; refine C.out.mono ?_; rintro e w2 ⟨rfl, rfl⟩)
  go_ret
  exact ⟨rfl, rfl⟩
theorem zero_rec (w : World) : (w.alloc (.cells #[.int .i64 0, .string ⟨#[]⟩] 62)).heap[w.heap.size]? = some (.cells #[.int .i64 0, .string ⟨#[]⟩] 62 (0, 0)) := heap_alloc_new _ _
set_option maxHeartbeats 2000000 in
set_option maxRecDepth 100000 in
theorem first_short (s : ByteArray) (w : World) (hs : s.size < 16) :
    Calls Tryz.prog 30 #[.string s] w fun e w' => e = .returned (oneV (recOf s.data.toList)) ∧ Below w.heap.size w w' := by
  rw [one_short (by rw [ln]; exact hs)]
  have hs' : (s.size : Int) < 16 := by omega
  obtain ⟨c0, c1⟩ := cells2_of (zero_rec w)
  have HB := Lib.hid ((Below.refl w.heap.size w).alloc (Nat.le_refl _) (.cells #[.int .i64 0, .string ⟨#[]⟩] 62))
  go_enter Tryz.func30, Tryz.ntmps30
  go_wp2_with fail
  refine bodyPost_ret (v := .tuple #[.agg #[.int .i64 0, .string ⟨#[]⟩], .int .i64 91]) (by simp [results, Tryz.results30, go_sem, c0, c1]) rfl ?_
  exact ⟨rfl, HB.out⟩
set_option maxHeartbeats 4000000 in
set_option maxRecDepth 100000 in
theorem first_long (s : ByteArray) (w : World) (hs : ¬ s.size < 16) (hm : s.size ≤ maxLen) :
    Calls Tryz.prog 30 #[.string s] w fun e w' => e = .returned (oneV (recOf s.data.toList)) ∧ Below w.heap.size w w' := by
  have hs' : ¬ (s.size : Int) < 16 := by omega
  have l4 : (4 : Int) ≤ (s.size : Int) := by omega
  have l12 : (12 : Int) ≤ (s.size : Int) := by omega
  have l16 : (16 : Int) ≤ (s.size : Int) := by omega
  have f4 : Hid (1 ≤ (s.extract 0 4).size ∧ (s.extract 0 4).size ≤ 8) := Lib.hid (by simp; omega)
  have f8 : Hid (1 ≤ (s.extract 4 12).size ∧ (s.extract 4 12).size ≤ 8) := Lib.hid (by simp; omega)
  have CU : Hid (∀ (t : ByteArray) (h : Hid (1 ≤ t.size ∧ t.size ≤ 8)) (W : World), Calls Tryz.prog 52 #[.string t] W fun e w' => e = .returned (.int .u64 (unB t : Int)) ∧ w' = W) := Lib.hid (fun t h W => (unfixed_any t W h.out.1 h.out.2).mono fun _ _ h => ⟨h.1, h.2.symm⟩)
  have CS : Hid (∀ (t : ByteArray) (h : Hid (t.size ≤ maxLen)) (W : World), Calls Tryz.prog 29 #[.string t] W fun e w' => e = .returned (.string (sumB t)) ∧ Below W.heap.size W w') := Lib.hid (fun t h W => wsum_any t W h.out)
  have HB := Lib.hid ((Below.refl w.heap.size w).alloc (Nat.le_refl _) (.cells #[.int .i64 0, .string ⟨#[]⟩] 62))
  have HZ := Lib.hid (zero_rec w)
  have HO : Hid (recOf s.data.toList = recOf s.data.toList) := Lib.hid rfl
  generalize hg : unB = g at *
  go_enter Tryz.func30, Tryz.ntmps30
  go_wp2_with fail
  have HBS : Hid (w.heap.size < (w.alloc (.cells #[.int .i64 0, .string ⟨#[]⟩] 62)).heap.size) := Lib.hid (by simp)
  generalize w.alloc (.cells #[.int .i64 0, .string ⟨#[]⟩] 62) = W at *
  go_quiet (first | (go_at_call 52; refine Calls.quiet_of_same (CU.out _ (by assumption) _)))
  have HB2 : Hid (Below w.heap.size w (W.drewN nq)) := Lib.hid (below_drewN HB.out _)
  have HZ2 : Hid ((W.drewN nq).heap[w.heap.size]? = some (.cells #[.int .i64 0, .string ⟨#[]⟩] 62 (0, 0))) := Lib.hid HZ.out
  have HBS2 : Hid (w.heap.size < (W.drewN nq).heap.size) := Lib.hid HBS.out
  generalize W.drewN nq = W2 at *
  clear HB HZ HBS CU f4 f8
  obtain ⟨n, hn⟩ : ∃ n, n = g (s.extract 0 4) := ⟨_, rfl⟩
  obtain ⟨q, hq⟩ : ∃ q, q = g (s.extract 4 12) := ⟨_, rfl⟩
  rw [← hn, ← hq]
  have HN : Hid (lenOf s.data.toList = n) := Lib.hid (by rw [lenOf_text, hg, hn])
  have HQ : Hid (seqOf s.data.toList = q) := Lib.hid (by rw [seqOf_text, hg, hq])
  have HNL : Hid (n < 4294967296) := Lib.hid (by rw [← HN.out]; exact lenOf_lt _ (by rw [ln]; exact hs))
  have HQL : Hid (q < 18446744073709551616) := Lib.hid (by rw [← HQ.out]; exact seqOf_lt _ (by rw [ln]; exact hs))
  have HLN : Hid (¬ s.data.toList.length < 16) := Lib.hid (by rw [ln]; exact hs)
  clear hn hq hg g
  obtain ⟨b1, hb1⟩ : ∃ b, b = okH s := ⟨_, rfl⟩
  have hx : ((s.extract 12 16).toList == (sumB (s.extract 0 12)).toList) = b1 := by rw [st_is, hb1]; rfl
  have HX1 := Lib.hid hb1
  have n12 : Hid ((s.extract 0 12).size ≤ maxLen) := Lib.hid (by simp; unfold maxLen; omega)
  have hS0 : Below W2.heap.size W2 W2.drew := (Below.refl _ _).drew
  have KEEP : ∀ {x y : World}, Below W2.heap.size W2 x → Below x.heap.size x y → Below W2.heap.size W2 y := fun h g => h.trans (g.mono h.size)
  clear hb1
  have HH := Lib.hid (okH_is s)
  rw [← HX1.out, HN.out, HQ.out] at HH
  have KEPT : Hid (∀ x, Below W2.heap.size W2 x → x.heap[w.heap.size]? = some (.cells #[.int .i64 0, .string ⟨#[]⟩] 62 (0, 0)) ∧ Below w.heap.size w x) := Lib.hid (fun x h => ⟨(h.block _ HBS2.out).trans HZ2.out, HB2.out.trans (h.mono (Nat.le_of_lt HBS2.out))⟩)
  clear HB2 HZ2 HBS2
  by_cases hbad : b1 = false ∨ 16777216 < n ∨ q < 1 ∨ 4503599627370496 < q
  · have hcase : (b1 = false) ∨ (b1 = true ∧ 16777216 < n) ∨ (b1 = true ∧ n ≤ 16777216 ∧ q < 1) ∨ (b1 = true ∧ n ≤ 16777216 ∧ 1 ≤ q ∧ 4503599627370496 < q) := by
      cases b1 <;> simp at hbad ⊢ <;> omega
    have HR : Hid (recOf s.data.toList = .bad) := Lib.hid (one_head HLN.out (by
      rw [HH.out]
      rcases hcase with rfl | ⟨rfl, h⟩ | ⟨rfl, h1, h⟩ | ⟨rfl, h1, h2, h⟩
      · rfl
      · rw [decide_eq_false (show ¬ n ≤ 16777216 by omega)]; rfl
      · rw [decide_eq_false (show ¬ 1 ≤ q by omega)]; simp
      · rw [decide_eq_false (show ¬ q ≤ 4503599627370496 by omega)]; simp))
    clear HH hbad HNL HQL
    have g1 : b1 = false ∨ (b1 = true ∧ decide ((16777216 : Int) < (n : Int)) = true) ∨ (b1 = true ∧ decide ((16777216 : Int) < (n : Int)) = false ∧ decide ((q : Int) < 1) = true) ∨ (b1 = true ∧ decide ((16777216 : Int) < (n : Int)) = false ∧ decide ((q : Int) < 1) = false ∧ decide ((4503599627370496 : Int) < (q : Int)) = true) := by
      rcases hcase with h | ⟨h, h1⟩ | ⟨h, h1, h2⟩ | ⟨h, h1, h2, h3⟩
      · exact .inl h
      · exact .inr (.inl ⟨h, decide_eq_true (by omega)⟩)
      · exact .inr (.inr (.inl ⟨h, decide_eq_false (by omega), decide_eq_true (by omega)⟩))
      · exact .inr (.inr (.inr ⟨h, decide_eq_false (by omega), decide_eq_false (by omega), decide_eq_true (by omega)⟩))
    clear hcase
    rcases g1 with rfl | ⟨rfl, d1⟩ | ⟨rfl, d1, d2⟩ | ⟨rfl, d1, d2, d3⟩
    all_goals
      go_wp2_with fail
      refine wp_region_kept (C := fun x => Below W2.heap.size W2 x) (by kernel_rfl) (by kernel_rfl) hS0 ?_
      repeat (go_big_quiet_step (first | (intro hC; rfl) | (intro hC; go_at_call 29; refine (CS.out _ (by assumption) _).mono ?_; rintro e w1 ⟨rfl, hb⟩; exact ⟨rfl, KEEP hC hb⟩)))
      refine wpQuiet_nil ?_
      intro w4 hw4
      obtain ⟨X4, B4⟩ := KEPT.out w4 hw4
      obtain ⟨c0, c1⟩ := cells2_of X4
      have k0 : w4.frozen? ⟨w.heap.size, 0, none⟩ = false := frozen_of_row _ _ _ _ _ X4
      have k1 : w4.frozen? ⟨w.heap.size, 1, none⟩ = false := frozen_of_row _ _ _ _ _ X4
      obtain ⟨⟨e0, e1⟩, eb⟩ := set2 X4 B4 (Nat.le_refl _) (.int .i64 0) (.string ⟨#[]⟩)
      have EB := Lib.hid eb
      clear eb X4 B4 hw4
      go_wp2_with fail
      refine bodyPost_ret (v := .tuple #[.agg #[.int .i64 0, .string ⟨#[]⟩], .int .i64 90]) (by simp [results, Tryz.results30, go_sem, e0, e1]) rfl ?_
      rw [HR.out]
      exact ⟨rfl, EB.out⟩
  · have hb1 : b1 = true := by cases b1 with | true => rfl | false => exact absurd (Or.inl rfl) hbad
    have hn2 : n ≤ 16777216 := by omega
    have hq2 : 1 ≤ q ∧ q ≤ 4503599627370496 := by omega
    have HH2 : Hid (headOk s.data.toList = true) := Lib.hid (by rw [HH.out, hb1, decide_eq_true hn2, decide_eq_true hq2.1, decide_eq_true hq2.2]; rfl)
    subst hb1
    have d1 : decide ((16777216 : Int) < (n : Int)) = false := decide_eq_false (by omega)
    have d2 : decide ((q : Int) < 1) = false := decide_eq_false (by omega)
    have d3 : decide ((4503599627370496 : Int) < (q : Int)) = false := decide_eq_false (by omega)
    have wn : wrap64 (n : Int) = (n : Int) := by unfold wrap64; omega
    have wn' : IntKind.i64.wrap (n : Int) = (n : Int) := IntWalk.i64_in _ (by omega)
    have wq : wrap64 (q : Int) = (q : Int) := by unfold wrap64; omega
    have wq' : IntKind.i64.wrap (q : Int) = (q : Int) := IntWalk.i64_in _ (by omega)
    obtain ⟨E, hE⟩ : ∃ E : Nat, E = 16 + n := ⟨_, rfl⟩
    have wE : wrap64 (16 + (n : Int)) = (E : Int) := by unfold wrap64; omega
    obtain ⟨F, hF⟩ : ∃ F : Nat, F = E + 4 := ⟨_, rfl⟩
    have wE4 : wrap64 ((E : Int) + 4) = (F : Int) := by unfold wrap64; omega
    have HF := Lib.hid hF
    have HE := Lib.hid hE
    have HN2 := Lib.hid hn2
    have HQ2 := Lib.hid hq2
    clear hbad hE hF HH hn2 hq2 HNL HQL
    go_wp2_with fail
    refine wp_region_kept (C := fun x => Below W2.heap.size W2 x) (by kernel_rfl) (by kernel_rfl) hS0 ?_
    repeat (go_big_quiet_step (first | (intro hC; rfl) | (intro hC; go_at_call 29; refine (CS.out _ (by assumption) _).mono ?_; rintro e w1 ⟨rfl, hb⟩; exact ⟨rfl, KEEP hC hb⟩)))
    refine wpQuiet_nil ?_
    intro w4 hw4
    have X4 := KEPT.out w4 hw4
    have HX4 := Lib.hid X4
    clear X4 d1 d2 d3 hx n12 hS0 KEEP hw4 KEPT
    by_cases hlen : s.size < F
    · have hl : (s.size : Int) < (F : Int) := by omega
      have HR : Hid (recOf s.data.toList = .torn) := Lib.hid (one_part HLN.out HH2.out (by rw [HN.out, ln]; have := HE.out; have := HF.out; omega))
      obtain ⟨c0, c1⟩ := cells2_of HX4.out.1
      have k0 : w4.frozen? ⟨w.heap.size, 0, none⟩ = false := frozen_of_row _ _ _ _ _ HX4.out.1
      have k1 : w4.frozen? ⟨w.heap.size, 1, none⟩ = false := frozen_of_row _ _ _ _ _ HX4.out.1
      obtain ⟨⟨e0, e1⟩, eb⟩ := set2 HX4.out.1 HX4.out.2 (Nat.le_refl _) (.int .i64 0) (.string ⟨#[]⟩)
      have EB := Lib.hid eb
      clear eb
      go_wp2_with fail
      refine bodyPost_ret (v := .tuple #[.agg #[.int .i64 0, .string ⟨#[]⟩], .int .i64 91]) (by simp [results, Tryz.results30, go_sem, e0, e1]) rfl ?_
      rw [HR.out]
      exact ⟨rfl, EB.out⟩
    · have hl : ¬ (s.size : Int) < (F : Int) := by omega
      have hl2 : (E : Int) ≤ (s.size : Int) := by have := HF.out; omega
      have hl3 : (F : Int) ≤ (s.size : Int) := by omega
      have hl4 : (16 : Int) ≤ (E : Int) := by have := HE.out; omega
      have hl5 : (E : Int) ≤ (F : Int) := by have := HF.out; omega
      have HLEN : Hid (¬ s.data.toList.length < 20 + lenOf s.data.toList) := Lib.hid (by rw [HN.out, ln]; have := HE.out; have := HF.out; omega)
      have HOB := Lib.hid (okB_is s)
      obtain ⟨b2, hb2⟩ : ∃ b, b = okB s := ⟨_, rfl⟩
      have HB2 := Lib.hid hb2
      have hx2 : ((s.extract E F).toList == (sumB (s.extract 4 12 ++ s.extract 16 E)).toList) = b2 := by
        rw [st_is, hb2]; unfold okB; rw [HN.out, HF.out, HE.out, show 16 + n + 4 = 20 + n by omega]
      have z1 : (s.extract 4 12).size = 8 := by simp; omega
      have z2 : (s.extract 16 E).size = E - 16 := by have := HF.out; simp; omega
      have m1 : ¬ 9223372036854775807 < (s.extract 4 12).size + (s.extract 16 E).size := by unfold maxLen at hm; omega
      have n2 : Hid ((s.extract 4 12 ++ s.extract 16 E).size ≤ maxLen) := Lib.hid (by rw [ByteArray.size_append, z1, z2]; unfold maxLen; have := HE.out; have := HN2.out; omega)
      have HBO : Hid (s.extract 16 E = tx (bodyOf s.data.toList)) := Lib.hid (by rw [bodyOf_text, HN.out, HE.out])
      clear hb2 z1 z2 hlen
      go_wp2_with fail
      have hS4 : Below w4.heap.size w4 w4.drew := (Below.refl _ _).drew
      have KEEP4 : ∀ {x y : World}, Below w4.heap.size w4 x → Below x.heap.size x y → Below w4.heap.size w4 y := fun h g => h.trans (g.mono h.size)
      have HW4 : Hid (w.heap.size < w4.heap.size) := Lib.hid (Array.getElem?_eq_some_iff.1 HX4.out.1).1
      refine wp_region_kept (C := fun x => Below w4.heap.size w4 x) (by kernel_rfl) (by kernel_rfl) hS4 ?_
      repeat (go_big_quiet_step (first | (intro hC; rfl) | (intro hC; go_at_call 29; refine (CS.out _ (by assumption) _).mono ?_; rintro e w1 ⟨rfl, hb⟩; exact ⟨rfl, KEEP4 hC hb⟩)))
      refine wpQuiet_nil ?_
      intro w5 hw5
      have X5 : w5.heap[w.heap.size]? = some (.cells #[.int .i64 0, .string ⟨#[]⟩] 62 (0, 0)) := (hw5.block _ HW4.out).trans HX4.out.1
      have B5 : Below w.heap.size w w5 := HX4.out.2.trans (hw5.mono (Nat.le_of_lt HW4.out))
      obtain ⟨c0, c1⟩ := cells2_of X5
      have k0 : w5.frozen? ⟨w.heap.size, 0, none⟩ = false := frozen_of_row _ _ _ _ _ X5
      have k1 : w5.frozen? ⟨w.heap.size, 1, none⟩ = false := frozen_of_row _ _ _ _ _ X5
      cases b2 with
      | false =>
        have HR : Hid (recOf s.data.toList = .bad) := Lib.hid (one_body HLN.out HH2.out HLEN.out (by rw [HOB.out, ← HB2.out]))
        obtain ⟨⟨e0, e1⟩, eb⟩ := set2 X5 B5 (Nat.le_refl _) (.int .i64 0) (.string ⟨#[]⟩)
        have EB := Lib.hid eb
        clear eb hw5 X5 B5 hS4 KEEP4
        go_wp2_with fail
        refine bodyPost_ret (v := .tuple #[.agg #[.int .i64 0, .string ⟨#[]⟩], .int .i64 90]) (by simp [results, Tryz.results30, go_sem, e0, e1]) rfl ?_
        rw [HR.out]
        exact ⟨rfl, EB.out⟩
      | true =>
        have HR : Hid (recOf s.data.toList = .ok (seqOf s.data.toList) (bodyOf s.data.toList)) := Lib.hid (one_yes HLN.out HH2.out HLEN.out (by rw [HOB.out, ← HB2.out]))
        obtain ⟨⟨e0, e1⟩, eb⟩ := set2 X5 B5 (Nat.le_refl _) (.int .i64 (q : Int)) (.string (s.extract 16 E))
        have EB := Lib.hid eb
        clear eb hw5 X5 B5 hS4 KEEP4
        go_wp2_with fail
        refine bodyPost_ret (v := .tuple #[.agg #[.int .i64 (q : Int), .string (s.extract 16 E)], .int .i64 0]) (by simp [results, Tryz.results30, go_sem, e0, e1]) rfl ?_
        rw [HR.out]
        exact ⟨by unfold oneV; rw [HQ.out, HBO.out], EB.out⟩
theorem first_any (s : ByteArray) (w : World) (hm : s.size ≤ maxLen) :
    Calls Tryz.prog 30 #[.string s] w fun e w' => e = .returned (oneV (recOf s.data.toList)) ∧ Below w.heap.size w w' := by
  by_cases hs : s.size < 16
  · exact first_short s w hs
  · exact first_long s w hs hm
end Go.Proofs.YtioidkbpjkcjeaaGreatDoor
