/- The record with which a text begins, by the document. Conditions: those that each theorem names. -/
import Derived.Test.YtioidkbpjkcjeaaGreatDoorWlC
import Derived.Test.YtioidkbpjkcjeaaGreatDoorWlB
namespace Go.Proofs.YtioidkbpjkcjeaaGreatDoor
set_option linter.unusedVariables false
open Go Go.RowKit Wl
def roneV : One → Value
  | .torn => .tuple #[.agg #[.int .i64 0, .string ⟨#[]⟩], .int .i64 0, .int .i64 91]
  | .bad => .tuple #[.agg #[.int .i64 0, .string ⟨#[]⟩], .int .i64 0, .int .i64 90]
  | .ok q b => .tuple #[.agg #[.int .i64 (q : Int), .string (tx b)], .int .i64 ((20 + b.length : Nat) : Int), .int .i64 0]
theorem runfix_any (s : ByteArray) (w : World) (h : 1 ≤ s.size) (h' : s.size ≤ 4) :
    Calls Tryz.prog 80 #[.string s] w fun e w' => e = .returned (.int .i64 (unB s : Int)) ∧ w = w' := by
  have hlt : unB s < 4294967296 := by
    have h1 := unfL_lt s.data.toList
    have h2 : 256 ^ s.data.toList.length ≤ 256 ^ 4 := Nat.pow_le_pow_right (by decide) (by rw [ln]; exact h')
    unfold unB; omega
  have C : Hid (Calls Tryz.prog 81 #[.string s] w fun e w' => e = .returned (.tuple #[.int .u64 (unB s : Int), .int .i64 0]) ∧ w = w') := Lib.hid (unfixRef_any s w h (by omega))
  have wn : wrap64 (unB s : Int) = (unB s : Int) := by unfold wrap64; omega
  have wn' : IntKind.i64.wrap (unB s : Int) = (unB s : Int) := IntWalk.i64_in _ (by omega)
  generalize unB s = n at *
  go_enter Tryz.func80, Tryz.ntmps80
  go_wp2_with (go_at_call 81; refine C.out.mono ?_; rintro e w2 ⟨rfl, rfl⟩)
  go_ret
  exact ⟨rfl, rfl⟩
set_option maxHeartbeats 2000000 in
set_option maxRecDepth 100000 in
theorem rone_short (s : ByteArray) (w : World) (hs : s.size < 16) :
    Calls Tryz.prog 60 #[.string s] w fun e w' => e = .returned (roneV (recOf s.data.toList)) ∧ Below w.heap.size w w' := by
  rw [one_short (by rw [ln]; exact hs)]
  have hs' : (s.size : Int) < 16 := by omega
  obtain ⟨c0, c1⟩ := cells2_of (zero_rec w)
  have HB := Lib.hid ((Below.refl w.heap.size w).alloc (Nat.le_refl _) (.cells #[.int .i64 0, .string ⟨#[]⟩] 62))
  go_enter Tryz.func60, Tryz.ntmps60
  go_wp2_with fail
  refine bodyPost_ret (v := .tuple #[.agg #[.int .i64 0, .string ⟨#[]⟩], .int .i64 0, .int .i64 91]) (by simp [results, Tryz.results60, go_sem, c0, c1]) rfl ?_
  exact ⟨rfl, HB.out⟩
set_option maxHeartbeats 4000000 in
set_option maxRecDepth 100000 in
theorem rone_long (s : ByteArray) (w : World) (hs : ¬ s.size < 16) (hm : s.size ≤ maxLen) :
    Calls Tryz.prog 60 #[.string s] w fun e w' => e = .returned (roneV (recOf s.data.toList)) ∧ Below w.heap.size w w' := by
  have hs' : ¬ (s.size : Int) < 16 := by omega
  have l4 : (4 : Int) ≤ (s.size : Int) := by omega
  have l12 : (12 : Int) ≤ (s.size : Int) := by omega
  have l16 : (16 : Int) ≤ (s.size : Int) := by omega
  have CS : Hid (∀ (t : ByteArray) (h : Hid (t.size ≤ maxLen)) (W : World), Calls Tryz.prog 63 #[.string t] W fun e w' => e = .returned (.string (sumB t)) ∧ Below W.heap.size W w') := Lib.hid (fun t h W => rsum_any t W h.out)
  obtain ⟨n, hn⟩ : ∃ n, n = unB (s.extract 0 4) := ⟨_, rfl⟩
  obtain ⟨q, hq⟩ : ∃ q, q = unB (s.extract 4 12) := ⟨_, rfl⟩
  have C4 := Lib.hid (fun W => runfix_any (s.extract 0 4) W (by simp; omega) (by simp; omega))
  have C8 : Hid (∀ W, Calls Tryz.prog 81 #[.string (s.extract 4 12)] W fun e w' => e = .returned (.tuple #[.int .u64 (unB (s.extract 4 12) : Int), .int .i64 0]) ∧ W = w') := Lib.hid (fun W => unfixRef_any (s.extract 4 12) W (by simp; omega) (by simp; omega))
  rw [← hn] at C4
  rw [← hq] at C8
  have HN : Hid (lenOf s.data.toList = n) := Lib.hid (by rw [lenOf_text, hn])
  have HQ : Hid (seqOf s.data.toList = q) := Lib.hid (by rw [seqOf_text, hq])
  have HNL : Hid (n < 4294967296) := Lib.hid (by rw [← HN.out]; exact lenOf_lt _ (by rw [ln]; exact hs))
  have HQL : Hid (q < 18446744073709551616) := Lib.hid (by rw [← HQ.out]; exact seqOf_lt _ (by rw [ln]; exact hs))
  have HLN : Hid (¬ s.data.toList.length < 16) := Lib.hid (by rw [ln]; exact hs)
  clear hn hq
  have HB := Lib.hid ((Below.refl w.heap.size w).alloc (Nat.le_refl _) (.cells #[.int .i64 0, .string ⟨#[]⟩] 62))
  have HZ := Lib.hid (zero_rec w)
  obtain ⟨b1, hb1⟩ : ∃ b, b = okH s := ⟨_, rfl⟩
  have hx : ((sumB (s.extract 0 12)).toList == (s.extract 12 16).toList) = b1 := by rw [st_is, hb1]; unfold okH; simp only [eq_comm]
  have HX1 := Lib.hid hb1
  have n12 : Hid ((s.extract 0 12).size ≤ maxLen) := Lib.hid (by simp; unfold maxLen; omega)
  clear hb1
  have HH := Lib.hid (okH_is s)
  rw [← HX1.out, HN.out, HQ.out] at HH
  go_enter Tryz.func60, Tryz.ntmps60
  go_wp2_with fail
  have HBS : Hid (w.heap.size < (w.alloc (.cells #[.int .i64 0, .string ⟨#[]⟩] 62)).heap.size) := Lib.hid (by simp)
  generalize w.alloc (.cells #[.int .i64 0, .string ⟨#[]⟩] 62) = W2 at *
  have hS0 : Below W2.heap.size W2 W2.drew := (Below.refl _ _).drew
  have KEEP : ∀ {x y : World}, Below W2.heap.size W2 x → Below x.heap.size x y → Below W2.heap.size W2 y := fun h g => h.trans (g.mono h.size)
  have KEPT : Hid (∀ x, Below W2.heap.size W2 x → x.heap[w.heap.size]? = some (.cells #[.int .i64 0, .string ⟨#[]⟩] 62 (0, 0)) ∧ Below w.heap.size w x) := Lib.hid (fun x h => ⟨(h.block _ HBS.out).trans HZ.out, HB.out.trans (h.mono (Nat.le_of_lt HBS.out))⟩)
  clear HB HZ HBS
  cases b1 with
  | false =>
    have HR : Hid (recOf s.data.toList = .bad) := Lib.hid (one_head HLN.out (by rw [HH.out]; rfl))
    refine wp_region_kept (C := fun x => Below W2.heap.size W2 x) (by kernel_rfl) (by kernel_rfl) hS0 ?_
    repeat (go_big_quiet_step (first | (intro hC; rfl) | (intro hC; go_at_call 63; refine (CS.out _ (by assumption) _).mono ?_; rintro e w1 ⟨rfl, hb⟩; exact ⟨rfl, KEEP hC hb⟩)))
    refine wpQuiet_nil ?_
    intro w4 hw4
    obtain ⟨X4, B4⟩ := KEPT.out w4 hw4
    obtain ⟨c0, c1⟩ := cells2_of X4
    have k0 : w4.frozen? ⟨w.heap.size, 0, none⟩ = false := frozen_of_row _ _ _ _ _ X4
    have k1 : w4.frozen? ⟨w.heap.size, 1, none⟩ = false := frozen_of_row _ _ _ _ _ X4
    obtain ⟨⟨e0, e1⟩, eb⟩ := set2 X4 B4 (Nat.le_refl _) (.int .i64 0) (.string ⟨#[]⟩)
    have EB := Lib.hid eb
    clear eb X4 B4 hw4
    go_wp2_with fail
    refine bodyPost_ret (v := .tuple #[.agg #[.int .i64 0, .string ⟨#[]⟩], .int .i64 0, .int .i64 90]) (by simp [results, Tryz.results60, go_sem, e0, e1]) rfl ?_
    rw [HR.out]
    exact ⟨rfl, EB.out⟩
  | true =>
    refine wp_region_kept (C := fun x => Below W2.heap.size W2 x) (by kernel_rfl) (by kernel_rfl) hS0 ?_
    repeat (go_big_quiet_step (first | (intro hC; rfl) | (intro hC; go_at_call 63; refine (CS.out _ (by assumption) _).mono ?_; rintro e w1 ⟨rfl, hb⟩; exact ⟨rfl, KEEP hC hb⟩)))
    refine wpQuiet_nil ?_
    intro w4 hw4
    have X4 := KEPT.out w4 hw4
    have HX4 := Lib.hid X4
    clear X4 hx n12 hS0 KEEP hw4 KEPT
    go_wp2_with fail
    refine (C4.out _).mono ?_
    rintro e w3 ⟨rfl, rfl⟩
    go_wp2_with fail
    refine (C8.out _).mono ?_
    rintro e w3 ⟨rfl, rfl⟩
    clear C4 C8
    have STORE : Hid (∀ x y : Value, ((w4.setCell ⟨w.heap.size, 0, none⟩ x).setCell ⟨w.heap.size, 1, none⟩ y).cell? ⟨w.heap.size, 0, none⟩ = some x ∧ ((w4.setCell ⟨w.heap.size, 0, none⟩ x).setCell ⟨w.heap.size, 1, none⟩ y).cell? ⟨w.heap.size, 1, none⟩ = some y ∧ Below w.heap.size w ((w4.setCell ⟨w.heap.size, 0, none⟩ x).setCell ⟨w.heap.size, 1, none⟩ y)) := Lib.hid (fun x y => by
      obtain ⟨⟨e0, e1⟩, eb⟩ := set2 HX4.out.1 HX4.out.2 (Nat.le_refl _) x y
      exact ⟨e0, e1, eb⟩)
    by_cases hbad : 16777216 < n ∨ q < 1 ∨ 4503599627370496 < q
    · have HR : Hid (recOf s.data.toList = .bad) := Lib.hid (one_head HLN.out (by
        rw [HH.out]
        by_cases h1 : 16777216 < n
        · rw [decide_eq_false (show ¬ n ≤ 16777216 by omega)]; rfl
        · by_cases h2 : q < 1
          · rw [decide_eq_false (show ¬ 1 ≤ q by omega)]; simp
          · rw [decide_eq_false (show ¬ q ≤ 4503599627370496 by omega)]; simp))
      have hcase : (16777216 : Int) < (n : Int) ∨ (¬ (16777216 : Int) < (n : Int) ∧ (q : Int) < 1) ∨ (¬ (16777216 : Int) < (n : Int) ∧ ¬ (q : Int) < 1 ∧ (4503599627370496 : Int) < (q : Int)) := by omega
      clear hbad HH HNL HQL
      obtain ⟨e0, e1, eb⟩ := STORE.out (.int .i64 0) (.string ⟨#[]⟩)
      have EB := Lib.hid eb
      clear eb
      obtain ⟨c0, c1⟩ := cells2_of HX4.out.1
      have k0 : w4.frozen? ⟨w.heap.size, 0, none⟩ = false := frozen_of_row _ _ _ _ _ HX4.out.1
      have k1 : w4.frozen? ⟨w.heap.size, 1, none⟩ = false := frozen_of_row _ _ _ _ _ HX4.out.1
      rcases hcase with d1 | ⟨d1, d2⟩ | ⟨d1, d2, d3⟩
      all_goals
        go_wp2_with fail
        refine bodyPost_ret (v := .tuple #[.agg #[.int .i64 0, .string ⟨#[]⟩], .int .i64 0, .int .i64 90]) (by simp [results, Tryz.results60, go_sem, e0, e1]) rfl ?_
        rw [HR.out]
        exact ⟨rfl, EB.out⟩
    · have hn2 : n ≤ 16777216 := by omega
      have hq2 : 1 ≤ q ∧ q ≤ 4503599627370496 := by omega
      have HH2 : Hid (headOk s.data.toList = true) := Lib.hid (by rw [HH.out, decide_eq_true hn2, decide_eq_true hq2.1, decide_eq_true hq2.2]; rfl)
      have d1 : decide ((16777216 : Int) < (n : Int)) = false := decide_eq_false (by omega)
      have d2 : decide ((q : Int) < 1) = false := decide_eq_false (by omega)
      have d3 : decide ((4503599627370496 : Int) < (q : Int)) = false := decide_eq_false (by omega)
      have wq : wrap64 (q : Int) = (q : Int) := by unfold wrap64; omega
      have wq' : IntKind.i64.wrap (q : Int) = (q : Int) := IntWalk.i64_in _ (by omega)
      obtain ⟨E, hE⟩ : ∃ E : Nat, E = 16 + n := ⟨_, rfl⟩
      obtain ⟨F, hF⟩ : ∃ F : Nat, F = 20 + n := ⟨_, rfl⟩
      have wE : wrap64 (16 + (n : Int)) = (E : Int) := by unfold wrap64; omega
      have wF : wrap64 (20 + (n : Int)) = (F : Int) := by unfold wrap64; omega
      have HE := Lib.hid hE
      have HF := Lib.hid hF
      have HN2 := Lib.hid hn2
      clear hbad hE hF HH hn2 hq2 HNL HQL
      by_cases hlen : s.size < F
      · have hl : (s.size : Int) < (F : Int) := by omega
        have HR : Hid (recOf s.data.toList = .torn) := Lib.hid (one_part HLN.out HH2.out (by rw [HN.out, ln]; have := HF.out; omega))
        obtain ⟨e0, e1, eb⟩ := STORE.out (.int .i64 0) (.string ⟨#[]⟩)
        have EB := Lib.hid eb
        clear eb
        obtain ⟨c0, c1⟩ := cells2_of HX4.out.1
        have k0 : w4.frozen? ⟨w.heap.size, 0, none⟩ = false := frozen_of_row _ _ _ _ _ HX4.out.1
        have k1 : w4.frozen? ⟨w.heap.size, 1, none⟩ = false := frozen_of_row _ _ _ _ _ HX4.out.1
        go_wp2_with fail
        refine bodyPost_ret (v := .tuple #[.agg #[.int .i64 0, .string ⟨#[]⟩], .int .i64 0, .int .i64 91]) (by simp [results, Tryz.results60, go_sem, e0, e1]) rfl ?_
        rw [HR.out]
        exact ⟨rfl, EB.out⟩
      · have hl : ¬ (s.size : Int) < (F : Int) := by omega
        have hl2 : (E : Int) ≤ (s.size : Int) := by have := HF.out; have := HE.out; omega
        have hl3 : (F : Int) ≤ (s.size : Int) := by omega
        have hl4 : (16 : Int) ≤ (E : Int) := by have := HE.out; omega
        have hl5 : (E : Int) ≤ (F : Int) := by have := HF.out; have := HE.out; omega
        have HLEN : Hid (¬ s.data.toList.length < 20 + lenOf s.data.toList) := Lib.hid (by rw [HN.out, ln]; have := HF.out; omega)
        have HOB := Lib.hid (okB_is s)
        obtain ⟨b2, hb2⟩ : ∃ b, b = okB s := ⟨_, rfl⟩
        have HB2 := Lib.hid hb2
        have hx2 : ((sumB (s.extract 4 12 ++ s.extract 16 E)).toList == (s.extract E F).toList) = b2 := by
          rw [st_is, hb2]; unfold okB; rw [HN.out, HF.out, HE.out]; simp only [eq_comm]
        have z1 : (s.extract 4 12).size = 8 := by simp; omega
        have z2 : (s.extract 16 E).size = E - 16 := by have := HF.out; have := HE.out; simp; omega
        have m1 : ¬ 9223372036854775807 < (s.extract 4 12).size + (s.extract 16 E).size := by unfold maxLen at hm; omega
        have n2 : Hid ((s.extract 4 12 ++ s.extract 16 E).size ≤ maxLen) := Lib.hid (by rw [ByteArray.size_append, z1, z2]; unfold maxLen; have := HE.out; have := HN2.out; omega)
        have HBO : Hid (s.extract 16 E = tx (bodyOf s.data.toList)) := Lib.hid (by rw [bodyOf_text, HN.out, HE.out])
        clear hb2 z1 z2 hlen STORE
        go_wp2_with fail
        have hS4 : Below w4.heap.size w4 w4.drew := (Below.refl _ _).drew
        have KEEP4 : ∀ {x y : World}, Below w4.heap.size w4 x → Below x.heap.size x y → Below w4.heap.size w4 y := fun h g => h.trans (g.mono h.size)
        have HW4 : Hid (w.heap.size < w4.heap.size) := Lib.hid (Array.getElem?_eq_some_iff.1 HX4.out.1).1
        refine wp_region_kept (C := fun x => Below w4.heap.size w4 x) (by kernel_rfl) (by kernel_rfl) hS4 ?_
        repeat (go_big_quiet_step (first | (intro hC; rfl) | (intro hC; go_at_call 63; refine (CS.out _ (by assumption) _).mono ?_; rintro e w1 ⟨rfl, hb⟩; exact ⟨rfl, KEEP4 hC hb⟩)))
        refine wpQuiet_nil ?_
        intro w5 hw5
        have X5 : w5.heap[w.heap.size]? = some (.cells #[.int .i64 0, .string ⟨#[]⟩] 62 (0, 0)) := (hw5.block _ HW4.out).trans HX4.out.1
        have B5 : Below w.heap.size w w5 := HX4.out.2.trans (hw5.mono (Nat.le_of_lt HW4.out))
        obtain ⟨c0, c1⟩ := cells2_of X5
        have k0 : w5.frozen? ⟨w.heap.size, 0, none⟩ = false := frozen_of_row _ _ _ _ _ X5
        have k1 : w5.frozen? ⟨w.heap.size, 1, none⟩ = false := frozen_of_row _ _ _ _ _ X5
        cases b2 with
        | false =>
          have HR : Hid (recOf s.data.toList = .bad) := Lib.hid (one_body HLN.out HH2.out HLEN.out (by rw [HOB.out, ← HB2.out]))
          obtain ⟨⟨e0, e1⟩, eb⟩ := set2 X5 B5 (Nat.le_refl _) (.int .i64 0) (.string ⟨#[]⟩)
          have EB := Lib.hid eb
          clear eb hw5 X5 B5 hS4 KEEP4
          go_wp2_with fail
          refine bodyPost_ret (v := .tuple #[.agg #[.int .i64 0, .string ⟨#[]⟩], .int .i64 0, .int .i64 90]) (by simp [results, Tryz.results60, go_sem, e0, e1]) rfl ?_
          rw [HR.out]
          exact ⟨rfl, EB.out⟩
        | true =>
          have HR : Hid (recOf s.data.toList = .ok (seqOf s.data.toList) (bodyOf s.data.toList)) := Lib.hid (one_yes HLN.out HH2.out HLEN.out (by rw [HOB.out, ← HB2.out]))
          have HBL : Hid (20 + (bodyOf s.data.toList).length = F) := Lib.hid (by rw [bodyOf_len HLEN.out, HN.out, HF.out])
          obtain ⟨⟨e0, e1⟩, eb⟩ := set2 X5 B5 (Nat.le_refl _) (.int .i64 (q : Int)) (.string (s.extract 16 E))
          have EB := Lib.hid eb
          clear eb hw5 X5 B5 hS4 KEEP4
          go_wp2_with fail
          refine bodyPost_ret (v := .tuple #[.agg #[.int .i64 (q : Int), .string (s.extract 16 E)], .int .i64 (F : Int), .int .i64 0]) (by simp [results, Tryz.results60, go_sem, e0, e1, wF]) rfl ?_
          rw [HR.out]
          exact ⟨by rw [HQ.out, HBO.out, ← HBL.out]; rfl, EB.out⟩
theorem rone_any (s : ByteArray) (w : World) (hm : s.size ≤ maxLen) :
    Calls Tryz.prog 60 #[.string s] w fun e w' => e = .returned (roneV (recOf s.data.toList)) ∧ Below w.heap.size w w' := by
  by_cases hs : s.size < 16
  · exact rone_short s w hs
  · exact rone_long s w hs hm
end Go.Proofs.YtioidkbpjkcjeaaGreatDoor
