/- The laws' same and awake. Conditions: those that each theorem names. -/
import Derived.Test.YtfgmkdghpdpdkaaScQ
namespace Go.Proofs.Ytfgmkdghpdpdkaa
set_option linter.unusedVariables false
open Go Go.RowKit Go.Shelf Go.Sort Vc Rk
namespace Sc
set_option maxHeartbeats 2000000 in
set_option maxRecDepth 100000 in
theorem same2_any (A B C D : List Int) (a b c d : Value) (w : World) (ha : IntsAt w a A) (hb : IntsAt w b B) (hc : IntsAt w c C) (hd : IntsAt w d D) (lA : A.length ≤ maxLen) (lB : B.length ≤ maxLen) (lC : C.length ≤ maxLen) (lD : D.length ≤ maxLen) :
    Calls Try.prog 9 #[.agg #[a, b], .agg #[c, d]] w fun e w' => e = .returned (.bool (decide (A = C) && decide (B = D))) ∧ Below w.heap.size w w' := by
  obtain ⟨W2, hW2⟩ : ∃ W2, W2 = (w.alloc (.cells #[a, b] 25)).alloc (.cells #[c, d] 25) := ⟨_, rfl⟩
  have hb2 : Below w.heap.size w W2 := by rw [hW2]; exact ((Below.refl _ w).alloc (Nat.le_refl _) _).alloc (by simp) _
  have h1 : W2.heap[w.heap.size]? = some (.cells #[a, b] 25) := by rw [hW2, heap_old _ _ (by simp)]; exact heap_last _ _
  have h2 : W2.heap[w.heap.size + 1]? = some (.cells #[c, d] 25) := by
    have h := heap_last (w.alloc (.cells #[a, b] 25)) (.cells #[c, d] 25)
    rw [show (w.alloc (.cells #[a, b] 25)).heap.size = w.heap.size + 1 by simp, ← hW2] at h
    exact h
  have HK : Hid (∀ W, Below W2.heap.size W2 W → (W.cell? ⟨w.heap.size, 0, none⟩ = some a ∧ W.cell? ⟨w.heap.size, 1, none⟩ = some b) ∧ W.cell? ⟨w.heap.size + 1, 0, none⟩ = some c ∧ W.cell? ⟨w.heap.size + 1, 1, none⟩ = some d) := Lib.hid (fun W hW => by
    have g1 := (hW.block _ (lt_of_block h1)).trans h1
    have g2 := (hW.block _ (lt_of_block h2)).trans h2
    refine ⟨⟨?_, ?_⟩, ?_, ?_⟩
    · rw [Lib.cell_of_heap g1]; rfl
    · rw [Lib.cell_of_heap g1]; rfl
    · rw [Lib.cell_of_heap g2]; rfl
    · rw [Lib.cell_of_heap g2]; rfl)
  obtain ⟨⟨x0, x1⟩, y0, y1⟩ := HK.out W2 (Below.refl _ _)
  have C1 := Lib.hid (Go.Proofs.Ytfgmkdghpdpdkaa.same_any A C a c W2 (ha.below hb2) (hc.below hb2) lA lC)
  have C2 : Hid (∀ W, Below W2.heap.size W2 W → Calls Try.prog 15 #[b, d] W fun e w' => e = .returned (.bool (decide (B = D))) ∧ Below W.heap.size W w') := Lib.hid (fun W hW => Go.Proofs.Ytfgmkdghpdpdkaa.same_any B D b d W ((hb.below hb2).below hW) ((hd.below hb2).below hW) lB lD)
  have HB := Lib.hid hb2
  obtain ⟨pa, ca, e1⟩ := ha.form
  obtain ⟨pb, cb, e2⟩ := hb.form
  obtain ⟨pc, cc, e3⟩ := hc.form
  obtain ⟨pd, cd, e4⟩ := hd.form
  subst e1; subst e2; subst e3; subst e4
  clear hb2 h1 h2 ha hb hc hd lA lB lC lD
  generalize decide (A = C) = t1 at *
  generalize decide (B = D) = t2 at *
  cases t1 with
  | false =>
    simp only [Bool.false_and]
    go_enter Try.func9, Try.ntmps9
    go_upto_region 1 with fail
    rw [← hW2]
    clear hW2
    go_wp2_with fail
    refine C1.out.mono ?_
    rintro e w3 ⟨rfl, h3⟩
    have HF := Lib.hid (HB.out.trans (h3.mono HB.out.size))
    clear h3
    go_wp2_with fail
    go_ret
    exact ⟨rfl, HF.out⟩
  | true =>
    simp only [Bool.true_and]
    go_enter Try.func9, Try.ntmps9
    go_upto_region 1 with fail
    rw [← hW2]
    clear hW2
    go_wp2_with fail
    refine C1.out.mono ?_
    rintro e w3 ⟨rfl, h3⟩
    have HF := Lib.hid (HB.out.trans (h3.mono HB.out.size))
    obtain ⟨⟨x0, x1⟩, y0, y1⟩ := HK.out w3 h3
    have C3 := Lib.hid (C2.out w3 h3)
    clear h3
    go_wp2_with fail
    refine C3.out.mono ?_
    rintro e w4 ⟨rfl, h4⟩
    have HF2 := Lib.hid (HF.out.trans (h4.mono HF.out.size))
    clear h4
    go_wp2_with fail
    go_ret
    exact ⟨rfl, HF2.out⟩
/-! ### the example -/
theorem aw_lo : trainLo [[0, 10], [255, 10]] = [0, 10] := by decide
theorem aw_hi : trainHi [[0, 10], [255, 10]] = [255, 10] := by decide
theorem aw_rows : rowsB [[0, 10], [255, 10]] = true := by decide
theorem aw_enc : encQ [0, 10] [255, 10] [128, 10] = ([128, 0], 0) := by decide +kernel
theorem aw_dec : decQ [0, 10] [255, 10] [128, 0] = ([128, 10], 0) := by decide +kernel
theorem aw_may : mayB [0, 10] [255, 10] = true := by decide
theorem aw_left1 : leftL (spansL [0, 10] [255, 10]) [0, 10] = [0, 10] := by decide +kernel
theorem aw_left2 : leftL (spansL [0, 10] [255, 10]) [255, 10] = [255, 10] := by decide +kernel
theorem aw_sc1 : scQ [1, 10] [0, 10] 1 = 1 := by
  rw [scQ_yes (by unfold scoreOk; decide +kernel)]; decide +kernel
theorem aw_sc2 : scQ [1, 10] [255, 10] 1 = 64516 := by
  rw [scQ_yes (by unfold scoreOk; decide +kernel)]; decide +kernel
theorem aw_hits (e1 e2 : It) (h1 : e1.id = 1 ∧ e1.V = [0, 10]) (h2 : e2.id = 2 ∧ e2.V = [255, 10]) (L' : List Ca) (hp : L'.Perm ([e1, e2].map (caOf 1 (spansL [0, 10] [255, 10]) [1, 10]))) (hpw : L'.Pairwise (fun a b => ltOf (cfC 1) b a = false)) :
    Tk.sortH 1 ((L'.take (cutN 1 2)).map fun c => trueH 1 [1, 10] c.2) = [(1, 1)] := by
  have ec : cutN 1 2 = 1 := by decide
  have c1 : caOf 1 (spansL [0, 10] [255, 10]) [1, 10] e1 = ((1, 1), e1) := by unfold caOf; rw [h1.1, h1.2, aw_left1, aw_sc1]
  have c2 : caOf 1 (spansL [0, 10] [255, 10]) [1, 10] e2 = ((2, 64516), e2) := by unfold caOf; rw [h2.1, h2.2, aw_left2, aw_sc2]
  rw [List.map_cons, List.map_cons, List.map_nil, c1, c2] at hp
  rw [ec]
  have hlen := hp.length_eq
  match L', hlen with
  | [x, y], _ =>
    have hx : x = ((1, 1), e1) := by
      have hmx := hp.mem_iff.1 (show x ∈ [x, y] by simp)
      rcases List.mem_cons.1 hmx with e | e
      · exact e
      · have e := List.mem_singleton.1 e
        have hy : y = ((1, 1), e1) := by
          have hq := hp
          rw [e] at hq
          have hq2 := hq.trans (List.Perm.swap _ _ _)
          have := (List.perm_cons _).1 hq2
          simpa using this
        rw [e, hy] at hpw
        have hb := (List.pairwise_cons.1 hpw).1 ((1, 1), e1) (by simp)
        rw [ltC] at hb
        exact absurd hb (by show ¬ Tk.ltH 1 (1, 1) (2, 64516) = false; decide +kernel)
    subst hx
    have ht : trueH 1 [1, 10] e1 = (1, 1) := by unfold trueH; rw [h1.1, h1.2, aw_sc1]
    simp only [List.take_succ_cons, List.take_zero, List.map_cons, List.map_nil, ht]
    unfold Tk.sortH
    rw [if_pos (by decide)]
    simp [Tk.srt]
theorem aw_new (w : World) (a b : Int) : IntsAt (w.alloc (.cells #[.int .i64 a, .int .i64 b] 3)) (.slice (some ⟨w.heap.size, 0, none⟩) 2 2) [a, b] := new_ints w [a, b] 2 rfl
theorem rows_lit {w : World} {g : Nat} {p1 p2 : Option Addr} {r1 r2 : List Int} {T : TypeId} {m : Nat × Nat} (h : w.heap[g]? = some (.cells #[.slice p1 2 2, .slice p2 2 2] T m)) (h1 : IntsAt w (.slice p1 2 2) r1) (h2 : IntsAt w (.slice p2 2 2) r2) (l1 : r1.length = 2) (l2 : r2.length = 2) :
    RowsAt w (.slice (some ⟨g, 0, none⟩) 2 2) [r1, r2] := by
  refine ⟨_, 2, rfl, Nat.le_refl _, fun _ => ⟨g, 0, rfl, lt_of_block h, fun k r hr => ?_⟩⟩
  have hk : k = 0 ∨ k = 1 := by
    have := (List.getElem?_eq_some_iff.1 hr).1
    simp at this; omega
  rcases hk with rfl | rfl
  · obtain rfl : r1 = r := by simpa using hr
    refine ⟨p1, 2, fun wr hw => ?_, by rw [l1]; exact h1⟩
    rw [Lib.cell_of_heap ((hw.block g (lt_of_block h)).trans h), l1]; rfl
  · obtain rfl : r2 = r := by simpa using hr
    refine ⟨p2, 2, fun wr hw => ?_, by rw [l2]; exact h2⟩
    rw [Lib.cell_of_heap ((hw.block g (lt_of_block h)).trans h), l2]; rfl
theorem items_lit {w : World} {g : Nat} {E : List It} {T : TypeId} {m : Nat × Nat} (h : w.heap[g]? = some (.cells (rowC encT E).toArray T m)) (c : Nat) : RowAt encT 2 w (.slice (some ⟨g, 0, none⟩) E.length c) E :=
  .inr ⟨g, 0, c, rfl, lt_of_block h, fun W hW j hj i u hu => by
    have hi : i < 2 := (List.getElem?_eq_some_iff.1 hu).1
    rw [Lib.cell_of_heap (hW.trans h), Nat.zero_add, List.getElem?_toArray, rowC_at flatT E j hj i hi]
    exact hu⟩
set_option maxHeartbeats 8000000 in
set_option maxRecDepth 100000 in
theorem awake_yes (w : World) :
    Calls Try.prog 10 #[] w fun e w' => e = .returned (.bool true) ∧ Below w.heap.size w w' := by
  have s1 : ∀ o, (w.alloc o).heap.size = w.heap.size + 1 := fun o => by simp
  have s2 : ∀ o o', ((w.alloc o).alloc o').heap.size = w.heap.size + 1 + 1 := fun o o' => by simp
  obtain ⟨W3, hW3⟩ : ∃ W3, W3 = ((w.alloc (.cells #[.int .i64 0, .int .i64 10] 3)).alloc (.cells #[.int .i64 255, .int .i64 10] 3)).alloc (.cells #[.slice (some ⟨w.heap.size, 0, none⟩) 2 2, .slice (some ⟨w.heap.size + 1, 0, none⟩) 2 2] 23) := ⟨_, rfl⟩
  have hb3 : Below w.heap.size w W3 := by rw [hW3]; exact (((Below.refl _ w).alloc (Nat.le_refl _) _).alloc (by simp) _).alloc (by simp; omega) _
  have hR3 : RowsAt W3 (.slice (some ⟨w.heap.size + 1 + 1, 0, none⟩) 2 2) [[0, 10], [255, 10]] := by
    have g1 := aw_new w 0 10
    have g2 := aw_new (w.alloc (.cells #[.int .i64 0, .int .i64 10] 3)) 255 10
    rw [s1] at g2
    have g1' := (g1.below (fresh_alloc _ (.cells #[.int .i64 255, .int .i64 10] 3))).below (fresh_alloc _ (.cells #[.slice (some ⟨w.heap.size, 0, none⟩) 2 2, .slice (some ⟨w.heap.size + 1, 0, none⟩) 2 2] 23))
    have g2' := g2.below (fresh_alloc _ (.cells #[.slice (some ⟨w.heap.size, 0, none⟩) 2 2, .slice (some ⟨w.heap.size + 1, 0, none⟩) 2 2] 23))
    have g3 := heap_last ((w.alloc (.cells #[.int .i64 0, .int .i64 10] 3)).alloc (.cells #[.int .i64 255, .int .i64 10] 3)) (.cells #[.slice (some ⟨w.heap.size, 0, none⟩) 2 2, .slice (some ⟨w.heap.size + 1, 0, none⟩) 2 2] 23)
    rw [s2] at g3
    rw [hW3]
    exact rows_lit g3 g1' g2' rfl rfl
  have C1 := train_any [[0, 10], [255, 10]] _ W3 hR3 (by decide) (by decide)
  rw [aw_rows, aw_lo, aw_hi] at C1
  have C1 := Lib.hid C1
  have HB3 := Lib.hid hb3
  clear hR3 hb3 s1 s2
  go_enter Try.func10, Try.ntmps10
  go_wp2_with fail
  rw [← hW3]
  clear hW3
  with_reducible refine C1.out.mono ?_
  rintro e w4 ⟨a, b, rfl, ha, hb, hb4⟩
  obtain ⟨pa, ca, ea⟩ := (ownN_own ha).at.form
  obtain ⟨pb, cb, eb⟩ := (ownN_own hb).at.form
  have hia := (ownN_own ha).at
  have hib := (ownN_own hb).at
  subst ea; subst eb
  have HW4 := Lib.hid (HB3.out.trans (hb4.mono HB3.out.size))
  clear ha hb hb4 C1
  go_upto_region 2 with fail
  simp only [List.length_cons, List.length_nil, Nat.zero_add, Nat.reduceAdd, if_true] at hia hib ⊢
  obtain ⟨W5, hW5⟩ : ∃ W5, W5 = w4.alloc (.cells #[.slice pa 2 ca, .slice pb 2 cb] 25) := ⟨_, rfl⟩
  have hb5 : Below w4.heap.size w4 W5 := by rw [hW5]; exact fresh_alloc _ _
  have hq : W5.heap[w4.heap.size]? = some (.cells #[.slice pa 2 ca, .slice pb 2 cb] 25) := by rw [hW5]; exact heap_last _ _
  have HA5 := Lib.hid (hia.below hb5)
  have HI5 := Lib.hid (hib.below hb5)
  have HB5 := Lib.hid (HW4.out.trans (hb5.mono HW4.out.size))
  have HQ : Hid (∀ W, Below W5.heap.size W5 W → W.cell? ⟨w4.heap.size, 0, none⟩ = some (.slice pa 2 ca) ∧ W.cell? ⟨w4.heap.size, 1, none⟩ = some (.slice pb 2 cb)) := Lib.hid (fun W hW => by
    have g1 := (hW.block _ (lt_of_block hq)).trans hq
    exact ⟨by rw [Lib.cell_of_heap g1]; rfl, by rw [Lib.cell_of_heap g1]; rfl⟩)
  rw [← hW5]
  clear hW5 hia hib hb5 hq
  generalize w4.heap.size = q at *
  obtain ⟨x0, x1⟩ := HQ.out W5 (Below.refl _ _)
  have x0' := fun o => (HQ.out (W5.alloc o) (fresh_alloc _ _)).1
  have x1' := fun o => (HQ.out (W5.alloc o) (fresh_alloc _ _)).2
  have C2 := Encode_any [0, 10] [255, 10] [128, 10] _ _ _ (W5.alloc (.cells #[.int .i64 128, .int .i64 10] 3)) (HA5.out.below (fresh_alloc _ _)) (HI5.out.below (fresh_alloc _ _)) (aw_new W5 128 10) (by decide) (by decide) (by decide)
  rw [aw_enc] at C2
  have C2 := Lib.hid (C2.mono fun e w' h => (⟨h.1, (fresh_alloc W5 _).trans (h.2.mono (by simp))⟩ : e = .returned (.tuple #[.string ⟨#[128, 0]⟩, .int .i64 0]) ∧ Below W5.heap.size W5 w'))
  go_wp2_with fail
  with_reducible refine C2.out.mono ?_
  rintro e w6 ⟨rfl, hb6⟩
  have HB6 := Lib.hid hb6
  obtain ⟨x0, x1⟩ := HQ.out w6 hb6
  have C3 := Decode_any [0, 10] [255, 10] [128, 0] _ _ w6 (HA5.out.below hb6) (HI5.out.below hb6) (by decide) (by decide) (by decide)
  rw [aw_dec] at C3
  have C3 := Lib.hid (C3.mono fun e w' h => (h : ∃ r, e = .returned (.tuple #[r, .int .i64 0]) ∧ OwnN w' w6.heap.size r [128, 10] ∧ Below w6.heap.size w6 w'))
  rw [show tx [128, 0] = ⟨#[128, 0]⟩ from rfl] at C3
  clear C2 x0' x1' hb6
  go_wp2_with fail
  with_reducible refine C3.out.mono ?_
  rintro e w7 ⟨r, rfl, hor, hb7⟩
  obtain ⟨pr, cr, er⟩ := (ownN_own hor).at.form
  have hir := (ownN_own hor).at
  subst er
  simp only [List.length_cons, List.length_nil, Nat.zero_add, Nat.reduceAdd] at hir ⊢
  have hb57 := HB6.out.trans (hb7.mono HB6.out.size)
  have HB7 := Lib.hid hb57
  have HIR := Lib.hid hir
  obtain ⟨x0, x1⟩ := HQ.out w7 hb57
  clear hor hir hb7 hb57 C3
  go_upto_region 4 with fail
  have HX4 : Hid (∀ W, Below w7.heap.size w7 W → W.cell? ⟨q, 0, none⟩ = some (.slice pa 2 ca) ∧ W.cell? ⟨q, 1, none⟩ = some (.slice pb 2 cb)) := Lib.hid (fun W hW => HQ.out W (HB7.out.trans (hW.mono HB7.out.size)))
  obtain ⟨W8, hW8⟩ : ∃ W8, W8 = (((w7.alloc (.cells #[.int .i64 1, .int .i64 10] 3)).alloc (.cells #[.int .i64 0, .int .i64 10] 3)).alloc (.cells #[.int .i64 255, .int .i64 10] 3)).alloc
      (.cells #[.int .i64 1, .slice (some ⟨w7.heap.size + 1, 0, none⟩) 2 2, .int .i64 2, .slice (some ⟨w7.heap.size + 1 + 1, 0, none⟩) 2 2] 49) := ⟨_, rfl⟩
  have t1 : ∀ o, (w7.alloc o).heap.size = w7.heap.size + 1 := fun o => by simp
  have t2 : ∀ o o', ((w7.alloc o).alloc o').heap.size = w7.heap.size + 1 + 1 := fun o o' => by simp
  have t3 : ∀ o o' o2, (((w7.alloc o).alloc o').alloc o2).heap.size = w7.heap.size + 1 + 1 + 1 := fun o o' o2 => by simp
  have hv1 := aw_new w7 1 10
  have hv2 := aw_new (w7.alloc (.cells #[.int .i64 1, .int .i64 10] 3)) 0 10
  rw [t1] at hv2
  have hv3 := aw_new ((w7.alloc (.cells #[.int .i64 1, .int .i64 10] 3)).alloc (.cells #[.int .i64 0, .int .i64 10] 3)) 255 10
  rw [t2] at hv3
  have hi8 := heap_last (((w7.alloc (.cells #[.int .i64 1, .int .i64 10] 3)).alloc (.cells #[.int .i64 0, .int .i64 10] 3)).alloc (.cells #[.int .i64 255, .int .i64 10] 3))
      (.cells #[.int .i64 1, .slice (some ⟨w7.heap.size + 1, 0, none⟩) 2 2, .int .i64 2, .slice (some ⟨w7.heap.size + 1 + 1, 0, none⟩) 2 2] 49)
  rw [t3] at hi8
  have hv1' := ((hv1.below (fresh_alloc _ (.cells #[.int .i64 0, .int .i64 10] 3))).below (fresh_alloc _ (.cells #[.int .i64 255, .int .i64 10] 3))).below (fresh_alloc _ (.cells #[.int .i64 1, .slice (some ⟨w7.heap.size + 1, 0, none⟩) 2 2, .int .i64 2, .slice (some ⟨w7.heap.size + 1 + 1, 0, none⟩) 2 2] 49))
  have hv2' := (hv2.below (fresh_alloc _ (.cells #[.int .i64 255, .int .i64 10] 3))).below (fresh_alloc _ (.cells #[.int .i64 1, .slice (some ⟨w7.heap.size + 1, 0, none⟩) 2 2, .int .i64 2, .slice (some ⟨w7.heap.size + 1 + 1, 0, none⟩) 2 2] 49))
  have hv3' := hv3.below (fresh_alloc _ (.cells #[.int .i64 1, .slice (some ⟨w7.heap.size + 1, 0, none⟩) 2 2, .int .i64 2, .slice (some ⟨w7.heap.size + 1 + 1, 0, none⟩) 2 2] 49))
  have hb78 : Below w7.heap.size w7 W8 := by
    rw [hW8]
    exact ((((Below.refl _ w7).alloc (Nat.le_refl _) _).alloc (by simp) _).alloc (by simp; omega) _).alloc (by simp; omega) _
  rw [← hW8] at hi8 hv1' hv2' hv3'
  obtain ⟨E, hE⟩ : ∃ E : List It, E = [⟨1, some ⟨w7.heap.size + 1, 0, none⟩, 2, 2, [0, 10]⟩, ⟨2, some ⟨w7.heap.size + 1 + 1, 0, none⟩, 2, 2, [255, 10]⟩] := ⟨_, rfl⟩
  have hEI : RowAt encT 2 W8 (.slice (some ⟨w7.heap.size + 1 + 1 + 1, 0, none⟩) 2 2) E := by
    have h := items_lit (E := E) (w := W8) (g := w7.heap.size + 1 + 1 + 1) (by rw [hi8, hE]; rfl) 2
    rw [show E.length = 2 by rw [hE]; rfl] at h
    exact h
  have hb58 := HB7.out.trans (hb78.mono HB7.out.size)
  have C4 := search_any 1 [0, 10] [255, 10] [1, 10] E (.slice pa 2 ca) (.slice pb 2 cb) (.slice (some ⟨w7.heap.size, 0, none⟩) 2 2) (.slice (some ⟨w7.heap.size + 1 + 1 + 1, 0, none⟩) 2 2) 1 W8 (HA5.out.below hb58) (HI5.out.below hb58) hv1' hEI
    (fun e he => by
      rw [hE] at he
      rcases List.mem_cons.1 he with rfl | he
      · exact hv2'
      · rw [List.mem_singleton.1 he]; exact hv3') (by decide) (by decide) aw_may (by decide +kernel) (fun e he => by
      rw [hE] at he
      rcases List.mem_cons.1 he with rfl | he
      · show chk [0, 10] 2 1 = 0; decide +kernel
      · rw [List.mem_singleton.1 he]; show chk [255, 10] 2 1 = 0; decide +kernel) (by rw [hE]; show 0 < 2; decide) (by rw [hE]; show 2 * 48 ≤ _; decide) (stable_small 1 _ (by rw [hE]; simp) (by rw [hE]; simp))
  have C4 := Lib.hid (C4.mono fun e w' h => (by
    obtain ⟨⟨r, L', h1, h2, h3, h4⟩, h5⟩ := h
    rw [hE] at h2 h3
    have h6 := aw_hits _ _ ⟨rfl, rfl⟩ ⟨rfl, rfl⟩ L' h3 h4
    refine ⟨r, h1, ?_, hb78.trans (h5.mono hb78.size)⟩
    have h7 : cutN 1 (List.length ([⟨1, some ⟨w7.heap.size + 1, 0, none⟩, 2, 2, [0, 10]⟩, ⟨2, some ⟨w7.heap.size + 1 + 1, 0, none⟩, 2, 2, [255, 10]⟩] : List It)) = cutN 1 2 := rfl
    rw [h7, h6] at h2
    exact Tq.own_hits h2 : ∃ r, e = .returned (.tuple #[r, .int .i64 0]) ∧ Tq.HsAt w' r [(1, 1)] ∧ Below w7.heap.size w7 w'))
  clear hi8 hv1 hv2 hv3 hv1' hv2' hv3' hb78 hb58 hE hEI t1 t2 t3
  have hx1 : w7.cell? ⟨q, 0, none⟩ = some (.slice pa 2 ca) := x0
  go_wp2_with fail
  rw [← hW8]
  clear hW8
  with_reducible refine C4.out.mono ?_
  rintro e w9 ⟨r9, rfl, hh9, hb9⟩
  obtain ⟨p9, c9, e9⟩ := hh9.form
  subst e9
  simp only [List.length_cons, List.length_nil, Nat.zero_add, Nat.reduceAdd] at hh9 ⊢
  have HH9 := Lib.hid hh9
  have HB9 := Lib.hid (HB7.out.trans (hb9.mono HB7.out.size))
  have C5 := Go.Proofs.Ytfgmkdghpdpdkaa.same_any [128, 10] [128, 10] (.slice pr 2 cr) (.slice (some ⟨w9.heap.size, 0, none⟩) 2 2) (w9.alloc (.cells #[.int .i64 128, .int .i64 10] 3)) ((HIR.out.below hb9).below (fresh_alloc _ _)) (aw_new w9 128 10) (by decide) (by decide)
  have HC5 := Lib.hid (C5.mono fun e w' h => (⟨h.1, (fresh_alloc w9 _).trans (h.2.mono (by simp))⟩ : e = .returned (.bool true) ∧ Below w9.heap.size w9 w'))
  clear hh9 hb9 C4 C5
  have hstr : ((⟨#[128, 0]⟩ : ByteArray).toList == (⟨#[128, 0]⟩ : ByteArray).toList) = true := beq_self_eq_true _
  go_wp2_with fail
  with_reducible refine HC5.out.mono ?_
  rintro e w10 ⟨rfl, hb10⟩
  have hb910 := HB9.out.trans (hb10.mono HB9.out.size)
  have hlit := heap_last w10 (.cells #[.int .i64 1, .int .i64 1] 53)
  have hlh : Tq.HsAt (w10.alloc (.cells #[.int .i64 1, .int .i64 1] 53)) (.slice (some ⟨w10.heap.size, 0, none⟩) 1 1) [(1, 1)] := .inr ⟨w10.heap.size, 0, 1, rfl, by simp, fun W hW j hj => by
    obtain rfl : j = 0 := by simpa using hj
    constructor <;> rw [Lib.cell_of_heap (hW.trans hlit)] <;> rfl⟩
  have C6 := Tq.same_any [(1, 1)] [(1, 1)] (.slice p9 1 c9) (.slice (some ⟨w10.heap.size, 0, none⟩) 1 1) (w10.alloc (.cells #[.int .i64 1, .int .i64 1] 53)) ((HH9.out.below hb10).below (fresh_alloc _ _)) hlh (by decide)
  have HB10 := Lib.hid (HB5.out.trans (hb910.mono HB5.out.size))
  have HC6 := Lib.hid (C6.mono fun e w' h => (⟨h.1, (fresh_alloc w10 _).trans (h.2.below.mono (by simp))⟩ : e = .returned (.bool true) ∧ Below w10.heap.size w10 w'))
  clear hb10 hb910 hlit hlh HC5 C6
  go_wp2_with fail
  with_reducible refine HC6.out.mono ?_
  rintro e w11 ⟨rfl, hb11⟩
  have HF := Lib.hid (HB10.out.trans (hb11.mono HB10.out.size))
  clear hb11
  go_wp2_with fail
  go_ret
  exact ⟨rfl, HF.out⟩
end Sc
end Go.Proofs.Ytfgmkdghpdpdkaa
