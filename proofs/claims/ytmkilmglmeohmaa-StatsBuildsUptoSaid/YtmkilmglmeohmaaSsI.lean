/- The examples of the document's chapter. Conditions: none. -/
import Derived.Test.YtmkilmglmeohmaaSsG
import Derived.Test.YtmkilmglmeohmaaSsH
namespace Go.Proofs.Ytmkilmglmeohmaa
set_option linter.unusedVariables false
open Go Go.RowKit Go.Sort
namespace Ss
theorem ten_bks : bks (srt [1, 2, 3, 4, 5, 6, 7, 8, 9, 10]) (many 2 10) = [(1, 5, 5, 5), (6, 10, 5, 5)] := by
  rw [← sortL_is]
  decide +kernel
theorem ten_btw : btw 1 7 [(1, 5, 5, 5), (6, 10, 5, 5)] = (5, 7, 10) := by decide +kernel
theorem ten_and : andL 100 [50, 20] = 10 := by decide +kernel
theorem ten_or : orL 100 [50, 20] = 60 := by decide +kernel
theorem no_runs : runs (srt (hs [])) = [] := by rw [← sortL_is]; rfl
theorem ten_ok : ∀ b ∈ [((1, 5, 5, 5) : Bk), (6, 10, 5, 5)], OkBk b := by
  intro b hb
  simp at hb
  rcases hb with rfl | rfl <;> (unfold OkBk; decide)
set_option maxHeartbeats 2000000 in
set_option maxRecDepth 100000 in
theorem awake_yes (w : World) :
    Calls Try.prog 10 #[] w fun e w' => e = .returned (.bool true) ∧ Below w.heap.size w w' := by
  obtain ⟨w1, hw1⟩ : ∃ w1, w1 = w.alloc (.cells (ints [1, 2, 3, 4, 5, 6, 7, 8, 9, 10]).toArray 3) := ⟨_, rfl⟩
  have hi := new_ints w [1, 2, 3, 4, 5, 6, 7, 8, 9, 10] 10 rfl
  have hb1 := below_new w (.cells (ints [1, 2, 3, 4, 5, 6, 7, 8, 9, 10]).toArray 3)
  rw [← hw1] at hi hb1
  have H1 := Lib.hid (build_any [1, 2, 3, 4, 5, 6, 7, 8, 9, 10] [] _ (.slice none 0 0) 2 w1 hi (.inl ⟨rfl, _, _, rfl⟩) (by decide) (by decide) (by simp))
  rw [show many 2 [1, 2, 3, 4, 5, 6, 7, 8, 9, (10 : Int)].length = many 2 10 from rfl, ten_bks, no_runs] at H1
  have HB1 := Lib.hid hb1
  clear hi hb1
  go_enter Try.func10, Try.ntmps10
  go_wp2_with fail
  rw [show (.cells #[Value.int .i64 1, Value.int .i64 2, Value.int .i64 3, Value.int .i64 4, Value.int .i64 5, Value.int .i64 6, Value.int .i64 7, Value.int .i64 8, Value.int .i64 9, Value.int .i64 10] 3 : Obj) = .cells (ints [1, 2, 3, 4, 5, 6, 7, 8, 9, 10]).toArray 3 from rfl, ← hw1]
  refine H1.out.mono ?_
  clear H1
  rintro e w2 ⟨p1, c1, p2, c2, rfl, ho, _, hb2⟩
  have hrow := Rk.own_row flatB ho
  obtain ⟨g, off, hp1, hc⟩ := bk_cells hrow 1 (by decide)
  subst hp1
  simp only [List.getElem_cons_succ, List.getElem_cons_zero, List.length_cons, List.length_nil, Nat.zero_add, Nat.reduceAdd, Nat.one_mul] at hc hrow ⊢
  have hz := Rk.heap_last w2 (sO 10 (.slice (some ⟨g, off, none⟩) 2 c1) (.slice p2 0 c2))
  have hb3 := Rk.fresh_alloc w2 (sO 10 (.slice (some ⟨g, off, none⟩) 2 c1) (.slice p2 0 c2))
  have d0 : (w2.alloc (sO 10 (.slice (some ⟨g, off, none⟩) 2 c1) (.slice p2 0 c2))).cell? ⟨w2.heap.size, 0, none⟩ = some (.int .i64 10) := by rw [Lib.cell_of_heap hz]; rfl
  have d1 : (w2.alloc (sO 10 (.slice (some ⟨g, off, none⟩) 2 c1) (.slice p2 0 c2))).cell? ⟨w2.heap.size, 1, none⟩ = some (.slice (some ⟨g, off, none⟩) 2 c1) := by rw [Lib.cell_of_heap hz]; rfl
  have d2 : (w2.alloc (sO 10 (.slice (some ⟨g, off, none⟩) 2 c1) (.slice p2 0 c2))).cell? ⟨w2.heap.size, 2, none⟩ = some (.slice p2 0 c2) := by rw [Lib.cell_of_heap hz]; rfl
  have H2 := Lib.hid (between_any [(1, 5, 5, 5), (6, 10, 5, 5)] (.slice (some ⟨g, off, none⟩) 2 c1) (.slice p2 0 c2) 10 1 7 _ (hrow.below hb3) (by decide) ten_ok (by decide) ⟨⟨by decide, by decide⟩, by decide, by decide⟩)
  rw [ten_btw] at H2
  have H3 : Hid (∀ W : World, Calls Try.prog 13 #[.int .i64 100, .slice (some ⟨W.heap.size, 0, none⟩) 2 2] (W.alloc (.cells #[.int .i64 50, .int .i64 20] 3)) fun e w' => e = .returned (.int .i64 10) ∧ W.alloc (.cells #[.int .i64 50, .int .i64 20] 3) = w') := Lib.hid (fun W => by
    have := and_any 100 [50, 20] _ _ (new_ints W [50, 20] 2 rfl) (by decide) (by decide)
    rw [ten_and] at this
    exact this)
  have H4 : Hid (∀ W : World, Calls Try.prog 14 #[.int .i64 100, .slice (some ⟨W.heap.size, 0, none⟩) 2 2] (W.alloc (.cells #[.int .i64 50, .int .i64 20] 3)) fun e w' => e = .returned (.int .i64 60) ∧ Below (W.heap.size + 1) (W.alloc (.cells #[.int .i64 50, .int .i64 20] 3)) w') := Lib.hid (fun W => by
    have := or_any 100 [50, 20] _ _ (new_ints W [50, 20] 2 rfl) (by decide) (by decide)
    rw [ten_or] at this
    have e : (W.alloc (.cells (ints [50, 20]).toArray 3)).heap.size = W.heap.size + 1 := by simp
    rw [e] at this
    exact this)
  have HC := Lib.hid hc
  have HB2 := Lib.hid ((HB1.out.trans (hb2.mono HB1.out.size)))
  have HB3 := Lib.hid hb3
  have HZ := Lib.hid hz
  clear hrow hz hb3 hb2 ho hc hw1 HB1
  go_wp2_with fail
  generalize w2.alloc (sO 10 (.slice (some ⟨g, off, none⟩) 2 c1) (.slice p2 0 c2)) = w3 at *
  refine H2.out.mono ?_
  clear H2 d0 d1 d2
  rintro e w4 ⟨rfl, hb4⟩
  have hb34 : Below w2.heap.size w2 w4 := HB3.out.trans (hb4.mono HB3.out.size)
  obtain ⟨c0, cc1, cc2, c3⟩ := HC.out w4 hb34
  have hz4 := (hb4.block _ (Rk.lt_of_block HZ.out)).trans HZ.out
  have d0 : w4.cell? ⟨w2.heap.size, 0, none⟩ = some (.int .i64 10) := by rw [Lib.cell_of_heap hz4]; rfl
  have d1 : w4.cell? ⟨w2.heap.size, 1, none⟩ = some (.slice (some ⟨g, off, none⟩) 2 c1) := by rw [Lib.cell_of_heap hz4]; rfl
  have HB4 := Lib.hid (HB2.out.trans (hb34.mono HB2.out.size))
  clear hb34 hz4 hb4 HB2 HB3 HZ HC
  have H5 := H4.out (w4.alloc (.cells #[.int .i64 50, .int .i64 20] 3))
  have e5 : (w4.alloc (.cells #[.int .i64 50, .int .i64 20] 3)).heap.size = w4.heap.size + 1 := by simp
  rw [e5] at H5
  have HB5 : Hid (Below w.heap.size w (w4.alloc (.cells #[.int .i64 50, .int .i64 20] 3))) := Lib.hid (HB4.out.alloc HB4.out.size _)
  have H6 := Lib.hid H5
  have HE5 := Lib.hid e5
  clear H4 H5 e5
  go_wp2_with fail
  refine (H3.out _).mono ?_
  clear H3
  rintro e w5 ⟨rfl, h5⟩
  rw [h5] at H6 HB5 HE5
  clear h5
  go_wp2_with fail
  rw [HE5.out]
  refine H6.out.mono ?_
  clear H6
  rintro e w6 ⟨rfl, hb6⟩
  have HB6 : Hid (Below w.heap.size w w6) := Lib.hid ((HB5.out.alloc HB5.out.size _).trans (hb6.mono (by have := HB5.out.size; rw [HE5.out] at this; omega)))
  clear hb6
  go_wp2_with fail
  go_ret
  exact ⟨rfl, HB6.out⟩
end Ss
end Go.Proofs.Ytmkilmglmeohmaa
