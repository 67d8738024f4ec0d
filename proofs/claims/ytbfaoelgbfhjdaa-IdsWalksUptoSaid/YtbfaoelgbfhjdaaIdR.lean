/- sure of the laws of chapter 8. Conditions: none. -/
import Derived.Test.YtbfaoelgbfhjdaaIdQ
namespace Go.Proofs.Ytbfaoelgbfhjdaa
set_option linter.unusedVariables false
open Go Go.RowKit Ids
namespace Ids
theorem ex_of : setL [3, 1, 3] = [1, 3] := by decide
theorem ok_of : okB [1, 3] := ⟨by unfold Ris; decide, by decide⟩
theorem no_of : ¬ okB (setL [0]) := fun h => by have := h.2 0 (by decide); omega
theorem ok_enc : okB [1, 300] := ⟨by unfold Ris; decide, by decide⟩
theorem ex_enc : encB [1, 300] = [2, 0, 0, 0, 1, 171, 2] := by
  have h1 : smB ((1 : Int) - 0).toNat = [1] := by rw [show ((1 : Int) - 0).toNat = 1 by decide, smB_small (by decide)]; decide
  have h2 : smB ((300 : Int) - 1).toNat = [171, 2] := by rw [show ((300 : Int) - 1).toNat = 299 by decide, smB_great (by decide), show 299 / 128 = 2 by decide, smB_small (by decide)]; decide
  unfold encB stepsB stepsB stepsB
  rw [h1, h2]
  decide
theorem ex_dec : decB [2, 0, 0, 0, 1, 171, 2] = some [1, 300] := by rw [← ex_enc]; exact decB_encB ok_enc (by decide)
theorem no_dec : decB [1, 0, 0, 0, 128, 0] = none := by
  rw [decB_eq _ (by decide), show ([1, 0, 0, 0, 128, 0] : List UInt8).drop 4 = [128, 0] from rfl, rd_no (by simp) (by decide)]
theorem ex_uni : uniL [2, 1] [2, 5] = [1, 2, 5] := by decide
theorem ex_int : interL [2, 1] [2, 5] = [2] := by decide
theorem ex_dif : diffL [2, 1] [2, 5] = [1] := by decide
theorem no_chk : ¬ okB [2, 1] := fun h => by have := List.rel_of_pairwise_cons h.1 (List.mem_cons_self ..); omega
end Ids
theorem s_of1 (w : World) : Calls Try.prog 10 #[.slice (some ⟨w.heap.size, 0, none⟩) 3 3] (w.alloc (.cells #[.int .i64 3, .int .i64 1, .int .i64 3] 3)) fun e w' => ∃ x, e = .returned (.tuple #[x, .int .i64 0]) ∧ IntsAt w' x [1, 3] ∧ Below w.heap.size w w' := by
  refine (of_any [3, 1, 3] _ _ (new_ints w [3, 1, 3] 3 rfl) (by simp)).mono ?_
  rintro e w' ⟨x, rfl, h1, h2⟩
  rw [ofL_yes (by rw [ex_of]; exact ok_of), ex_of] at h1
  refine ⟨x, ?_, h1.at, (below_new w _).trans (h2.mono (by simp))⟩
  rw [ex_of, chkE_yes ok_of]
theorem s_of2 (w : World) : Calls Try.prog 10 #[.slice (some ⟨w.heap.size, 0, none⟩) 1 1] (w.alloc (.cells #[.int .i64 0] 3)) fun e w' => ∃ x, e = .returned (.tuple #[x, .int .i64 80]) ∧ Below w.heap.size w w' := by
  refine (of_any [0] _ _ (new_ints w [0] 1 rfl) (by simp)).mono ?_
  rintro e w' ⟨x, rfl, h1, h2⟩
  refine ⟨x, ?_, (below_new w _).trans (h2.mono (by simp))⟩
  rw [chkE_no no_of]
theorem s_enc (w : World) : Calls Try.prog 26 #[.slice (some ⟨w.heap.size, 0, none⟩) 2 2] (w.alloc (.cells #[.int .i64 1, .int .i64 300] 3)) fun e w' => e = .returned (.tuple #[.string ⟨#[2, 0, 0, 0, 1, 171, 2]⟩, .int .i64 0]) ∧ Below w.heap.size w w' := by
  refine (encode_yes [1, 300] _ _ (new_ints w [1, 300] 2 rfl) (by simp) ok_enc).mono ?_
  rintro e w' ⟨rfl, h2⟩
  refine ⟨?_, (below_new w _).trans (h2.mono (by simp))⟩
  rw [ex_enc]
theorem s_dec (w : World) : Calls Try.prog 28 #[.string ⟨#[2, 0, 0, 0, 1, 171, 2]⟩] w fun e w' => ∃ x, e = .returned (.tuple #[x, .int .i64 0]) ∧ IntsAt w' x [1, 300] ∧ Below w.heap.size w w' := by
  refine (decode_any ⟨#[2, 0, 0, 0, 1, 171, 2]⟩ w (by decide)).mono ?_
  rintro e w' ⟨x, rfl, h1, h2⟩
  rw [show (⟨#[2, 0, 0, 0, 1, 171, 2]⟩ : ByteArray).data.toList = [2, 0, 0, 0, 1, 171, 2] from rfl, ex_dec] at h1 ⊢
  exact ⟨x, rfl, h1.at, h2⟩
theorem s_bad (w : World) : Calls Try.prog 28 #[.string ⟨#[1, 0, 0, 0, 128, 0]⟩] w fun e w' => ∃ x, e = .returned (.tuple #[x, .int .i64 80]) ∧ Below w.heap.size w w' := by
  refine (decode_any ⟨#[1, 0, 0, 0, 128, 0]⟩ w (by decide)).mono ?_
  rintro e w' ⟨x, rfl, h1, h2⟩
  rw [show (⟨#[1, 0, 0, 0, 128, 0]⟩ : ByteArray).data.toList = [1, 0, 0, 0, 128, 0] from rfl, no_dec] at h1 ⊢
  exact ⟨x, rfl, h2⟩
/-- Two rows that hold the same, the second one new. -/
theorem s_same (w : World) (x : Value) (K : List Int) (n : Nat) (h : IntsAt w x K) (hn : K.length = n) (hl : n ≤ 100) : Calls Try.prog 14 #[x, .slice (some ⟨w.heap.size, 0, none⟩) n n] (w.alloc (.cells (ints K).toArray 3)) fun e w' => e = .returned (.bool true) ∧ Below w.heap.size w w' := by
  have hm : K.length ≤ maxLen := by unfold maxLen; omega
  refine (sameLaw_any K K x _ _ (h.below (below_new w _)) (new_ints w K n hn) hm hm).mono ?_
  rintro e w' ⟨rfl, h2⟩
  rw [eqB_same]
  exact ⟨rfl, (below_new w _).trans (h2.mono (by simp))⟩
theorem s_two (w : World) : IntsAt ((w.alloc (.cells #[.int .i64 2, .int .i64 1] 3)).alloc (.cells #[.int .i64 2, .int .i64 5] 3)) (.slice (some ⟨w.heap.size, 0, none⟩) 2 2) [2, 1] ∧ IntsAt ((w.alloc (.cells #[.int .i64 2, .int .i64 1] 3)).alloc (.cells #[.int .i64 2, .int .i64 5] 3)) (.slice (some ⟨w.heap.size + 1, 0, none⟩) 2 2) [2, 5] ∧ Below w.heap.size w ((w.alloc (.cells #[.int .i64 2, .int .i64 1] 3)).alloc (.cells #[.int .i64 2, .int .i64 5] 3)) := by
  have h1 := new_ints w [2, 1] 2 rfl
  have h2 := new_ints (w.alloc (.cells #[.int .i64 2, .int .i64 1] 3)) [2, 5] 2 rfl
  rw [World.size_alloc] at h2
  exact ⟨h1.below (below_new _ _), h2, (below_new w _).trans ((below_new _ _).mono (by simp))⟩
theorem s_uni (w : World) : Calls Try.prog 18 #[.slice (some ⟨w.heap.size, 0, none⟩) 2 2, .slice (some ⟨w.heap.size + 1, 0, none⟩) 2 2] ((w.alloc (.cells #[.int .i64 2, .int .i64 1] 3)).alloc (.cells #[.int .i64 2, .int .i64 5] 3)) fun e w' => ∃ x, e = .returned x ∧ IntsAt w' x [1, 2, 5] ∧ Below w.heap.size w w' := by
  obtain ⟨h1, h2, h3⟩ := s_two w
  refine (union_any [2, 1] [2, 5] _ _ _ h1 h2 (by simp)).mono ?_
  rintro e w' ⟨x, rfl, h4, h5⟩
  rw [ex_uni] at h4
  exact ⟨x, rfl, h4.at, h3.trans (h5.mono h3.size)⟩
theorem s_int (w : World) : Calls Try.prog 20 #[.slice (some ⟨w.heap.size, 0, none⟩) 2 2, .slice (some ⟨w.heap.size + 1, 0, none⟩) 2 2] ((w.alloc (.cells #[.int .i64 2, .int .i64 1] 3)).alloc (.cells #[.int .i64 2, .int .i64 5] 3)) fun e w' => ∃ x, e = .returned x ∧ IntsAt w' x [2] ∧ Below w.heap.size w w' := by
  obtain ⟨h1, h2, h3⟩ := s_two w
  refine (inter_any [2, 1] [2, 5] _ _ _ h1 h2 (by simp)).mono ?_
  rintro e w' ⟨x, rfl, h4, h5⟩
  rw [ex_int] at h4
  exact ⟨x, rfl, h4.at, h3.trans (h5.mono h3.size)⟩
theorem s_dif (w : World) : Calls Try.prog 22 #[.slice (some ⟨w.heap.size, 0, none⟩) 2 2, .slice (some ⟨w.heap.size + 1, 0, none⟩) 2 2] ((w.alloc (.cells #[.int .i64 2, .int .i64 1] 3)).alloc (.cells #[.int .i64 2, .int .i64 5] 3)) fun e w' => ∃ x, e = .returned x ∧ IntsAt w' x [1] ∧ Below w.heap.size w w' := by
  obtain ⟨h1, h2, h3⟩ := s_two w
  refine (diff_any [2, 1] [2, 5] _ _ _ h1 h2 (by simp)).mono ?_
  rintro e w' ⟨x, rfl, h4, h5⟩
  rw [ex_dif] at h4
  exact ⟨x, rfl, h4.at, h3.trans (h5.mono h3.size)⟩
theorem s_has (w : World) : Calls Try.prog 15 #[.slice (some ⟨w.heap.size, 0, none⟩) 1 1, .int .i64 2] (w.alloc (.cells #[.int .i64 2] 3)) fun e w' => e = .returned (.bool true) ∧ Below w.heap.size w w' := by
  refine (has_any [2] _ 2 _ (new_ints w [2] 1 rfl) (by unfold maxLen; simp)).mono ?_
  rintro e w' ⟨rfl, rfl⟩
  exact ⟨by rw [show hasB [2] 2 = true by decide], below_new _ _⟩
theorem s_chk (w : World) : Calls Try.prog 12 #[.slice (some ⟨w.heap.size, 0, none⟩) 2 2] (w.alloc (.cells #[.int .i64 2, .int .i64 1] 3)) fun e w' => e = .returned (.int .i64 80) ∧ Below w.heap.size w w' := by
  refine (check_any [2, 1] _ _ (new_ints w [2, 1] 2 rfl) (by unfold maxLen; simp)).mono ?_
  rintro e w' ⟨rfl, rfl⟩
  exact ⟨by rw [chkE_no no_chk], below_new _ _⟩
set_option maxHeartbeats 4000000 in
set_option maxRecDepth 100000 in
theorem sure_yes (w : World) :
    Calls Try.prog 17 #[] w fun e w' => e = .returned (.bool true) ∧ Below w.heap.size w w' := by
  have hB := Below.refl w.heap.size w
  have O1 := Lib.hid s_of1
  have O2 := Lib.hid s_of2
  have EN := Lib.hid s_enc
  have DE := Lib.hid s_dec
  have DB := Lib.hid s_bad
  have SU := Lib.hid s_uni
  have SI := Lib.hid s_int
  have SD := Lib.hid s_dif
  have SH := Lib.hid s_has
  have SC := Lib.hid s_chk
  go_enter Try.func17, Try.ntmps17
  go_wp2_with (first
    | (go_at_call 10; (with_reducible refine (O1.out _).mono ?_); clear O1; rintro e w1 ⟨x1, rfl, hx, hb⟩; have HX := Lib.hid hx; replace hB := hB.trans (hb.mono hB.size); clear hb hx)
    | (go_at_call 10; (with_reducible refine (O2.out _).mono ?_); clear O2; rintro e w1 ⟨x2, rfl, hb⟩; have hx := HX.out.below hb; clear HX; have HX := Lib.hid hx; replace hB := hB.trans (hb.mono hB.size); clear hb hx)
    | (go_at_call 26; (with_reducible refine (EN.out _).mono ?_); rintro e w1 ⟨rfl, hb⟩; have hx := HX.out.below hb; clear HX; have HX := Lib.hid hx; replace hB := hB.trans (hb.mono hB.size); clear hb hx)
    | (go_at_call 28; (with_reducible refine (DE.out _).mono ?_); clear DE; rintro e w1 ⟨x3, rfl, hy, hb⟩; have hx := HX.out.below hb; clear HX; have HX := Lib.hid hx; have HY := Lib.hid hy; replace hB := hB.trans (hb.mono hB.size); clear hb hx hy)
    | (go_at_call 28; (with_reducible refine (DB.out _).mono ?_); clear DB; rintro e w1 ⟨x4, rfl, hb⟩; have hx := HX.out.below hb; have hy := HY.out.below hb; clear HX HY; have HX := Lib.hid hx; have HY := Lib.hid hy; replace hB := hB.trans (hb.mono hB.size); clear hb hx hy)
    | (go_at_call 14; refine (s_same _ _ _ _ HX.out rfl (by decide)).mono ?_; clear HX; rintro e w1 ⟨rfl, hb⟩; have hy := HY.out.below hb; clear HY; have HY := Lib.hid hy; replace hB := hB.trans (hb.mono hB.size); clear hb hy)
    | (go_at_call 14; refine (s_same _ _ _ _ HY.out rfl (by decide)).mono ?_; clear HY; rintro e w1 ⟨rfl, hb⟩; replace hB := hB.trans (hb.mono hB.size); clear hb)
    | (go_at_call 18; (with_reducible refine (SU.out _).mono ?_); rintro e w1 ⟨x5, rfl, hy, hb⟩; have HY := Lib.hid hy; replace hB := hB.trans (hb.mono hB.size); clear hb hy)
    | (go_at_call 20; (with_reducible refine (SI.out _).mono ?_); rintro e w1 ⟨x6, rfl, hy, hb⟩; have HY := Lib.hid hy; replace hB := hB.trans (hb.mono hB.size); clear hb hy)
    | (go_at_call 22; (with_reducible refine (SD.out _).mono ?_); rintro e w1 ⟨x7, rfl, hy, hb⟩; have HY := Lib.hid hy; replace hB := hB.trans (hb.mono hB.size); clear hb hy)
    | (go_at_call 15; (with_reducible refine (SH.out _).mono ?_); rintro e w1 ⟨rfl, hb⟩; replace hB := hB.trans (hb.mono hB.size); clear hb)
    | (go_at_call 12; (with_reducible refine (SC.out _).mono ?_); rintro e w1 ⟨rfl, hb⟩; replace hB := hB.trans (hb.mono hB.size); clear hb))
  go_ret
  exact ⟨rfl, hB⟩
end Go.Proofs.Ytbfaoelgbfhjdaa
