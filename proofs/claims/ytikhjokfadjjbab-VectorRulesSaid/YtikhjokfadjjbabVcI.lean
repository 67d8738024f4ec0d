/- sure of the laws of chapter 6. Conditions: none. -/
import Derived.Test.YtikhjokfadjjbabVcH
namespace Go.Proofs.Ytikhjokfadjjbab
set_option linter.unusedVariables false
open Go Go.RowKit Vc
/-- A new block's row. -/
theorem new_ints (w : World) (L : List Int) (n : Nat) (hn : L.length = n) : IntsAt (w.alloc (.cells (ints L).toArray 3)) (.slice (some ⟨w.heap.size, 0, none⟩) n n) L := by
  subst hn
  refine .inr ⟨w.heap.size, 0, L.length, rfl, by simp, fun W hW j hj => ?_⟩
  rw [cell_of_row _ _ _ _ _ _ (hW.trans (heap_alloc_new _ _)), Nat.zero_add]
  simp [ints, hj]
theorem below_new (w : World) (o : Obj) : Below w.heap.size w (w.alloc o) := (Below.refl _ _).alloc (Nat.le_refl _) o
theorem two_new (w : World) (K L : List Int) (k n : Nat) (hk : K.length = k) (hn : L.length = n) :
    IntsAt ((w.alloc (.cells (ints K).toArray 3)).alloc (.cells (ints L).toArray 3)) (.slice (some ⟨w.heap.size, 0, none⟩) k k) K ∧
    IntsAt ((w.alloc (.cells (ints K).toArray 3)).alloc (.cells (ints L).toArray 3)) (.slice (some ⟨w.heap.size + 1, 0, none⟩) n n) L ∧
    Below w.heap.size w ((w.alloc (.cells (ints K).toArray 3)).alloc (.cells (ints L).toArray 3)) := by
  have e : (w.alloc (.cells (ints K).toArray 3)).heap.size = w.heap.size + 1 := by simp
  refine ⟨(new_ints w K k hk).below (below_new _ _), ?_, (below_new w _).alloc (by simp) _⟩
  have h := new_ints (w.alloc (.cells (ints K).toArray 3)) L n hn
  rw [e] at h
  exact h
theorem s1 (w : World) : Calls Try.prog 12 #[.int .i64 1, .slice (some ⟨w.heap.size, 0, none⟩) 1 1, .slice (some ⟨w.heap.size + 1, 0, none⟩) 2 2] ((w.alloc (.cells #[.int .i64 1] 3)).alloc (.cells #[.int .i64 1, .int .i64 2] 3))
    fun e w' => e = .returned (.tuple #[.int .i64 0, .int .i64 60]) ∧ Below w.heap.size w w' := by
  obtain ⟨h1, h2, h3⟩ := two_new w [1] [1, 2] 1 2 rfl rfl
  refine (Score_no [1] [1, 2] _ _ 1 _ h1 h2 (by decide) (by decide) (by unfold scoreOk; decide +kernel)).mono ?_
  rintro e w' ⟨rfl, hb⟩
  exact ⟨rfl, h3.trans (hb.mono h3.size)⟩
theorem s2 (w : World) : Calls Try.prog 12 #[.int .i64 3, .slice (some ⟨w.heap.size, 0, none⟩) 2 2, .slice (some ⟨w.heap.size + 1, 0, none⟩) 2 2] ((w.alloc (.cells #[.int .i64 1, .int .i64 0] 3)).alloc (.cells #[.int .i64 (-1), .int .i64 3] 3))
    fun e w' => e = .returned (.tuple #[.int .i64 (-349526), .int .i64 0]) ∧ Below w.heap.size w w' := by
  obtain ⟨h1, h2, h3⟩ := two_new w [1, 0] [-1, 3] 2 2 rfl rfl
  refine (Score_yes [1, 0] [-1, 3] _ _ 3 _ h1 h2 (by unfold scoreOk; decide +kernel)).mono ?_
  rintro e w' ⟨rfl, hb⟩
  exact ⟨by rw [show scoreV [1, 0] [-1, 3] 3 = -349526 by decide +kernel], h3.trans (hb.mono h3.size)⟩
theorem s3 (w : World) : Calls Try.prog 14 #[.slice (some ⟨w.heap.size, 0, none⟩) 2 2, .slice (some ⟨w.heap.size + 1, 0, none⟩) 2 2] ((w.alloc (.cells #[.int .i64 1, .int .i64 2] 3)).alloc (.cells #[.int .i64 4, .int .i64 6] 3))
    fun e w' => e = .returned (.int .i64 25) ∧ Below w.heap.size w w' := by
  obtain ⟨h1, h2, h3⟩ := two_new w [1, 2] [4, 6] 2 2 rfl rfl
  refine (L2_any [1, 2] [4, 6] _ _ _ h1 h2 (by decide) (by decide)).mono ?_
  rintro e w' ⟨rfl, hb⟩
  exact ⟨by rw [show (if alikeB [1, 2] [4, 6] = true then sq [1, 2] [4, 6] else 0) = 25 by decide +kernel], h3.trans (hb.mono h3.size)⟩
theorem s4 (w : World) : Calls Try.prog 16 #[.slice (some ⟨w.heap.size, 0, none⟩) 2 2, .slice (some ⟨w.heap.size + 1, 0, none⟩) 2 2] ((w.alloc (.cells #[.int .i64 1, .int .i64 2] 3)).alloc (.cells #[.int .i64 3, .int .i64 (-4)] 3))
    fun e w' => e = .returned (.int .i64 (-5)) ∧ Below w.heap.size w w' := by
  obtain ⟨h1, h2, h3⟩ := two_new w [1, 2] [3, -4] 2 2 rfl rfl
  refine (Dot_any [1, 2] [3, -4] _ _ _ h1 h2 (by decide) (by decide)).mono ?_
  rintro e w' ⟨rfl, rfl⟩
  exact ⟨by rw [show (if alikeB [1, 2] [3, -4] = true then dot [1, 2] [3, -4] else 0) = -5 by decide +kernel], h3⟩
theorem s5 (w : World) : Calls Try.prog 18 #[.slice (some ⟨w.heap.size, 0, none⟩) 2 2, .slice (some ⟨w.heap.size + 1, 0, none⟩) 2 2] ((w.alloc (.cells #[.int .i64 3, .int .i64 4] 3)).alloc (.cells #[.int .i64 3, .int .i64 4] 3))
    fun e w' => e = .returned (.int .i64 1048576) ∧ Below w.heap.size w w' := by
  obtain ⟨h1, h2, h3⟩ := two_new w [3, 4] [3, 4] 2 2 rfl rfl
  refine (Cos_any [3, 4] [3, 4] _ _ _ h1 h2 (by decide) (by decide)).mono ?_
  rintro e w' ⟨rfl, rfl⟩
  exact ⟨by rw [show (if alikeB [3, 4] [3, 4] = true then cosN [3, 4] [3, 4] else 0) = 1048576 by decide +kernel], h3⟩
theorem s6 (w : World) : Calls Try.prog 8 #[.slice (some ⟨w.heap.size, 0, none⟩) 1 1, .int .i64 1, .int .i64 3] (w.alloc (.cells #[.int .i64 0] 3))
    fun e w' => e = .returned (.int .i64 60) ∧ Below w.heap.size w w' := by
  refine (check_any [0] _ 1 3 _ (new_ints w [0] 1 rfl) (by decide)).mono ?_
  rintro e w' ⟨rfl, rfl⟩
  exact ⟨by rw [show chk [0] 1 3 = 60 by decide +kernel], below_new _ _⟩
theorem s7 (w : World) : Calls Try.prog 8 #[.slice (some ⟨w.heap.size, 0, none⟩) 1 1, .int .i64 1, .int .i64 2] (w.alloc (.cells #[.int .i64 0] 3))
    fun e w' => e = .returned (.int .i64 0) ∧ Below w.heap.size w w' := by
  refine (check_any [0] _ 1 2 _ (new_ints w [0] 1 rfl) (by decide)).mono ?_
  rintro e w' ⟨rfl, rfl⟩
  exact ⟨by rw [show chk [0] 1 2 = 0 by decide +kernel], below_new _ _⟩
set_option maxHeartbeats 2000000 in
theorem sure_yes (w : World) :
    Calls Try.prog 11 #[] w fun e w' => e = .returned (.bool true) ∧ Below w.heap.size w w' := by
  have hB := Below.refl w.heap.size w
  have H1 := Lib.hid s1
  have H2 := Lib.hid s2
  have H3 := Lib.hid s3
  have H4 := Lib.hid s4
  have H5 := Lib.hid s5
  have H6 := Lib.hid s6
  have H7 := Lib.hid s7
  go_enter Try.func11, Try.ntmps11
  go_wp2_with (first
    | (go_at_call 12; (with_reducible refine (H1.out _).mono ?_); rintro e w1 ⟨rfl, hb⟩; replace hB := hB.trans (hb.mono hB.size); clear hb)
    | (go_at_call 12; (with_reducible refine (H2.out _).mono ?_); rintro e w1 ⟨rfl, hb⟩; replace hB := hB.trans (hb.mono hB.size); clear hb)
    | (go_at_call 14; (with_reducible refine (H3.out _).mono ?_); rintro e w1 ⟨rfl, hb⟩; replace hB := hB.trans (hb.mono hB.size); clear hb)
    | (go_at_call 16; (with_reducible refine (H4.out _).mono ?_); rintro e w1 ⟨rfl, hb⟩; replace hB := hB.trans (hb.mono hB.size); clear hb)
    | (go_at_call 18; (with_reducible refine (H5.out _).mono ?_); rintro e w1 ⟨rfl, hb⟩; replace hB := hB.trans (hb.mono hB.size); clear hb)
    | (go_at_call 8; (with_reducible refine (H6.out _).mono ?_); rintro e w1 ⟨rfl, hb⟩; replace hB := hB.trans (hb.mono hB.size); clear hb)
    | (go_at_call 8; (with_reducible refine (H7.out _).mono ?_); rintro e w1 ⟨rfl, hb⟩; replace hB := hB.trans (hb.mono hB.size); clear hb))
  go_ret
  exact ⟨rfl, hB⟩
end Go.Proofs.Ytikhjokfadjjbab
