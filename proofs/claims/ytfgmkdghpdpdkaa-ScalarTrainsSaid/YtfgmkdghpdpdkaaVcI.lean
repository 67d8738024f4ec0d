/- sure of the laws of chapter 6. Conditions: none. -/
import Derived.Test.YtfgmkdghpdpdkaaVcH
namespace Go.Proofs.Ytfgmkdghpdpdkaa
set_option linter.unusedVariables false
open Go Go.RowKit Vc
/-- A new block's row. -/
theorem new_ints (w : World) (L : List Int) (n : Nat) (hn : L.length = n) : IntsAt (w.alloc (.cells (ints L).toArray 3)) (.slice (some ⟨w.heap.size, 0, none⟩) n n) L := by
  subst hn
  refine .inr ⟨w.heap.size, 0, L.length, rfl, by simp, fun W hW j hj => ?_⟩
  rw [cell_of_row _ _ _ _ _ _ (hW.trans (heap_alloc_new _ _)), Nat.zero_add]
  simp [ints, hj]
theorem below_new (w : World) (o : Obj) : Below w.heap.size w (w.alloc o) := (Below.refl _ _).alloc (Nat.le_refl _) o
theorem two_new (w : World) (K L : List Int) (k n : Nat) (hk : K.length = k) (hn : L.length = n) :
    IntsAt ((w.alloc (.cells (ints K).toArray 3)).alloc (.cells (ints L).toArray 3)) (.slice (some ⟨w.heap.size, 0, none⟩) k k) K ∧
    IntsAt ((w.alloc (.cells (ints K).toArray 3)).alloc (.cells (ints L).toArray 3)) (.slice (some ⟨w.heap.size + 1, 0, none⟩) n n) L ∧
    Below w.heap.size w ((w.alloc (.cells (ints K).toArray 3)).alloc (.cells (ints L).toArray 3)) := by
  have e : (w.alloc (.cells (ints K).toArray 3)).heap.size = w.heap.size + 1 := by simp
  refine ⟨(new_ints w K k hk).below (below_new _ _), ?_, (below_new w _).alloc (by simp) _⟩
  have h := new_ints (w.alloc (.cells (ints K).toArray 3)) L n hn
  rw [e] at h
  exact h
theorem s1 (w : World) : Calls Try.prog 53 #[.int .i64 1, .slice (some ⟨w.heap.size, 0, none⟩) 1 1, .slice (some ⟨w.heap.size + 1, 0, none⟩) 2 2] ((w.alloc (.cells #[.int .i64 1] 3)).alloc (.cells #[.int .i64 1, .int .i64 2] 3))
    fun e w' => e = .returned (.tuple #[.int .i64 0, .int .i64 60]) ∧ Below w.heap.size w w' := by
  obtain ⟨h1, h2, h3⟩ := two_new w [1] [1, 2] 1 2 rfl rfl
  refine (Score_no [1] [1, 2] _ _ 1 _ h1 h2 (by decide) (by decide) (by unfold scoreOk; decide +kernel)).mono ?_
  rintro e w' ⟨rfl, hb⟩
  exact ⟨rfl, h3.trans (hb.mono h3.size)⟩
theorem s2 (w : World) : Calls Try.prog 53 #[.int .i64 3, .slice (some ⟨w.heap.size, 0, none⟩) 2 2, .slice (some ⟨w.heap.size + 1, 0, none⟩) 2 2] ((w.alloc (.cells #[.int .i64 1, .int .i64 0] 3)).alloc (.cells #[.int .i64 (-1), .int .i64 3] 3))
    fun e w' => e = .returned (.tuple #[.int .i64 (-349526), .int .i64 0]) ∧ Below w.heap.size w w' := by
  obtain ⟨h1, h2, h3⟩ := two_new w [1, 0] [-1, 3] 2 2 rfl rfl
  refine (Score_yes [1, 0] [-1, 3] _ _ 3 _ h1 h2 (by unfold scoreOk; decide +kernel)).mono ?_
  rintro e w' ⟨rfl, hb⟩
  exact ⟨by rw [show scoreV [1, 0] [-1, 3] 3 = -349526 by decide +kernel], h3.trans (hb.mono h3.size)⟩
theorem s6 (w : World) : Calls Try.prog 37 #[.slice (some ⟨w.heap.size, 0, none⟩) 1 1, .int .i64 1, .int .i64 3] (w.alloc (.cells #[.int .i64 0] 3))
    fun e w' => e = .returned (.int .i64 60) ∧ Below w.heap.size w w' := by
  refine (check_any [0] _ 1 3 _ (new_ints w [0] 1 rfl) (by decide)).mono ?_
  rintro e w' ⟨rfl, rfl⟩
  exact ⟨by rw [show chk [0] 1 3 = 60 by decide +kernel], below_new _ _⟩
theorem s7 (w : World) : Calls Try.prog 37 #[.slice (some ⟨w.heap.size, 0, none⟩) 1 1, .int .i64 1, .int .i64 2] (w.alloc (.cells #[.int .i64 0] 3))
    fun e w' => e = .returned (.int .i64 0) ∧ Below w.heap.size w w' := by
  refine (check_any [0] _ 1 2 _ (new_ints w [0] 1 rfl) (by decide)).mono ?_
  rintro e w' ⟨rfl, rfl⟩
  exact ⟨by rw [show chk [0] 1 2 = 0 by decide +kernel], below_new _ _⟩
end Go.Proofs.Ytfgmkdghpdpdkaa
