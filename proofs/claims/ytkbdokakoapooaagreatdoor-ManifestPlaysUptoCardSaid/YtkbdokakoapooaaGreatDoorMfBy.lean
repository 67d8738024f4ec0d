/- The walk of ManifestBytes. Conditions: those that each theorem names. -/
import Derived.Test.YtkbdokakoapooaaGreatDoorMfX
import Derived.Test.YtkbdokakoapooaaGreatDoorMfT
namespace Go.Proofs.YtkbdokakoapooaaGreatDoor
set_option linter.unusedVariables false
open Go Go.RowKit Go.Shelf Go.Sort
namespace Mf
theorem decM_small (s : ByteArray) (hs : s.size ≤ 16777215) : Small (decM s) := by
  rcases dec_cases s with ⟨h, _⟩ | ⟨h, _⟩
  · rw [h]
    have := (rdK_small s hs (piecesB s).length).1
    rwa [rdK_all] at this
  · rw [h]; exact zero_small
theorem kept_cells2 {w : World} {K : Nat} {a b c d : Value} {T : TypeId} (h : w.heap[K]? = some (.cells #[a, b, c, d] T (0, 0))) : (∀ o, (w.alloc o).cell? ⟨K, 0, none⟩ = some a) ∧ (∀ o, (w.alloc o).cell? ⟨K, 1, none⟩ = some b) ∧ (∀ o, (w.alloc o).cell? ⟨K, 2, none⟩ = some c) ∧ (∀ o, (w.alloc o).cell? ⟨K, 3, none⟩ = some d) := by
  have hk : K < w.heap.size := (Array.getElem?_eq_some_iff.1 h).1
  refine ⟨fun o => ?_, fun o => ?_, fun o => ?_, fun o => ?_⟩ <;> rw [Lib.cell_of_heap ((heap_old w o hk).trans h)] <;> rfl
end Mf
end Go.Proofs.YtkbdokakoapooaaGreatDoor
