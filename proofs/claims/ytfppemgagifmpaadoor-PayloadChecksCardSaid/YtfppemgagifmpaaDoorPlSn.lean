/- payload's Same over points. Conditions: those that each theorem names. -/
import Derived.Test.YtfppemgagifmpaaDoorPlSm
namespace Go.Proofs.YtfppemgagifmpaaDoor
set_option linter.unusedVariables false
open Go Go.RowKit Go.Shelf Pl
theorem two_cells {w : World} {g : Nat} {a b : Value} {T : TypeId} (h : w.heap[g]? = some (.cells #[a, b] T (0, 0))) : w.cell? ⟨g, 0, none⟩ = some a ∧ w.cell? ⟨g, 1, none⟩ = some b := by
  constructor <;> rw [Lib.cell_of_heap h] <;> rfl
theorem two_boxes (w : World) (a b c d : Value) (T : TypeId) :
    (((w.alloc (.cells #[a, b] T)).alloc (.cells #[c, d] T)).cell? ⟨w.heap.size, 0, none⟩ = some a ∧ ((w.alloc (.cells #[a, b] T)).alloc (.cells #[c, d] T)).cell? ⟨w.heap.size, 1, none⟩ = some b) ∧
    (((w.alloc (.cells #[a, b] T)).alloc (.cells #[c, d] T)).cell? ⟨w.heap.size + 1, 0, none⟩ = some c ∧ ((w.alloc (.cells #[a, b] T)).alloc (.cells #[c, d] T)).cell? ⟨w.heap.size + 1, 1, none⟩ = some d) ∧
    Below w.heap.size w ((w.alloc (.cells #[a, b] T)).alloc (.cells #[c, d] T)) := by
  have h1 := heap_last (w.alloc (.cells #[a, b] T)) (.cells #[c, d] T)
  rw [show (w.alloc (.cells #[a, b] T)).heap.size = w.heap.size + 1 by simp] at h1
  refine ⟨two_cells ((heap_old _ _ (by simp)).trans (heap_last _ _)), two_cells h1, (fresh_alloc w _).alloc (by simp) _⟩
end Go.Proofs.YtfppemgagifmpaaDoor
