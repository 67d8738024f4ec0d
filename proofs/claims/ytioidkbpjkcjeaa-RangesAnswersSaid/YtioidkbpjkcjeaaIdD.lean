/- The document's own Same, Check over rows; sure's. Conditions: those that each theorem names. -/
import Derived.Test.YtioidkbpjkcjeaaIdC
import Derived.Deep.QuietTactic
namespace Go.Proofs.Ytioidkbpjkcjeaa
set_option linter.unusedVariables false
open Go Go.RowKit Ids
namespace Ids
def eqB (A B : List Int) : Bool := decide (A = B)
theorem eqB_same (A : List Int) : eqB A A = true := by simp [eqB]
end Ids
/-- Only the tape has turned. -/
def Qt (w w' : World) : Prop := w'.heap = w.heap ∧ Below w.heap.size w w'
theorem Qt.refl (w : World) : Qt w w := ⟨rfl, Below.refl _ _⟩
theorem Qt.drewN {w w' : World} (h : Qt w w') (n : Nat) : Qt w (w'.drewN n) := ⟨h.1, below_drewN h.2 n⟩
theorem Qt.block {w w' : World} (h : Qt w w') (g : Nat) : w'.heap[g]? = w.heap[g]? := by rw [h.1]
end Go.Proofs.Ytioidkbpjkcjeaa
