/- What the cards of json's laws share. Conditions: none. -/
import Derived.Test.YtdooeedemgmpiaaDoorJsLaid
import Derived.OpenShut
import Derived.SizedLaws
import Derived.Lib.SmallJoins
import Derived.ChangeOld
namespace Go.Proofs.YtdooeedemgmpiaaDoor
set_option linter.unusedVariables false
open Go Go.RowKit

theorem below_gr {w w' : World} (h : Gr none' w w') : Below w.heap.size w w' := h.below (fun _ _ x => x) (Nat.le_refl _)
end Go.Proofs.YtdooeedemgmpiaaDoor
