/- The document's own Check over rows. Conditions: those that each theorem names. -/
import Derived.Test.YtioidkbpjkcjeaaIdD
import Derived.BigQuiet
namespace Go.Proofs.Ytioidkbpjkcjeaa
set_option linter.unusedVariables false
open Go Go.RowKit Ids
end Go.Proofs.Ytioidkbpjkcjeaa
