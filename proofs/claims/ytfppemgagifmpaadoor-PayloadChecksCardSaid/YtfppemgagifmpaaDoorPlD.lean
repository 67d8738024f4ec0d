/- The order of values: payload's Compare. Conditions: those that each theorem names. -/
import Derived.Test.YtfppemgagifmpaaDoorPlC
import Derived.Deep.RegionHeld3
namespace Go.Proofs.YtfppemgagifmpaaDoor
set_option linter.unusedVariables false
open Go Go.RowKit Go.Shelf Pl
end Go.Proofs.YtfppemgagifmpaaDoor
