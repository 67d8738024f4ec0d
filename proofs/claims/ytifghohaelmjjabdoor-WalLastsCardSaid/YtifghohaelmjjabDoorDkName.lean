/- What Rename and Remove of package disk do to a disk in memory. Conditions: those that each theorem names. -/
import Derived.Test.YtifghohaelmjjabDoorDkFile
namespace Go.Proofs.YtifghohaelmjjabDoor
open Go.RowKit Dk

/-! ### Rename -/
/-! ### Remove -/
end Go.Proofs.YtifghohaelmjjabDoor
