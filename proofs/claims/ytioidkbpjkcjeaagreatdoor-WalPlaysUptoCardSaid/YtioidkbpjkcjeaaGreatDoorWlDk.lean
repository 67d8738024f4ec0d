/- The disk of a law that holds a log on it: the texts that it needs. Conditions: none. -/
import Derived.Test.YtioidkbpjkcjeaaGreatDoorGaF
import Derived.Test.YtioidkbpjkcjeaaGreatDoorWlG
import Derived.Test.YtioidkbpjkcjeaaGreatDoorWlErr
namespace Go.Proofs.YtioidkbpjkcjeaaGreatDoor
end Go.Proofs.YtioidkbpjkcjeaaGreatDoor
