/- Layings of Go's library at this translation, in plain words. Conditions: none. -/
import Derived.Shelf.Lay
import Derived.Shelf.SlicesE.Clone
import Derived.Ground.SlgnProg
import Derived.Shelf.SlGeneric
import Derived.Test.YtdooeedemgmpiaaDoorProg
namespace Go.Proofs
open Go.Shelf
def Tryd.cloneJ_ren : Go.Shelf.Ren := ⟨fun | 41 => 16 | n => n, fun | 22 => 23 | 23 => 25 | 4 => 4 | n => n, fun | n => n⟩
theorem Tryd.cloneJ : Go.Proofs.SlLaysE0.n41 Tryd.prog Tryd.cloneJ_ren := {
  mixed := by kernel_rfl
  f41 := ⟨Tryd.f16.name, by decide, Tryd.func16.trans (congrArg some (by kernel_rfl))⟩
  t4 := Tryd.underlying4
  a4 := Tryd.isAgg4
  z4 := Tryd.sizeOf4
  v4 := Tryd.zeroValue4
  t22 := Tryd.underlying23
  a22 := Tryd.isAgg23
  z22 := Tryd.sizeOf23
  v22 := Tryd.zeroValue23 }
end Go.Proofs
