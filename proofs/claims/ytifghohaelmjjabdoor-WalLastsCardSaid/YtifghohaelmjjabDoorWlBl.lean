/- Rows of texts as rows of bytes. -/
import Derived.Test.YtifghohaelmjjabDoorWlPl2
import Derived.Test.YtifghohaelmjjabDoorWlE
namespace Go.Proofs.YtifghohaelmjjabDoor
set_option linter.unusedVariables false
open Go Go.RowKit Wl
def bls (L : List ByteArray) : List (List UInt8) := L.map fun s => s.data.toList
theorem bls_len (L : List ByteArray) : (bls L).length = L.length := by simp [bls]
theorem bls_at (L : List ByteArray) (k : Nat) (h : k < L.length) : (bls L)[k]'(by rw [bls_len]; exact h) = (L[k]).data.toList := by simp [bls]
theorem bls_take (L : List ByteArray) (k : Nat) : bls (L.take k) = (bls L).take k := by simp [bls, List.map_take]
end Go.Proofs.YtifghohaelmjjabDoor
