/- What package num does with numbers in bytes, for layers above it. Conditions: those that each theorem names. -/
import Derived.Test.YtgpedeagaghpfaaGreatDoorRows
import Derived.Test.YtgpedeagaghpfaaGreatDoorNumPlain
import Derived.Test.YtgpedeagaghpfaaGreatDoorShelf
import Derived.WalkKit
import Derived.WalkSpells
import Derived.WalkLawsBesides
import Derived.Laws.Rows
import Derived.Lib.Hide
import Derived.Lib.BitFns
import Derived.Laws.BytesString
import Derived.Laws.IdiomStrings
namespace Go.Proofs.YtgpedeagaghpfaaGreatDoor
open Go.RowKit
theorem ret_int {k : IntKind} {a b : Int} (h : a = b) : Ending.returned (.int k a) = .returned (.int k b) := by rw [h]
theorem ret_int2 {k l : IntKind} {a b c d : Int} (h : a = b) (h' : c = d) : Ending.returned (.tuple #[.int k a, .int l c]) = .returned (.tuple #[.int k b, .int l d]) := by rw [h, h']
def fixC (N k : Nat) : Array Value := Array.ofFn (n := 8) fun i => Value.int .u8 (if i.val < k then ((N / 256 ^ i.val % 256 : Nat) : Int) else 0)
theorem fixC_zero (N : Nat) : fixC N 0 = #[.int .u8 0, .int .u8 0, .int .u8 0, .int .u8 0, .int .u8 0, .int .u8 0, .int .u8 0, .int .u8 0] := by rfl
theorem fixC_get (N k i : Nat) (h : i < 8) : (fixC N k)[i]? = some (.int .u8 (if i < k then ((N / 256 ^ i % 256 : Nat) : Int) else 0)) := by simp [fixC, h]
theorem fixC_set (N k : Nat) (_ : k < 8) : (fixC N k).setIfInBounds k (.int .u8 ((N : Int) / 2 ^ (8 * k) % 256)) = fixC N (k + 1) := by
  have hv : (N : Int) / 2 ^ (8 * k) % 256 = ((N / 256 ^ k % 256 : Nat) : Int) := by
    have h2 : (N : Int) / 2 ^ (8 * k) = ((N / 2 ^ (8 * k) : Nat) : Int) := by simp
    rw [h2, pow_256]; omega
  rw [hv]
  unfold fixC
  apply Array.ext_getElem?
  intro i
  rw [Array.getElem?_setIfInBounds, Array.getElem?_ofFn, Array.getElem?_ofFn]
  by_cases e : k = i
  · subst e; simp [*]
  · have h3 : (i < k + 1) = (i < k) := by simp only [eq_iff_iff]; omega
    simp [e, h3]
/-! ### the document's first examples -/
end Go.Proofs.YtgpedeagaghpfaaGreatDoor
