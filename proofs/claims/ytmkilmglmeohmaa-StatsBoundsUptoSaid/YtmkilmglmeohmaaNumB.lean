/- What package num does with numbers in bytes, and the document's first examples: said of any input. Conditions: none but those that each theorem names. -/
import Derived.Test.YtmkilmglmeohmaaNumA
import Derived.Laws.BytesString
import Derived.Laws.IdiomStrings
namespace Go.Proofs.Ytmkilmglmeohmaa
open Go.RowKit

def fixC (N k : Nat) : Array Value := Array.ofFn (n := 8) fun i => Value.int .u8 (if i.val < k then ((N / 256 ^ i.val % 256 : Nat) : Int) else 0)
theorem fixC_zero (N : Nat) : fixC N 0 = #[.int .u8 0, .int .u8 0, .int .u8 0, .int .u8 0, .int .u8 0, .int .u8 0, .int .u8 0, .int .u8 0] := by rfl
theorem fixC_get (N k i : Nat) (h : i < 8) : (fixC N k)[i]? = some (.int .u8 (if i < k then ((N / 256 ^ i % 256 : Nat) : Int) else 0)) := by simp [fixC, h]
theorem fixC_set (N k : Nat) (_ : k < 8) : (fixC N k).setIfInBounds k (.int .u8 ((N : Int) / 2 ^ (8 * k) % 256)) = fixC N (k + 1) := by
  have hv : (N : Int) / 2 ^ (8 * k) % 256 = ((N / 256 ^ k % 256 : Nat) : Int) := by
    have h2 : (N : Int) / 2 ^ (8 * k) = ((N / 2 ^ (8 * k) : Nat) : Int) := by simp
    rw [h2, pow_256]; omega
  rw [hv]
  unfold fixC
  apply Array.ext_getElem?
  intro i
  rw [Array.getElem?_setIfInBounds, Array.getElem?_ofFn, Array.getElem?_ofFn]
  by_cases e : k = i
  · subst e; simp [*]
  · have h3 : (i < k + 1) = (i < k) := by simp only [eq_iff_iff]; omega
    simp [e, h3]
/-! ### the document's first examples -/
def exS : ByteArray := ⟨#[49, 50, 51, 52, 53, 54, 55, 56, 57]⟩
theorem ex_root : rootN 24 = 4 := by decide
theorem ex_div : (-7 : Int).fdiv 2 = -4 := by decide
theorem ex_fix : (fixL 2 258).toArray = #[2, 1] := by decide
theorem ex_draw : dZ 0 = 16294208416658607535 := by decide +kernel
theorem ex_next : dN 0 = 11400714819323198485 := by decide +kernel
theorem ex_sum : crcN exS = 3421780262 := by decide +kernel
end Go.Proofs.Ytmkilmglmeohmaa
