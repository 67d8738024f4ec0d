/- payload's Compare is the document's order. Conditions: none. -/
import Derived.Test.YtfppemgagifmpaaDoorPlD
namespace Go.Proofs.YtfppemgagifmpaaDoor
set_option linter.unusedVariables false
open Go Go.RowKit Go.Shelf Pl
theorem cmp_bytes : ∀ a b : List UInt8, Lib.compareBytes a b = if Op.bytesLess a b = true then -1 else if (a == b) = true then 0 else 1
  | [], [] => by simp [Lib.compareBytes, Op.bytesLess]
  | [], _ :: _ => by simp [Lib.compareBytes, Op.bytesLess]
  | _ :: _, [] => by simp [Lib.compareBytes, Op.bytesLess]
  | x :: a, y :: b => by
    have ih := cmp_bytes a b
    rw [Lib.compareBytes, Op.bytesLess, ih]
    by_cases h1 : x < y
    · simp [h1]
    · by_cases h2 : y < x
      · have h3 : ¬ x = y := fun e => by subst e; exact h1 h2
        simp [h1, h2, h3]
      · have h3 : x = y := UInt8.toNat_inj.1 (by rw [UInt8.lt_iff_toNat_lt] at h1 h2; omega)
        subst h3
        simp
theorem or_cmp (k n k' n' : Int) (t t' : Nm) : orL [Lib.compareInt k k', Lib.compareInt n n', Lib.compareBytes t.data.toList t'.data.toList] = cmpV ⟨k, n, t⟩ ⟨k', n', t'⟩ := by
  rw [cmp_bytes]
  unfold cmpV lessT eqT Lib.compareInt
  rw [Go.ByteArray.toList_eq, Go.ByteArray.toList_eq]
  simp only [orL]
  rcases Int.lt_trichotomy k k' with h | h | h
  · simp [h]
  · subst h
    rcases Int.lt_trichotomy n n' with h | h | h
    · simp [h]
    · subst h
      cases Op.bytesLess t.data.toList t'.data.toList <;> cases t.data.toList == t'.data.toList <;> simp
    · have h2 : ¬ n < n' := by omega
      simp [h, h2]
  · have h2 : ¬ k < k' := by omega
    simp [h, h2]
end Go.Proofs.YtfppemgagifmpaaDoor
