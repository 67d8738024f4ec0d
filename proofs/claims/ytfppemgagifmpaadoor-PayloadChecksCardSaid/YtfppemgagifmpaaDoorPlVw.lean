/- The order of values, plainly: turned round it is turned round, and nothing lies between just if both are the same; how two values are compared. Conditions: those that each theorem names. -/
import Derived.Test.YtfppemgagifmpaaDoorPlCv
import Derived.Test.YtfppemgagifmpaaDoorPlGe
import Derived.Test.YtfppemgagifmpaaDoorPlLd
namespace Go.Proofs.YtfppemgagifmpaaDoor
set_option linter.unusedVariables false
open Go Go.RowKit Go.Shelf Pl
theorem bytes_total : ∀ a b : List UInt8, a = b ∨ (Op.bytesLess a b = true ∧ Op.bytesLess b a = false) ∨ (Op.bytesLess a b = false ∧ Op.bytesLess b a = true)
  | [], [] => .inl rfl
  | [], _ :: _ => .inr (.inl ⟨rfl, rfl⟩)
  | _ :: _, [] => .inr (.inr ⟨rfl, rfl⟩)
  | x :: a, y :: b => by
    have ih := bytes_total a b
    simp only [Op.bytesLess]
    by_cases h1 : x < y
    · have h2 : ¬ y < x := by rw [UInt8.lt_iff_toNat_lt] at h1 ⊢; omega
      have h3 : ¬ y = x := fun e => by subst e; exact h2 h1
      right; left
      simp [h1, h2, h3]
    · by_cases h2 : y < x
      · have h3 : ¬ x = y := fun e => by subst e; exact h1 h2
        right; right
        simp [h1, h2, h3]
      · have h3 : x = y := UInt8.toNat_inj.1 (by rw [UInt8.lt_iff_toNat_lt] at h1 h2; omega)
        subst h3
        rcases ih with rfl | ih | ih
        · exact .inl rfl
        · right; left; simpa using ih
        · right; right; simpa using ih
theorem bytes_self (a : List UInt8) : Op.bytesLess a a = false := by
  rcases bytes_total a a with _ | h | h
  · induction a with
    | nil => rfl
    | cons x a ih => simp [Op.bytesLess, ih]
  · exact h.2
  · exact h.1
theorem cmpV_turned (a b : Val) : cmpV b a = -cmpV a b := by
  unfold cmpV lessT eqT
  rcases Int.lt_trichotomy a.kind b.kind with h | h | h
  · have h2 : ¬ b.kind < a.kind := by omega
    simp [h, h2]
  · rw [h]
    rcases Int.lt_trichotomy a.n b.n with h | h | h
    · have h2 : ¬ b.n < a.n := by omega
      simp [h, h2]
    · rw [h]
      rcases bytes_total a.text.toList b.text.toList with h | h | h
      · rw [h]; simp [bytes_self]
      · have hne : ¬ a.text.toList = b.text.toList := fun e => by rw [e, bytes_self] at h; cases h.1
        have hne' : ¬ b.text.toList = a.text.toList := fun e => hne e.symm
        simp [h.1, h.2, hne, hne']
      · have hne : ¬ a.text.toList = b.text.toList := fun e => by rw [e, bytes_self] at h; cases h.2
        have hne' : ¬ b.text.toList = a.text.toList := fun e => hne e.symm
        simp [h.1, h.2, hne, hne']
    · have h2 : ¬ a.n < b.n := by omega
      simp [h, h2]
  · have h2 : ¬ a.kind < b.kind := by omega
    simp [h, h2]
def eqV (a b : Val) : Bool := a.kind == b.kind && (a.n == b.n && eqT a.text b.text)
theorem cmpV_zero (a b : Val) : (cmpV a b == 0) = eqV a b := by
  unfold cmpV eqV lessT eqT
  rcases Int.lt_trichotomy a.kind b.kind with h | h | h
  · have h2 : ¬ a.kind = b.kind := by omega
    simp [h, h2]
  · rw [h]
    rcases Int.lt_trichotomy a.n b.n with h | h | h
    · have h2 : ¬ a.n = b.n := by omega
      simp [h, h2]
    · rw [h]
      rcases bytes_total a.text.toList b.text.toList with h | h | h
      · rw [h]; simp [bytes_self]
      · have hne : ¬ a.text.toList = b.text.toList := fun e => by rw [e, bytes_self] at h; cases h.1
        simp [h.1, hne]
      · have hne : ¬ a.text.toList = b.text.toList := fun e => by rw [e, bytes_self] at h; cases h.2
        simp [h.1, hne]
    · have h2 : ¬ a.n < b.n := by omega
      have h3 : ¬ a.n = b.n := by omega
      simp [h, h2, h3]
  · have h2 : ¬ a.kind < b.kind := by omega
    have h3 : ¬ a.kind = b.kind := by omega
    simp [h, h2, h3]
theorem cmpV_bd (a b : Val) : -1 ≤ cmpV a b ∧ cmpV a b ≤ 1 := by
  unfold cmpV
  repeat' split
  all_goals omega
/-- '==' of two values. -/
theorem eql_run (k n k' n' : Int) (t t' : Nm) (w : World) : (binOp .eql 45 (.agg #[.int .i64 k, .int .i64 n, .string t]) (.agg #[.int .i64 k', .int .i64 n', .string t'])).run Tryd.prog w = .ok (.bool (eqV ⟨k, n, t⟩ ⟨k', n', t'⟩)) w := by
  rw [run_eql_struct, run_equalIn_agg _ _ _ _ _ (by kernel_rfl) (by kernel_rfl)]
  simp only [Program.fieldsOf, Tryd.underlying45]
  have c1 : Tryd.prog.cellsOf 3 = 1 := by kernel_rfl
  have c2 : Tryd.prog.cellsOf 9 = 1 := by kernel_rfl
  have q1 := fun (a b : Int) (w : World) => run_equalIn_int (P := Tryd.prog) w 9998 3 .i64 .i64 a b Tryd.underlying3
  have q2 := fun (a b : Nm) (w : World) => run_equalIn_string (P := Tryd.prog) w 9998 9 a b Tryd.underlying9
  unfold eqV eqT
  by_cases h1 : k = k'
  · subst h1
    by_cases h2 : n = n'
    · subst h2
      cases h3 : t.toList == t'.toList <;> simp [Op.eqFields, go_sem, q1, q2, h3, Tryd.underlying3, Tryd.underlying9]
    · simp [Op.eqFields, go_sem, q1, q2, h2, Tryd.underlying3, Tryd.underlying9]
  · simp [Op.eqFields, go_sem, q1, q2, h1, Tryd.underlying3, Tryd.underlying9]
end Go.Proofs.YtfppemgagifmpaaDoor
