/- Whether two points are the same: payload's Same. Conditions: those that each theorem names. -/
import Derived.Test.YtfppemgagifmpaaDoorPlVw
import Derived.Deep.QuietTactic
namespace Go.Proofs.YtfppemgagifmpaaDoor
set_option linter.unusedVariables false
open Go Go.RowKit Go.Shelf Pl
/-- Is it so? -/
noncomputable def isB (p : Prop) : Bool := @decide p (Classical.propDecidable p)
theorem isB_yes {p : Prop} (h : p) : isB p = true := by unfold isB; exact @decide_eq_true p (Classical.propDecidable p) h
theorem isB_no {p : Prop} (h : ¬ p) : isB p = false := by unfold isB; exact @decide_eq_false p (Classical.propDecidable p) h
theorem isB_iff {p : Prop} : isB p = true ↔ p := by
  constructor
  · intro h; unfold isB at h; exact @of_decide_eq_true p (Classical.propDecidable p) h
  · exact isB_yes
theorem isB_of {p : Prop} {b : Bool} (h : b = true ↔ p) : isB p = b := by
  cases b with
  | true => exact isB_yes (h.mp rfl)
  | false => exact isB_no fun c => by have := h.mpr c; cases this
theorem nm_eq {a b : Nm} : (a.toList == b.toList) = true ↔ a = b := by
  rw [Go.ByteArray.toList_eq, Go.ByteArray.toList_eq]
  constructor
  · intro h
    have h2 : a.data.toList = b.data.toList := by simpa using h
    cases a; cases b
    simp only at h2
    rw [Array.toList_inj.mp h2]
  · rintro rfl; simp
theorem nm_eq' {a b : Nm} : a.toList = b.toList ↔ a = b := by rw [← nm_eq]; simp
theorem eqV_iff {a b : Val} : eqV a b = true ↔ a = b := by
  obtain ⟨k, n, t⟩ := a
  obtain ⟨k', n', t'⟩ := b
  simp only [eqV, eqT, Bool.and_eq_true, beq_iff_eq, nm_eq', Val.mk.injEq]
def eqF (f g : Fld) : Bool := (f.name.toList == g.name.toList) && eqV f.val g.val
theorem eqF_iff {f g : Fld} : eqF f g = true ↔ f = g := by
  obtain ⟨a, x⟩ := f
  obtain ⟨b, y⟩ := g
  simp only [eqF, Bool.and_eq_true, nm_eq, eqV_iff, Fld.mk.injEq]
set_option maxHeartbeats 1000000 in
/-- '!=' of two fields. -/
theorem neqF_run (a b : Nm) (k n k' n' : Int) (t t' : Nm) (w : World) : (binOp .neq 47 (.agg #[.string a, .int .i64 k, .int .i64 n, .string t]) (.agg #[.string b, .int .i64 k', .int .i64 n', .string t'])).run Tryd.prog w = .ok (.bool (!(eqF ⟨a, ⟨k, n, t⟩⟩ ⟨b, ⟨k', n', t'⟩⟩))) w := by
  rw [run_neq_struct, run_equalIn_agg _ _ _ _ _ (by kernel_rfl) (by kernel_rfl)]
  have c1 : Tryd.prog.cellsOf 3 = 1 := by kernel_rfl
  have c2 : Tryd.prog.cellsOf 9 = 1 := by kernel_rfl
  have c3 : Tryd.prog.cellsOf 45 = 3 := by kernel_rfl
  have q1 := fun (d : Nat) (a b : Int) (w : World) => run_equalIn_int (P := Tryd.prog) w d 3 .i64 .i64 a b Tryd.underlying3
  have q2 := fun (d : Nat) (a b : Nm) (w : World) => run_equalIn_string (P := Tryd.prog) w d 9 a b Tryd.underlying9
  have q3 := fun (d : Nat) (xs ys : Array Value) (w : World) => run_equalIn_agg (P := Tryd.prog) w d 45 xs ys (by kernel_rfl) (by kernel_rfl)
  simp only [Program.fieldsOf, Tryd.underlying47, Tryd.underlying45] at q3 ⊢
  unfold eqF eqV eqT
  cases h0 : a.toList == b.toList
  · simp [Op.eqFields, go_sem, q1, q2, q3, h0, Tryd.underlying3, Tryd.underlying9, Tryd.underlying45]
  · by_cases h1 : k = k'
    · subst h1
      by_cases h2 : n = n'
      · subst h2
        cases h3 : t.toList == t'.toList <;> simp [Op.eqFields, go_sem, q1, q2, q3, h0, h3, Tryd.underlying3, Tryd.underlying9, Tryd.underlying45]
      · simp [Op.eqFields, go_sem, q1, q2, q3, h0, h2, Tryd.underlying3, Tryd.underlying9, Tryd.underlying45]
    · simp [Op.eqFields, go_sem, q1, q2, q3, h0, h1, Tryd.underlying3, Tryd.underlying9, Tryd.underlying45]
/-- Only the tape has turned. -/
def Qt (w w' : World) : Prop := w'.heap = w.heap ∧ Below w.heap.size w w'
theorem Qt.refl (w : World) : Qt w w := ⟨rfl, Below.refl _ _⟩
theorem Qt.drewN {w w' : World} (h : Qt w w') (n : Nat) : Qt w (w'.drewN n) := ⟨h.1, h.2.trans ⟨rfl, rfl, rfl, Nat.le_refl _, fun _ _ => rfl⟩⟩
theorem Qt.block {w w' : World} (h : Qt w w') (g : Nat) : w'.heap[g]? = w.heap[g]? := by rw [h.1]
theorem take_next {α} {a b : List α} {k : Nat} {x y : α} (hx : a[k]? = some x) (hy : b[k]? = some y) (h : a.take k = b.take k) (e : x = y) : a.take (k + 1) = b.take (k + 1) := by
  rw [List.take_add_one, List.take_add_one, hx, hy, h, e]
theorem take_all {α} {a b : List α} (hl : a.length = b.length) (h : a.take a.length = b.take a.length) : a = b := by
  rw [List.take_length, hl, List.take_length] at h; exact h
end Go.Proofs.YtfppemgagifmpaaDoor
