/- Texts that the proof of PayloadBack stands on, one behind the other: PlGe, PlVw, PlSm, PlSn, PlSo, PlNm, PlIn, PlRp, Run, PlAp, PlRa, PlCq, PlRb, PlSr, PlMd, PlMe, PlRc, PlRd, PlRe, PlRf, PlRg, PlRh, PlPi. Conditions: those that each theorem names. -/
import Derived.Test.YtokjmgkoifakdaaDoorPayloadBackZ1
import Derived.Deep.QuietTactic
import Derived.Deep.AppendLies
import Derived.Lib.AppendStr
import Derived.OwnWalk
import Derived.Maps.AppendAt
import Derived.StillTailTactics
import Derived.Deep.DeepCutAuto
import Derived.Deep.RegionHeld3
import Derived.Laws.Rows
import Derived.Deep.RegionLaw
namespace Go.Proofs.YtokjmgkoifakdaaDoor
set_option linter.unusedVariables false
open Go Go.RowKit Go.Shelf Pl
/-- The place of the first field of a name, behind k; -1: there is none. -/
def idxL (L : List Fld) (s : Nm) (k : Nat) : Int :=
  match (L.drop k).findIdx? (fun x => x.name.toList == s.toList) with
    | some i => ((k + i : Nat) : Int)
    | none => -1
theorem idx_hit {L : List Fld} {k : Nat} {x : Fld} {s : Nm} (hx : L[k]? = some x) (e : (x.name.toList == s.toList) = true) : idxL L s k = k := by
  have hk : k < L.length := (List.getElem?_eq_some_iff.1 hx).1
  have e2 := (List.getElem?_eq_some_iff.1 hx).2
  unfold idxL
  rw [List.drop_eq_getElem_cons hk, e2, List.findIdx?_cons, e]
  rfl
theorem idx_miss {L : List Fld} {k : Nat} {x : Fld} {s : Nm} (hx : L[k]? = some x) (e : (x.name.toList == s.toList) = false) : idxL L s k = idxL L s (k + 1) := by
  have hk : k < L.length := (List.getElem?_eq_some_iff.1 hx).1
  have e2 := (List.getElem?_eq_some_iff.1 hx).2
  unfold idxL
  rw [List.drop_eq_getElem_cons hk, e2, List.findIdx?_cons, e]
  cases (L.drop (k + 1)).findIdx? (fun x => x.name.toList == s.toList) with
  | none => rfl
  | some i =>
    show ((k + (i + 1) : Nat) : Int) = ((k + 1 + i : Nat) : Int)
    omega
theorem setCell_at {w : World} {g k : Nat} {cs : Array Value} {t : TypeId} {m : Nat × Nat} (h : w.heap[g]? = some (.cells cs t m)) (v : Value) : (w.setCell ⟨g, k, none⟩ v).heap[g]? = some (.cells (cs.setIfInBounds k v) t m) := by
  simp [World.setCell, h, Array.getElem?_modify]
theorem set3 {w0 w : World} {g : Nat} {a b c : Value} {T : TypeId} (h : w.heap[g]? = some (.cells #[a, b, c] T (0, 0))) (hb : Below w0.heap.size w0 w) (hg : w0.heap.size ≤ g) (x y z : Value) :
    ((((w.setCell ⟨g, 0, none⟩ x).setCell ⟨g, 1, none⟩ y).setCell ⟨g, 2, none⟩ z).cell? ⟨g, 0, none⟩ = some x ∧ (((w.setCell ⟨g, 0, none⟩ x).setCell ⟨g, 1, none⟩ y).setCell ⟨g, 2, none⟩ z).cell? ⟨g, 1, none⟩ = some y ∧
      (((w.setCell ⟨g, 0, none⟩ x).setCell ⟨g, 1, none⟩ y).setCell ⟨g, 2, none⟩ z).cell? ⟨g, 2, none⟩ = some z) ∧ Below w0.heap.size w0 (((w.setCell ⟨g, 0, none⟩ x).setCell ⟨g, 1, none⟩ y).setCell ⟨g, 2, none⟩ z) :=
  ⟨cells3_of (setCell_at (setCell_at (setCell_at h x) y) z), ((hb.setCell (p := ⟨g, 0, none⟩) hg _).setCell (p := ⟨g, 1, none⟩) hg _).setCell (p := ⟨g, 2, none⟩) hg _⟩
theorem idx_get (L : List Fld) (s : Nm) : ∀ d k, k + d = L.length → (idxL L s k = -1 ∧ getL (L.drop k) s = none) ∨ ∃ (j : Nat) (h : j < L.length), idxL L s k = j ∧ getL (L.drop k) s = some (L[j]).val
  | 0, k, h => .inl ⟨by unfold idxL; rw [List.drop_of_length_le (by omega)]; rfl, by rw [List.drop_of_length_le (by omega)]; rfl⟩
  | d + 1, k, h => by
    have hk : k < L.length := by omega
    have hx : L[k]? = some L[k] := List.getElem?_eq_getElem hk
    cases hb : (L[k]).name.toList == s.toList with
    | true => exact .inr ⟨k, hk, idx_hit hx hb, getL_hit hx hb⟩
    | false =>
      rw [idx_miss hx hb, getL_miss hx hb]
      exact idx_get L s d (k + 1) (by omega)
end Go.Proofs.YtokjmgkoifakdaaDoor
namespace Go.Proofs.YtokjmgkoifakdaaDoor
set_option linter.unusedVariables false
open Go Go.RowKit Go.Shelf Pl
theorem bytes_total : ∀ a b : List UInt8, a = b ∨ (Op.bytesLess a b = true ∧ Op.bytesLess b a = false) ∨ (Op.bytesLess a b = false ∧ Op.bytesLess b a = true)
  | [], [] => .inl rfl
  | [], _ :: _ => .inr (.inl ⟨rfl, rfl⟩)
  | _ :: _, [] => .inr (.inr ⟨rfl, rfl⟩)
  | x :: a, y :: b => by
    have ih := bytes_total a b
    simp only [Op.bytesLess]
    by_cases h1 : x < y
    · have h2 : ¬ y < x := by rw [UInt8.lt_iff_toNat_lt] at h1 ⊢; omega
      have h3 : ¬ y = x := fun e => by subst e; exact h2 h1
      right; left
      simp [h1, h2, h3]
    · by_cases h2 : y < x
      · have h3 : ¬ x = y := fun e => by subst e; exact h1 h2
        right; right
        simp [h1, h2, h3]
      · have h3 : x = y := UInt8.toNat_inj.1 (by rw [UInt8.lt_iff_toNat_lt] at h1 h2; omega)
        subst h3
        rcases ih with rfl | ih | ih
        · exact .inl rfl
        · right; left; simpa using ih
        · right; right; simpa using ih
theorem bytes_self (a : List UInt8) : Op.bytesLess a a = false := by
  rcases bytes_total a a with _ | h | h
  · induction a with
    | nil => rfl
    | cons x a ih => simp [Op.bytesLess, ih]
  · exact h.2
  · exact h.1
theorem cmpV_turned (a b : Val) : cmpV b a = -cmpV a b := by
  unfold cmpV lessT eqT
  rcases Int.lt_trichotomy a.kind b.kind with h | h | h
  · have h2 : ¬ b.kind < a.kind := by omega
    simp [h, h2]
  · rw [h]
    rcases Int.lt_trichotomy a.n b.n with h | h | h
    · have h2 : ¬ b.n < a.n := by omega
      simp [h, h2]
    · rw [h]
      rcases bytes_total a.text.toList b.text.toList with h | h | h
      · rw [h]; simp [bytes_self]
      · have hne : ¬ a.text.toList = b.text.toList := fun e => by rw [e, bytes_self] at h; cases h.1
        have hne' : ¬ b.text.toList = a.text.toList := fun e => hne e.symm
        simp [h.1, h.2, hne, hne']
      · have hne : ¬ a.text.toList = b.text.toList := fun e => by rw [e, bytes_self] at h; cases h.2
        have hne' : ¬ b.text.toList = a.text.toList := fun e => hne e.symm
        simp [h.1, h.2, hne, hne']
    · have h2 : ¬ a.n < b.n := by omega
      simp [h, h2]
  · have h2 : ¬ a.kind < b.kind := by omega
    simp [h, h2]
def eqV (a b : Val) : Bool := a.kind == b.kind && (a.n == b.n && eqT a.text b.text)
theorem cmpV_zero (a b : Val) : (cmpV a b == 0) = eqV a b := by
  unfold cmpV eqV lessT eqT
  rcases Int.lt_trichotomy a.kind b.kind with h | h | h
  · have h2 : ¬ a.kind = b.kind := by omega
    simp [h, h2]
  · rw [h]
    rcases Int.lt_trichotomy a.n b.n with h | h | h
    · have h2 : ¬ a.n = b.n := by omega
      simp [h, h2]
    · rw [h]
      rcases bytes_total a.text.toList b.text.toList with h | h | h
      · rw [h]; simp [bytes_self]
      · have hne : ¬ a.text.toList = b.text.toList := fun e => by rw [e, bytes_self] at h; cases h.1
        simp [h.1, hne]
      · have hne : ¬ a.text.toList = b.text.toList := fun e => by rw [e, bytes_self] at h; cases h.2
        simp [h.1, hne]
    · have h2 : ¬ a.n < b.n := by omega
      have h3 : ¬ a.n = b.n := by omega
      simp [h, h2, h3]
  · have h2 : ¬ a.kind < b.kind := by omega
    have h3 : ¬ a.kind = b.kind := by omega
    simp [h, h2, h3]
theorem cmpV_bd (a b : Val) : -1 ≤ cmpV a b ∧ cmpV a b ≤ 1 := by
  unfold cmpV
  repeat' split
  all_goals omega
/-- '==' of two values. -/
theorem eql_run (k n k' n' : Int) (t t' : Nm) (w : World) : (binOp .eql 54 (.agg #[.int .i64 k, .int .i64 n, .string t]) (.agg #[.int .i64 k', .int .i64 n', .string t'])).run Tryd.prog w = .ok (.bool (eqV ⟨k, n, t⟩ ⟨k', n', t'⟩)) w := by
  rw [run_eql_struct, run_equalIn_agg _ _ _ _ _ (by kernel_rfl) (by kernel_rfl)]
  simp only [Program.fieldsOf, Tryd.underlying54]
  have c1 : Tryd.prog.cellsOf 3 = 1 := by kernel_rfl
  have c2 : Tryd.prog.cellsOf 9 = 1 := by kernel_rfl
  have q1 := fun (a b : Int) (w : World) => run_equalIn_int (P := Tryd.prog) w 9998 3 .i64 .i64 a b Tryd.underlying3
  have q2 := fun (a b : Nm) (w : World) => run_equalIn_string (P := Tryd.prog) w 9998 9 a b Tryd.underlying9
  unfold eqV eqT
  by_cases h1 : k = k'
  · subst h1
    by_cases h2 : n = n'
    · subst h2
      cases h3 : t.toList == t'.toList <;> simp [Op.eqFields, go_sem, q1, q2, h3, Tryd.underlying3, Tryd.underlying9]
    · simp [Op.eqFields, go_sem, q1, q2, h2, Tryd.underlying3, Tryd.underlying9]
  · simp [Op.eqFields, go_sem, q1, q2, h1, Tryd.underlying3, Tryd.underlying9]
end Go.Proofs.YtokjmgkoifakdaaDoor
namespace Go.Proofs.YtokjmgkoifakdaaDoor
set_option linter.unusedVariables false
open Go Go.RowKit Go.Shelf Pl
/-- Is it so? -/
noncomputable def isB (p : Prop) : Bool := @decide p (Classical.propDecidable p)
theorem isB_yes {p : Prop} (h : p) : isB p = true := by unfold isB; exact @decide_eq_true p (Classical.propDecidable p) h
theorem isB_no {p : Prop} (h : ¬ p) : isB p = false := by unfold isB; exact @decide_eq_false p (Classical.propDecidable p) h
theorem isB_iff {p : Prop} : isB p = true ↔ p := by
  constructor
  · intro h; unfold isB at h; exact @of_decide_eq_true p (Classical.propDecidable p) h
  · exact isB_yes
theorem isB_of {p : Prop} {b : Bool} (h : b = true ↔ p) : isB p = b := by
  cases b with
  | true => exact isB_yes (h.mp rfl)
  | false => exact isB_no fun c => by have := h.mpr c; cases this
theorem nm_eq {a b : Nm} : (a.toList == b.toList) = true ↔ a = b := by
  rw [Go.ByteArray.toList_eq, Go.ByteArray.toList_eq]
  constructor
  · intro h
    have h2 : a.data.toList = b.data.toList := by simpa using h
    cases a; cases b
    simp only at h2
    rw [Array.toList_inj.mp h2]
  · rintro rfl; simp
theorem nm_eq' {a b : Nm} : a.toList = b.toList ↔ a = b := by rw [← nm_eq]; simp
theorem eqV_iff {a b : Val} : eqV a b = true ↔ a = b := by
  obtain ⟨k, n, t⟩ := a
  obtain ⟨k', n', t'⟩ := b
  simp only [eqV, eqT, Bool.and_eq_true, beq_iff_eq, nm_eq', Val.mk.injEq]
def eqF (f g : Fld) : Bool := (f.name.toList == g.name.toList) && eqV f.val g.val
theorem eqF_iff {f g : Fld} : eqF f g = true ↔ f = g := by
  obtain ⟨a, x⟩ := f
  obtain ⟨b, y⟩ := g
  simp only [eqF, Bool.and_eq_true, nm_eq, eqV_iff, Fld.mk.injEq]
set_option maxHeartbeats 1000000 in
/-- '!=' of two fields. -/
theorem neqF_run (a b : Nm) (k n k' n' : Int) (t t' : Nm) (w : World) : (binOp .neq 56 (.agg #[.string a, .int .i64 k, .int .i64 n, .string t]) (.agg #[.string b, .int .i64 k', .int .i64 n', .string t'])).run Tryd.prog w = .ok (.bool (!(eqF ⟨a, ⟨k, n, t⟩⟩ ⟨b, ⟨k', n', t'⟩⟩))) w := by
  rw [run_neq_struct, run_equalIn_agg _ _ _ _ _ (by kernel_rfl) (by kernel_rfl)]
  have c1 : Tryd.prog.cellsOf 3 = 1 := by kernel_rfl
  have c2 : Tryd.prog.cellsOf 9 = 1 := by kernel_rfl
  have c3 : Tryd.prog.cellsOf 54 = 3 := by kernel_rfl
  have q1 := fun (d : Nat) (a b : Int) (w : World) => run_equalIn_int (P := Tryd.prog) w d 3 .i64 .i64 a b Tryd.underlying3
  have q2 := fun (d : Nat) (a b : Nm) (w : World) => run_equalIn_string (P := Tryd.prog) w d 9 a b Tryd.underlying9
  have q3 := fun (d : Nat) (xs ys : Array Value) (w : World) => run_equalIn_agg (P := Tryd.prog) w d 54 xs ys (by kernel_rfl) (by kernel_rfl)
  simp only [Program.fieldsOf, Tryd.underlying56, Tryd.underlying54] at q3 ⊢
  unfold eqF eqV eqT
  cases h0 : a.toList == b.toList
  · simp [Op.eqFields, go_sem, q1, q2, q3, h0, Tryd.underlying3, Tryd.underlying9, Tryd.underlying54]
  · by_cases h1 : k = k'
    · subst h1
      by_cases h2 : n = n'
      · subst h2
        cases h3 : t.toList == t'.toList <;> simp [Op.eqFields, go_sem, q1, q2, q3, h0, h3, Tryd.underlying3, Tryd.underlying9, Tryd.underlying54]
      · simp [Op.eqFields, go_sem, q1, q2, q3, h0, h2, Tryd.underlying3, Tryd.underlying9, Tryd.underlying54]
    · simp [Op.eqFields, go_sem, q1, q2, q3, h0, h1, Tryd.underlying3, Tryd.underlying9, Tryd.underlying54]
/-- Only the tape has turned. -/
def Qt (w w' : World) : Prop := w'.heap = w.heap ∧ Below w.heap.size w w'
theorem Qt.refl (w : World) : Qt w w := ⟨rfl, Below.refl _ _⟩
theorem Qt.drewN {w w' : World} (h : Qt w w') (n : Nat) : Qt w (w'.drewN n) := ⟨h.1, h.2.trans ⟨rfl, rfl, rfl, Nat.le_refl _, fun _ _ => rfl⟩⟩
theorem Qt.block {w w' : World} (h : Qt w w') (g : Nat) : w'.heap[g]? = w.heap[g]? := by rw [h.1]
theorem take_next {α} {a b : List α} {k : Nat} {x y : α} (hx : a[k]? = some x) (hy : b[k]? = some y) (h : a.take k = b.take k) (e : x = y) : a.take (k + 1) = b.take (k + 1) := by
  rw [List.take_add_one, List.take_add_one, hx, hy, h, e]
theorem take_all {α} {a b : List α} (hl : a.length = b.length) (h : a.take a.length = b.take a.length) : a = b := by
  rw [List.take_length, hl, List.take_length] at h; exact h
end Go.Proofs.YtokjmgkoifakdaaDoor
namespace Go.Proofs.YtokjmgkoifakdaaDoor
set_option linter.unusedVariables false
open Go Go.RowKit Go.Shelf Pl
theorem two_cells {w : World} {g : Nat} {a b : Value} {T : TypeId} (h : w.heap[g]? = some (.cells #[a, b] T (0, 0))) : w.cell? ⟨g, 0, none⟩ = some a ∧ w.cell? ⟨g, 1, none⟩ = some b := by
  constructor <;> rw [Lib.cell_of_heap h] <;> rfl
theorem two_boxes (w : World) (a b c d : Value) (T : TypeId) :
    (((w.alloc (.cells #[a, b] T)).alloc (.cells #[c, d] T)).cell? ⟨w.heap.size, 0, none⟩ = some a ∧ ((w.alloc (.cells #[a, b] T)).alloc (.cells #[c, d] T)).cell? ⟨w.heap.size, 1, none⟩ = some b) ∧
    (((w.alloc (.cells #[a, b] T)).alloc (.cells #[c, d] T)).cell? ⟨w.heap.size + 1, 0, none⟩ = some c ∧ ((w.alloc (.cells #[a, b] T)).alloc (.cells #[c, d] T)).cell? ⟨w.heap.size + 1, 1, none⟩ = some d) ∧
    Below w.heap.size w ((w.alloc (.cells #[a, b] T)).alloc (.cells #[c, d] T)) := by
  have h1 := heap_last (w.alloc (.cells #[a, b] T)) (.cells #[c, d] T)
  rw [show (w.alloc (.cells #[a, b] T)).heap.size = w.heap.size + 1 by simp] at h1
  refine ⟨two_cells ((heap_old _ _ (by simp)).trans (heap_last _ _)), two_cells h1, (fresh_alloc w _).alloc (by simp) _⟩
end Go.Proofs.YtokjmgkoifakdaaDoor
namespace Go.Proofs.YtokjmgkoifakdaaDoor
set_option linter.unusedVariables false
open Go Go.RowKit Go.Shelf Pl
theorem pt_eq {a b : Pt} : a = b ↔ a.id = b.id ∧ a.vecs = b.vecs ∧ a.flds = b.flds := by
  obtain ⟨i, v, f⟩ := a
  obtain ⟨j, u, g⟩ := b
  simp only [Pt.mk.injEq]
theorem isB_pt (a b : Pt) : isB (a = b) = ((a.id == b.id) && (isB (a.vecs = b.vecs) && isB (a.flds = b.flds))) := isB_of (by rw [pt_eq]; simp only [Bool.and_eq_true, isB_iff, beq_iff_eq])
/-- A point that lies in a box. -/
theorem three_boxes (w : World) (a b c a' b' c' : Value) (T : TypeId) :
    (((w.alloc (.cells #[a, b, c] T)).alloc (.cells #[a', b', c'] T)).cell? ⟨w.heap.size, 0, none⟩ = some a ∧ ((w.alloc (.cells #[a, b, c] T)).alloc (.cells #[a', b', c'] T)).cell? ⟨w.heap.size, 1, none⟩ = some b ∧ ((w.alloc (.cells #[a, b, c] T)).alloc (.cells #[a', b', c'] T)).cell? ⟨w.heap.size, 2, none⟩ = some c) ∧
    (((w.alloc (.cells #[a, b, c] T)).alloc (.cells #[a', b', c'] T)).cell? ⟨w.heap.size + 1, 0, none⟩ = some a' ∧ ((w.alloc (.cells #[a, b, c] T)).alloc (.cells #[a', b', c'] T)).cell? ⟨w.heap.size + 1, 1, none⟩ = some b' ∧ ((w.alloc (.cells #[a, b, c] T)).alloc (.cells #[a', b', c'] T)).cell? ⟨w.heap.size + 1, 2, none⟩ = some c') ∧
    Below w.heap.size w ((w.alloc (.cells #[a, b, c] T)).alloc (.cells #[a', b', c'] T)) := by
  have h1 := heap_last (w.alloc (.cells #[a, b, c] T)) (.cells #[a', b', c'] T)
  rw [show (w.alloc (.cells #[a, b, c] T)).heap.size = w.heap.size + 1 by simp] at h1
  exact ⟨cells3_of ((heap_old _ _ (by simp)).trans (heap_last _ _)), cells3_of h1, (fresh_alloc w _).alloc (by simp) _⟩
theorem box_later {w W X : World} {g i : Nat} {v : Value} (h : W.cell? ⟨g, i, none⟩ = some v) (hb : Below W.heap.size W X) (hg : g < W.heap.size) : X.cell? ⟨g, i, none⟩ = some v := by
  rw [← h]; exact World.cell?_of_block (w := W) (hb.block g hg)
end Go.Proofs.YtokjmgkoifakdaaDoor
namespace Go.Proofs.YtokjmgkoifakdaaDoor
set_option linter.unusedVariables false
open Go Go.RowKit Go.Shelf Pl
theorem nm_out (c : UInt8) : nameB c = true ↔ ((97 : Int) ≤ c.toNat ∧ (c.toNat : Int) ≤ 122) ∨ ((65 : Int) ≤ c.toNat ∧ (c.toNat : Int) ≤ 90) ∨ ((48 : Int) ≤ c.toNat ∧ (c.toNat : Int) ≤ 57) ∨ (c.toNat : Int) = 95 := by
  unfold nameB digitB
  simp only [Bool.or_eq_true, Bool.and_eq_true, decide_eq_true_eq]
/-- Where a byte of a name lies, by the walk's own tests. -/
theorem nm_ways (c : UInt8) :
    (nameB c = true ∧ (((97 : Int) ≤ c.toNat ∧ (c.toNat : Int) ≤ 122) ∨ ((c.toNat : Int) < 97 ∧ (65 : Int) ≤ c.toNat ∧ (c.toNat : Int) ≤ 90) ∨ ((c.toNat : Int) < 65 ∧ (48 : Int) ≤ c.toNat ∧ (c.toNat : Int) ≤ 57) ∨ (c.toNat : Int) = 95)) ∨
    (nameB c = false ∧ ((122 : Int) < c.toNat ∨ ((c.toNat : Int) < 97 ∧ (90 : Int) < c.toNat ∧ ((c.toNat : Int) == 95) = false) ∨ ((57 : Int) < c.toNat ∧ (c.toNat : Int) < 65) ∨ ((c.toNat : Int) < 48))) := by
  have h := nm_out c
  cases e : nameB c
  · right
    rw [e] at h
    refine ⟨rfl, ?_⟩
    have h2 : ¬ (((97 : Int) ≤ c.toNat ∧ (c.toNat : Int) ≤ 122) ∨ ((65 : Int) ≤ c.toNat ∧ (c.toNat : Int) ≤ 90) ∨ ((48 : Int) ≤ c.toNat ∧ (c.toNat : Int) ≤ 57) ∨ (c.toNat : Int) = 95) := fun x => by cases h.2 x
    rw [beq_eq_false_iff_ne]
    omega
  · left
    rw [e] at h
    refine ⟨rfl, ?_⟩
    have := h.1 rfl
    omega
theorem alls_no {s : ByteArray} {p : UInt8 → Bool} {k : Nat} {c : UInt8} (h : s.data.toList[k]? = some c) (hp : p c = false) : allS s p = false := all_no' h hp
theorem alls_end {s : ByteArray} {p : UInt8 → Bool} (ha : (s.data.toList.take s.size).all p = true) : allS s p = true := by
  rw [List.take_of_length_le (Nat.le_of_eq (ln s))] at ha; exact ha
set_option maxHeartbeats 2000000 in
set_option maxRecDepth 100000 in
theorem rname_any (s : ByteArray) (hs : s.size ≤ maxLen) (w : World) :
    Calls Tryd.prog 91 #[.string s] w fun e w' => e = .returned (.bool (isName s)) ∧ w' = w := by
  have hsz : (s.size : Int) ≤ 9223372036854775807 := by unfold maxLen at hs; omega
  by_cases h0 : s.size = 0
  · have hz : s = ⟨#[]⟩ := by
      apply ByteArray.ext
      exact Array.size_eq_zero_iff.1 h0
    subst hz
    have HV : Hid (isName ⟨#[]⟩ = false) := Lib.hid rfl
    clear h0 hs hsz
    go_enter Tryd.func91, Tryd.ntmps91
    go_wp2_with fail
    go_ret
    rw [HV.out]
    exact ⟨rfl, rfl⟩
  · have hp : 0 < s.size := by omega
    obtain ⟨c, hc⟩ : ∃ c, s[0] = c := ⟨_, rfl⟩
    obtain ⟨r, hr⟩ : ∃ r, r = isName s := ⟨_, rfl⟩
    rw [← hr]
    rw [isName_eq hp hc] at hr
    have HR := Lib.hid hr
    have h1 : ¬ (s.size : Int) < 1 := by omega
    clear hr h0 hs
    by_cases h32 : (s.size : Int) ≤ 32
    · have h32' : ¬ (32 : Int) < (s.size : Int) := by omega
      have hN : s.size ≤ 32 := by omega
      by_cases hd : (48 : Int) ≤ c.toNat ∧ (c.toNat : Int) ≤ 57
      · obtain ⟨d1, d2⟩ := hd
        have HV : Hid (r = false) := Lib.hid (by rw [HR.out]; unfold digitB; rw [decide_eq_true d1, decide_eq_true d2]; simp)
        clear HR hN h32
        go_enter Tryd.func91, Tryd.ntmps91
        go_wp2_with fail
        go_ret
        rw [HV.out]
        exact ⟨rfl, rfl⟩
      · have hdg : digitB c = false := by unfold digitB; simp; omega
        have HV : Hid (r = allS s nameB) := Lib.hid (by rw [HR.out, hdg, decide_eq_true hN]; simp)
        have hx : (c.toNat : Int) < 48 ∨ ((48 : Int) ≤ c.toNat ∧ (57 : Int) < c.toNat) := by omega
        clear HR hdg hd h32
        have HN := Lib.hid hN
        clear hN
        rcases hx with d1 | ⟨d1, d2⟩
        all_goals
          (try have d3 : ¬ (48 : Int) ≤ (c.toNat : Int) := by omega)
          (try have d4 : ¬ (c.toNat : Int) ≤ 57 := by omega)
          go_enter Tryd.func91, Tryd.ntmps91
          go_wp2_with fail
          clear d1 hc
          (try clear d2)
          (try clear d3)
          (try clear d4)
          go_loop [3] (fun i => ∃ k : Nat, k ≤ s.size ∧ i = .int .i64 k ∧ Hid ((s.data.toList.take k).all nameB = true)) (fun i => s.size - (intOf i).toNat)
          case atStart => exact ⟨0, Nat.zero_le _, rfl, Lib.hid (by simp)⟩
          case round =>
            obtain ⟨k, hk, rfl, HA⟩ := hrel
            by_cases hlt : k < s.size
            · have hx : s.data.toList[k]? = some s[k] := Lib.data_getElem? s k hlt
              generalize hcc : s[k] = c at hx
              have HX := Lib.hid hx
              clear hx
              rcases nm_ways c with ⟨hp, h⟩ | ⟨hp, h⟩
              · have HNX := Lib.hid (all_next' HX.out HA.out hp)
                clear HX HA hp
                rcases h with ⟨h1, h2⟩ | ⟨h1, h2, h3⟩ | ⟨h1, h2, h3⟩ | h1
                all_goals
                  (try have g1 : (c.toNat : Int) < 97 := by omega)
                  (try have g2 : (c.toNat : Int) < 65 := by omega)
                  (try have g3 : (c.toNat : Int) < 48 := by omega)
                  (try have g4 : (97 : Int) ≤ (c.toNat : Int) := by omega)
                  (try have g5 : ¬ (c.toNat : Int) ≤ 90 := by omega)
                  (try have g6 : ¬ (c.toNat : Int) ≤ 57 := by omega)
                  go_wp2_with fail
                  go_round
                  case rel => exact ⟨k + 1, by omega, by go_num, HNX⟩
                  case measure => simp [intOf]; omega
              · have HZ : Hid (r = false) := Lib.hid (by rw [HV.out]; exact alls_no HX.out hp)
                clear HX HA hp HV
                rcases h with h1 | ⟨h1, h2, h3⟩ | ⟨h1, h2⟩ | h1
                all_goals
                  have g0 : ((c.toNat : Int) == 95) = false := by first | assumption | (rw [beq_eq_false_iff_ne]; omega)
                  (try have g1 : (c.toNat : Int) < 97 := by omega)
                  (try have g2 : (c.toNat : Int) < 65 := by omega)
                  (try have g3 : (97 : Int) ≤ c.toNat := by omega)
                  (try have g4 : (65 : Int) ≤ c.toNat := by omega)
                  (try have g5 : (48 : Int) ≤ c.toNat := by omega)
                  (try have g6 : ¬ (c.toNat : Int) ≤ 122 := by omega)
                  (try have g7 : ¬ (c.toNat : Int) ≤ 90 := by omega)
                  (try have g8 : ¬ (c.toNat : Int) ≤ 57 := by omega)
                  go_wp2_with fail
                  go_ret
                  rw [HZ.out]
                  exact ⟨rfl, rfl⟩
            · obtain rfl : k = s.size := by omega
              have HE : Hid (r = true) := Lib.hid (by rw [HV.out]; exact alls_end HA.out)
              clear HA
              go_wp2_with fail
              go_ret
              rw [HE.out]
              exact ⟨rfl, rfl⟩
    · have h32' : (32 : Int) < (s.size : Int) := by omega
      have HV : Hid (r = false) := Lib.hid (by rw [HR.out, decide_eq_false (by omega)]; simp)
      clear HR h32 hc
      go_enter Tryd.func91, Tryd.ntmps91
      go_wp2_with fail
      go_ret
      rw [HV.out]
      exact ⟨rfl, rfl⟩
/-- A row of texts. -/
def TxsAt (w : World) (v : Value) (L : List ByteArray) : Prop :=
  (L = [] ∧ ∃ p c, v = .slice p 0 c) ∨ ∃ g off c, v = .slice (some ⟨g, off, none⟩) L.length c ∧ g < w.heap.size ∧
    ∀ W : World, W.heap[g]? = w.heap[g]? → ∀ j (h : j < L.length), W.cell? ⟨g, off + j, none⟩ = some (.string L[j])
theorem TxsAt.below {w w' : World} {v : Value} {L : List ByteArray} (h : TxsAt w v L) (g : Below w.heap.size w w') : TxsAt w' v L := by
  rcases h with h | ⟨b, off, c, rfl, hb, hc⟩
  · exact .inl h
  · exact .inr ⟨b, off, c, rfl, Nat.lt_of_lt_of_le hb g.size, fun W hW => hc W (hW.trans (g.block b hb))⟩
theorem TxsAt.form {w : World} {v : Value} {L : List ByteArray} (h : TxsAt w v L) : ∃ p c, v = .slice p L.length c := by
  rcases h with ⟨rfl, p, c, rfl⟩ | ⟨g, off, c, rfl, _⟩
  · exact ⟨p, c, rfl⟩
  · exact ⟨_, c, rfl⟩
theorem txs_cell {w : World} {p : Option Addr} {n c : Nat} {L : List ByteArray} (h : TxsAt w (.slice p n c) L) {j : Nat} (hj : j < L.length) :
    ∃ g off, p = some ⟨g, off, none⟩ ∧ ∀ W, Below w.heap.size w W → ∀ i (hi : i < L.length), W.cell? ⟨g, off + i, none⟩ = some (.string L[i]) := by
  rcases h with ⟨rfl, _⟩ | ⟨g, off, c2, hs, hg, hc⟩
  · cases hj
  · injection hs with e1 e2 e3
    exact ⟨g, off, e1, fun W hW i hi => hc W (hW.block g hg) i hi⟩
theorem below_nq {B : Nat} {w w' : World} (h : Below B w w') (n : Nat) : Below B w (w'.drewN n) := ⟨h.os, h.tape, h.output, h.size, h.block⟩
theorem rises_nil {x : Nm} (r : List Nm) : rises ⟨#[]⟩ (x :: r) = (isName x && rises x r) := by
  show (isName x && (!(Op.bytesLess x.toList (⟨#[]⟩ : ByteArray).toList || x.toList == (⟨#[]⟩ : ByteArray).toList) && rises x r)) = _
  cases hn : isName x
  · rfl
  · have e0 : (⟨#[]⟩ : ByteArray).toList = [] := by rw [Go.ByteArray.toList_eq]
    have e1 : Op.bytesLess x.toList [] = false := by cases x.toList <;> rfl
    have e2 : (x.toList == []) = false := by
      rw [Go.ByteArray.toList_eq]
      cases hx : x.data.toList with
      | nil => unfold isName at hn; rw [hx] at hn; cases hn
      | cons a b => rfl
    rw [e0, e1, e2]; rfl
theorem less_turned : ∀ a b : List UInt8, Op.bytesLess b a = !(Op.bytesLess a b || a == b)
  | [], [] => rfl
  | [], _ :: _ => rfl
  | _ :: _, [] => rfl
  | x :: a, y :: b => by
    have ih := less_turned a b
    have e : (x :: a == y :: b) = (x == y && a == b) := rfl
    rw [e]
    unfold Op.bytesLess
    rw [ih]
    by_cases h1 : x = y
    · subst h1; simp [UInt8.lt_irrefl]
    · have h2 : ¬ y = x := fun c => h1 c.symm
      have h4 : ¬ x.toNat = y.toNat := fun c => h1 (UInt8.toNat_inj.mp c)
      by_cases h3 : x < y
      · have h5 : ¬ y < x := by rw [UInt8.lt_iff_toNat_lt] at *; omega
        simp [h1, h2, h3, h5]
      · have h5 : y < x := by rw [UInt8.lt_iff_toNat_lt] at *; omega
        simp [h1, h2, h3, h5]
/-- The names behind the k-th rise from the one ahead of it. -/
def risesAt (ns : List Nm) (k : Nat) : Bool := if k = 0 then rises ⟨#[]⟩ ns else rises (ns.getD (k - 1) ⟨#[]⟩) (ns.drop k)
theorem risesAt_zero (ns : List Nm) : risesAt ns 0 = rises ⟨#[]⟩ ns := rfl
theorem risesAt_first {ns : List Nm} {x : Nm} (h : ns[0]? = some x) : risesAt ns 0 = (isName x && risesAt ns 1) := by
  cases ns with
  | nil => cases h
  | cons y r =>
    simp at h; subst h
    rw [risesAt_zero, rises_nil]; rfl
theorem risesAt_next {ns : List Nm} {x y : Nm} {k : Nat} (h : ns[k]? = some y) (h2 : ns[k + 1]? = some x) : risesAt ns (k + 1) = (isName x && (!(Op.bytesLess x.toList y.toList || x.toList == y.toList) && risesAt ns (k + 2))) := by
  have e1 : ns.getD k ⟨#[]⟩ = y := by rw [List.getD_eq_getElem?_getD, h]; rfl
  have e2 : ns.getD (k + 1) ⟨#[]⟩ = x := by rw [List.getD_eq_getElem?_getD, h2]; rfl
  unfold risesAt
  rw [if_neg (by omega), if_neg (by omega)]
  show rises (ns.getD k ⟨#[]⟩) _ = (isName x && (!(Op.bytesLess x.toList y.toList || x.toList == y.toList) && rises (ns.getD (k + 1) ⟨#[]⟩) _))
  rw [e1, e2, rises_at h2]
theorem risesAt_end (ns : List Nm) (h : ns ≠ []) : risesAt ns ns.length = true := by
  unfold risesAt
  rw [if_neg (by intro h0; exact h (List.length_eq_zero_iff.mp h0)), List.drop_length]; rfl
set_option maxHeartbeats 4000000 in
set_option maxRecDepth 100000 in
theorem rnames_any (ns : List Nm) (v : Value) (w : World) (h : TxsAt w v ns) (hl : ns.length ≤ maxLen) (ho : ∀ x ∈ ns, x.size ≤ maxLen) :
    Calls Tryd.prog 41 #[v] w fun e w' => e = .returned (.bool (rises ⟨#[]⟩ ns)) ∧ Below w.heap.size w w' := by
  obtain ⟨R, hR⟩ : ∃ R, R = rises ⟨#[]⟩ ns := ⟨_, rfl⟩
  rw [← hR]
  rw [← risesAt_zero] at hR
  have HR := Lib.hid hR
  have HH := Lib.hid h
  have HL := Lib.hid hl
  have HO := Lib.hid ho
  obtain ⟨p, c, rfl⟩ := h.form
  obtain ⟨n, hn⟩ : ∃ n, n = ns.length := ⟨_, rfl⟩
  rw [← hn] at HH HL ⊢
  have HN := Lib.hid hn
  clear h hR hl ho hn
  go_enter Tryd.func41, Tryd.ntmps41
  go_wp2_with fail
  go_loopw [3] (fun i wx => ∃ k : Nat, k ≤ n ∧ i = .int .i64 k ∧ Hid (R = risesAt ns k) ∧ Below w.heap.size w wx) (fun i _ => n - (intOf i).toNat)
  case atStart => exact ⟨0, Nat.zero_le _, rfl, HR, Below.refl _ _⟩
  case round =>
    obtain ⟨k, hk, rfl, HK, hq⟩ := hrel
    have HQ := Lib.hid hq
    clear hq
    obtain ⟨wz, rfl⟩ : ∃ wz : World, wz = wr := ⟨_, rfl⟩
    by_cases hlt : k < n
    · have hlt' : (k : Int) < n := by omega
      have hlk : k < ns.length := by rw [← HN.out]; exact hlt
      obtain ⟨g, off, rfl, hc⟩ := txs_cell HH.out hlk
      have ca := hc wz HQ.out k hlk
      have VX := Lib.hid (List.getElem?_eq_getElem hlk)
      have HS := Lib.hid (HO.out _ (List.getElem_mem hlk))
      generalize ns[k] = x at ca VX HS
      have CN := Lib.hid (fun W => rname_any x HS.out W)
      by_cases hk00 : k = 0
      · subst hk00
        have HV : Hid (R = (isName x && risesAt ns 1)) := Lib.hid (HK.out.trans (risesAt_first VX.out))
        clear HK hc
        rw [Nat.add_zero] at ca
        cases hnm : isName x with
        | false =>
          rw [hnm] at CN HV
          go_wp2_with fail
          go_quiet (first | (go_at_call 91; refine Calls.quiet_of_same (CN.out _)))
          go_wp2_with fail
          go_ret
          exact ⟨by rw [HV.out]; rfl, below_nq HQ.out _⟩
        | true =>
          rw [hnm] at CN HV
          go_wp2_with fail
          go_quiet (first | (go_at_call 91; refine Calls.quiet_of_same (CN.out _)))
          go_wp2_with fail
          go_roundw
          case rel => exact ⟨1, by omega, by first | rfl | go_num, Lib.hid (by rw [HV.out]; rfl), below_nq HQ.out _⟩
          case measure => simp [intOf]; omega
      · obtain ⟨j, hj⟩ : ∃ j, k = j + 1 := ⟨k - 1, by omega⟩
        have hlk1 : j < ns.length := by omega
        have cb := hc wz HQ.out j hlk1
        have VY := Lib.hid (List.getElem?_eq_getElem hlk1)
        generalize ns[j] = y at cb VY
        have HV : Hid (R = (isName x && (!(Op.bytesLess x.toList y.toList || x.toList == y.toList) && risesAt ns (k + 1)))) := Lib.hid (by
          rw [HK.out]
          rw [hj] at VX ⊢
          exact risesAt_next VY.out VX.out)
        have hk0 : 0 < k := by omega
        have hk1 : wrap64 ((k : Int) - 1) = (j : Int) := by unfold wrap64; have := HL.out; unfold maxLen at this; omega
        have hk2 : (j : Int) < (n : Int) := by omega
        clear HK hc hj hk00 hlk1 VX VY
        cases hnm : isName x with
        | false =>
          rw [hnm] at CN HV
          go_wp2_with fail
          go_quiet (first | (go_at_call 91; refine Calls.quiet_of_same (CN.out _)))
          go_wp2_with fail
          go_ret
          exact ⟨by rw [HV.out]; rfl, below_nq HQ.out _⟩
        | true =>
          rw [hnm] at CN HV
          have hge := less_turned x.toList y.toList
          cases hle : (Op.bytesLess x.toList y.toList || x.toList == y.toList) with
          | true =>
            rw [hle] at HV hge
            clear hle
            simp only [Bool.not_true, Bool.not_false] at hge
            go_wp2_with fail
            go_quiet (first | (go_at_call 91; refine Calls.quiet_of_same (CN.out _)))
            go_wp2_with fail
            go_ret
            exact ⟨by rw [HV.out]; rfl, below_nq HQ.out _⟩
          | false =>
            rw [hle] at HV hge
            clear hle
            simp only [Bool.not_true, Bool.not_false] at hge
            go_wp2_with fail
            go_quiet (first | (go_at_call 91; refine Calls.quiet_of_same (CN.out _)))
            go_wp2_with fail
            go_roundw
            case rel => exact ⟨k + 1, by omega, congrArg _ (wrap_s HL.out hlt), Lib.hid (by rw [HV.out]; rfl), below_nq HQ.out _⟩
            case measure => rw [wrap_s HL.out hlt]; exact int_less hlt
    · obtain rfl : k = n := by omega
      have HE : Hid (R = true) := Lib.hid (by
        rw [HK.out]
        by_cases he : ns = []
        · subst he; have := HN.out; simp at this; subst this; rfl
        · rw [HN.out]; exact risesAt_end ns he)
      go_wp2_with fail
      go_ret
      rw [HE.out]
      exact ⟨rfl, HQ.out⟩
end Go.Proofs.YtokjmgkoifakdaaDoor
namespace Go.Proofs.YtokjmgkoifakdaaDoor
set_option linter.unusedVariables false
open Go Go.RowKit Go.Shelf Pl
theorem nm_of {a b : Nm} (h : a.data.toList = b.data.toList) : a = b := by
  cases a; cases b
  simp only at h
  rw [Array.toList_inj.mp h]
theorem fixL_in {w n m : Nat} {r s : List UInt8} (hn : n < 256 ^ w) (hm : m < 256 ^ w) (h : fixL w n ++ r = fixL w m ++ s) : n = m ∧ r = s := by
  obtain ⟨h1, h2⟩ := List.append_inj h (by rw [fixL_length, fixL_length])
  refine ⟨?_, h2⟩
  have := congrArg unfL h1
  rwa [unfL_fixL w n hn, unfL_fixL w m hm] at this
theorem flat_in {α} {f : α → List UInt8} {V : α → Prop} (hf : ∀ x y, V x → V y → ∀ r s, f x ++ r = f y ++ s → x = y ∧ r = s) :
    ∀ (L M : List α), L.length = M.length → (∀ x ∈ L, V x) → (∀ x ∈ M, V x) → ∀ r s, L.flatMap f ++ r = M.flatMap f ++ s → L = M ∧ r = s
  | [], [], _, _, _, r, s, h => ⟨rfl, by simpa using h⟩
  | x :: L, y :: M, hl, hL, hM, r, s, h => by
    rw [List.flatMap_cons, List.flatMap_cons, List.append_assoc, List.append_assoc] at h
    obtain ⟨h1, h2⟩ := hf x y (hL x (List.mem_cons_self ..)) (hM y (List.mem_cons_self ..)) _ _ h
    obtain ⟨h3, h4⟩ := flat_in hf L M (by simpa using hl) (fun z hz => hL z (List.mem_cons_of_mem _ hz)) (fun z hz => hM z (List.mem_cons_of_mem _ hz)) _ _ h2
    exact ⟨by rw [h1, h3], h4⟩
theorem name_in {a b : Nm} (ha : a.size ≤ 255) (hb : b.size ≤ 255) {r s : List UInt8} (h : fixL 1 a.size ++ a.data.toList ++ r = fixL 1 b.size ++ b.data.toList ++ s) : a = b ∧ r = s := by
  rw [List.append_assoc, List.append_assoc] at h
  obtain ⟨h1, h2⟩ := fixL_in (by omega) (by omega) h
  obtain ⟨h3, h4⟩ := List.append_inj h2 (by rw [Array.length_toList, Array.length_toList]; exact h1)
  exact ⟨nm_of h3, h4⟩
theorem ints_in {L M : List Int} (hl : L.length = M.length) (hL : ∀ n ∈ L, -32768 ≤ n ∧ n ≤ 32767) (hM : ∀ n ∈ M, -32768 ≤ n ∧ n ≤ 32767) {r s : List UInt8} (h : bInts L ++ r = bInts M ++ s) : L = M ∧ r = s :=
  flat_in (V := fun n => -32768 ≤ n ∧ n ≤ 32767) (fun x y hx hy r s e => by
    obtain ⟨h1, h2⟩ := fixL_in (w := 2) (by omega) (by omega) e
    exact ⟨by omega, h2⟩) L M hl hL hM r s h
def VecIs (x : Vec) : Prop := x.name.size ≤ 32 ∧ 1 ≤ x.v.length ∧ x.v.length ≤ 64 ∧ ∀ n ∈ x.v, -32768 ≤ n ∧ n ≤ 32767
theorem vec_in (x y : Vec) (hx : VecIs x) (hy : VecIs y) (r s : List UInt8) (h : bVec x ++ r = bVec y ++ s) : x = y ∧ r = s := by
  obtain ⟨x1, x2, x3, x4⟩ := hx
  obtain ⟨y1, y2, y3, y4⟩ := hy
  obtain ⟨xn, xv⟩ := x
  obtain ⟨yn, yv⟩ := y
  simp only at x1 x2 x3 x4 y1 y2 y3 y4
  unfold bVec at h
  simp only [List.append_assoc] at h
  rw [← List.append_assoc, ← List.append_assoc (fixL 1 yn.size)] at h
  obtain ⟨rfl, h2⟩ := name_in (by omega) (by omega) h
  obtain ⟨h3, h4⟩ := fixL_in (by omega) (by omega) h2
  obtain ⟨rfl, h5⟩ := ints_in h3 x4 y4 h4
  exact ⟨rfl, h5⟩
theorem u64_in {n m : Int} (hn : -4503599627370496 ≤ n ∧ n ≤ 4503599627370496) (hm : -4503599627370496 ≤ m ∧ m ≤ 4503599627370496) (h : u64N n = u64N m) : n = m := by
  unfold u64N IntKind.wrap at h
  simp [IntKind.bits, IntKind.signed] at h
  omega
theorem u64_top (n : Int) : u64N n < 256 ^ 8 := by
  unfold u64N IntKind.wrap
  simp [IntKind.bits, IntKind.signed]
  omega
theorem u64_small {n : Int} (h : 0 ≤ n ∧ n ≤ 1) : u64N n < 256 ^ 1 := by
  unfold u64N IntKind.wrap
  simp [IntKind.bits, IntKind.signed]
  omega
/-- What a value that may be is like. -/
theorem val_kinds {v : Val} (h : valB v = true) : (v.kind = 1 ∧ (-4503599627370496 ≤ v.n ∧ v.n ≤ 4503599627370496) ∧ v.text = ⟨#[]⟩) ∨ (v.kind = 2 ∧ v.n = 0 ∧ v.text.size ≤ 256) ∨ (v.kind = 3 ∧ (0 ≤ v.n ∧ v.n ≤ 1) ∧ v.text = ⟨#[]⟩) := by
  obtain ⟨k, n, t⟩ := v
  have hempty : (t.size : Int) ≤ 0 → t = ⟨#[]⟩ := fun hz => by
    obtain ⟨d⟩ := t
    have h0 : d.size = 0 := by have : (ByteArray.mk d).size = d.size := rfl; omega
    rw [Array.size_eq_zero_iff.mp h0]
  unfold valB at h
  simp only at h ⊢
  split at h
  · rename_i hk
    have hk' : k = 1 ∨ k = 2 ∨ k = 3 := by omega
    rcases hk' with rfl | rfl | rfl
    · simp only [show (1 : Int).toNat = 1 from rfl, szT, Bool.and_eq_true, decide_eq_true_eq] at h
      exact .inl ⟨rfl, ⟨h.1, h.2.1⟩, hempty h.2.2.1⟩
    · simp only [show (2 : Int).toNat = 2 from rfl, szT, Bool.and_eq_true, decide_eq_true_eq] at h
      exact .inr (.inl ⟨rfl, by omega, by omega⟩)
    · simp only [show (3 : Int).toNat = 3 from rfl, szT, Bool.and_eq_true, decide_eq_true_eq] at h
      exact .inr (.inr ⟨rfl, ⟨h.1, h.2.1⟩, hempty h.2.2.1⟩)
  · cases h
theorem val_in (x y : Val) (hx : valB x = true) (hy : valB y = true) (r s : List UInt8) (h : bVal x ++ r = bVal y ++ s) : x = y ∧ r = s := by
  have kx := val_kinds hx
  have ky := val_kinds hy
  clear hx hy
  obtain ⟨xk, xn, xt⟩ := x
  obtain ⟨yk, yn, yt⟩ := y
  simp only at kx ky
  have hk : ∀ (k l : Nat), k < 256 → l < 256 → ∀ a b : List UInt8, fixL 1 k ++ a = fixL 1 l ++ b → k = l ∧ a = b := fun k l h1 h2 a b e => fixL_in (by omega) (by omega) e
  rcases kx with ⟨rfl, x1, rfl⟩ | ⟨rfl, rfl, x2⟩ | ⟨rfl, x1, rfl⟩ <;> rcases ky with ⟨rfl, y1, rfl⟩ | ⟨rfl, rfl, y2⟩ | ⟨rfl, y1, rfl⟩ <;> simp only [bVal, List.append_assoc] at h
  · obtain ⟨_, h2⟩ := hk 1 1 (by decide) (by decide) _ _ h
    obtain ⟨h3, h4⟩ := fixL_in (w := 8) (u64_top _) (u64_top _) h2
    exact ⟨by rw [u64_in x1 y1 h3], h4⟩
  · exact absurd (hk 1 2 (by decide) (by decide) _ _ h).1 (by decide)
  · exact absurd (hk 1 3 (by decide) (by decide) _ _ h).1 (by decide)
  · exact absurd (hk 2 1 (by decide) (by decide) _ _ h).1 (by decide)
  · obtain ⟨_, h2⟩ := hk 2 2 (by decide) (by decide) _ _ h
    obtain ⟨h3, h4⟩ := fixL_in (w := 2) (by omega) (by omega) h2
    obtain ⟨h5, h6⟩ := List.append_inj h4 (by rw [Array.length_toList, Array.length_toList]; exact h3)
    exact ⟨by rw [nm_of h5], h6⟩
  · exact absurd (hk 2 3 (by decide) (by decide) _ _ h).1 (by decide)
  · exact absurd (hk 3 1 (by decide) (by decide) _ _ h).1 (by decide)
  · exact absurd (hk 3 2 (by decide) (by decide) _ _ h).1 (by decide)
  · obtain ⟨_, h2⟩ := hk 3 3 (by decide) (by decide) _ _ h
    obtain ⟨h3, h4⟩ := fixL_in (w := 1) (u64_small x1) (u64_small y1) h2
    exact ⟨by rw [u64_in (by omega) (by omega) h3], h4⟩
def FldIs (x : Fld) : Prop := x.name.size ≤ 32 ∧ valB x.val = true
theorem fld_in (x y : Fld) (hx : FldIs x) (hy : FldIs y) (r s : List UInt8) (h : bFld x ++ r = bFld y ++ s) : x = y ∧ r = s := by
  obtain ⟨x1, x2⟩ := hx
  obtain ⟨y1, y2⟩ := hy
  obtain ⟨xn, xv⟩ := x
  obtain ⟨yn, yv⟩ := y
  simp only at x1 x2 y1 y2
  unfold bFld at h
  simp only at h
  rw [List.append_assoc, List.append_assoc (fixL 1 yn.size ++ yn.data.toList)] at h
  obtain ⟨rfl, h2⟩ := name_in (by omega) (by omega) h
  obtain ⟨rfl, h3⟩ := val_in _ _ x2 y2 _ _ h2
  exact ⟨rfl, h3⟩
theorem pt_in (a b : Pt) (ha : ptMay a = true) (hb : ptMay b = true) (r s : List UInt8) (h : bPt a ++ r = bPt b ++ s) : a = b ∧ r = s := by
  have pa := ptIs ha
  have pb := ptIs hb
  clear ha hb
  obtain ⟨i, v, f⟩ := a
  obtain ⟨j, u, g⟩ := b
  have a1 := pa.id1
  have a2 := pa.id2
  have a3 := pa.nv
  have a4 := pa.nf
  have b1 := pb.id1
  have b2 := pb.id2
  have b3 := pb.nv
  have b4 := pb.nf
  unfold maxId at a2 b2
  simp only at a1 a2 a3 a4 b1 b2 b3 b4
  unfold bPt at h
  simp only [List.append_assoc] at h
  obtain ⟨h1, h2⟩ := fixL_in (w := 8) (by omega) (by omega) h
  obtain ⟨h3, h4⟩ := fixL_in (w := 1) (by omega) (by omega) h2
  obtain ⟨rfl, h5⟩ := flat_in vec_in v u h3 (fun x hx => ⟨pa.vn x hx, pa.vv x hx⟩) (fun x hx => ⟨pb.vn x hx, pb.vv x hx⟩) _ _ h4
  obtain ⟨h6, h7⟩ := fixL_in (w := 1) (by omega) (by omega) h5
  obtain ⟨rfl, h8⟩ := flat_in fld_in f g h6 (fun x hx => ⟨pa.fn x hx, pa.fv x hx⟩) (fun x hx => ⟨pb.fn x hx, pb.fv x hx⟩) _ _ h7
  obtain rfl : i = j := by omega
  exact ⟨rfl, h8⟩
theorem bytes_tell {a b : Pt} (ha : ptMay a = true) (hb : ptMay b = true) : bPt a = bPt b ↔ a = b := by
  constructor
  · intro h
    exact (pt_in a b ha hb [] [] (by rw [h])).1
  · rintro rfl; rfl
end Go.Proofs.YtokjmgkoifakdaaDoor
namespace Go.Proofs.YtokjmgkoifakdaaDoor
set_option linter.unusedVariables false
open Go Go.RowKit Go.Shelf Pl
/-- What is left, and whether bytes lacked. -/
structure Rs where
  rest : List UInt8
  short : Bool
def takeR (n : Nat) (r : Rs) : List UInt8 × Rs := if r.rest.length < n then ([], ⟨[], true⟩) else (r.rest.take n, ⟨r.rest.drop n, r.short⟩)
def numR (w : Nat) (r : Rs) : Nat × Rs := (unfL (takeR w r).1, (takeR w r).2)
def textR (w : Nat) (r : Rs) : Nm × Rs := (⟨(takeR (numR w r).1 (numR w r).2).1.toArray⟩, (takeR (numR w r).1 (numR w r).2).2)
def partR (r : Rs) : Int × Rs := (((numR 2 r).1 : Int) - 32768, (numR 2 r).2)
def manyR {α : Type} (f : Rs → α × Rs) : Nat → Rs → List α × Rs
  | 0, r => ([], r)
  | k + 1, r => ((f r).1 :: (manyR f k (f r).2).1, (manyR f k (f r).2).2)
def severalR {α : Type} (f : Rs → α × Rs) (r : Rs) : List α × Rs := manyR f (numR 1 r).1 (numR 1 r).2
def vecR (r : Rs) : Vec × Rs := (⟨(textR 1 r).1, (severalR partR (textR 1 r).2).1⟩, (severalR partR (textR 1 r).2).2)
def i64N (n : Nat) : Int := IntKind.i64.wrap (n : Int)
def valR (r : Rs) : Val × Rs :=
  if (numR 1 r).1 = 2 then (⟨2, 0, (textR 2 (numR 1 r).2).1⟩, (textR 2 (numR 1 r).2).2)
  else (⟨((numR 1 r).1 : Int), i64N (numR (szT (numR 1 r).1).1.toNat (numR 1 r).2).1, ⟨#[]⟩⟩, (numR (szT (numR 1 r).1).1.toNat (numR 1 r).2).2)
def fldR (r : Rs) : Fld × Rs := (⟨(textR 1 r).1, (valR (textR 1 r).2).1⟩, (valR (textR 1 r).2).2)
def ptR (s : List UInt8) : Pt × Rs :=
  let r1 := numR 8 ⟨s, false⟩
  let r2 := severalR vecR r1.2
  let r3 := severalR fldR r2.2
  (⟨i64N r1.1, r2.1, r3.1⟩, r3.2)
/-! ### What was written is read -/
theorem takeR_app (a t : List UInt8) (b : Bool) : takeR a.length ⟨a ++ t, b⟩ = (a, ⟨t, b⟩) := by
  unfold takeR
  rw [if_neg (by rw [List.length_append]; omega)]
  simp
theorem numR_fix (w n : Nat) (t : List UInt8) (b : Bool) (h : n < 256 ^ w) : numR w ⟨fixL w n ++ t, b⟩ = (n, ⟨t, b⟩) := by
  have e := takeR_app (fixL w n) t b
  rw [fixL_length] at e
  unfold numR
  rw [e, unfL_fixL w n h]
theorem textR_fix (w : Nat) (s : Nm) (t : List UInt8) (b : Bool) (h : s.size < 256 ^ w) : textR w ⟨fixL w s.size ++ s.data.toList ++ t, b⟩ = (s, ⟨t, b⟩) := by
  have e := takeR_app s.data.toList t b
  rw [← Lib.size_eq] at e
  unfold textR
  rw [List.append_assoc, numR_fix w s.size _ b h, e]
theorem manyR_flat {α : Type} {f : Rs → α × Rs} {g : α → List UInt8} {V : α → Prop} (hf : ∀ x, V x → ∀ t b, f ⟨g x ++ t, b⟩ = (x, ⟨t, b⟩)) :
    ∀ (L : List α), (∀ x ∈ L, V x) → ∀ t b, manyR f L.length ⟨L.flatMap g ++ t, b⟩ = (L, ⟨t, b⟩)
  | [], _, t, b => by simp [manyR]
  | x :: L, h, t, b => by
    have h1 := hf x (h x (List.mem_cons_self ..)) (L.flatMap g ++ t) b
    have h2 := manyR_flat hf L (fun y hy => h y (List.mem_cons_of_mem _ hy)) t b
    rw [List.flatMap_cons, List.append_assoc, List.length_cons]
    unfold manyR
    rw [h1, h2]
theorem severalR_flat {α : Type} {f : Rs → α × Rs} {g : α → List UInt8} {V : α → Prop} (hf : ∀ x, V x → ∀ t b, f ⟨g x ++ t, b⟩ = (x, ⟨t, b⟩)) (L : List α) (hL : L.length < 256) (h : ∀ x ∈ L, V x) (t : List UInt8) (b : Bool) :
    severalR f ⟨fixL 1 L.length ++ L.flatMap g ++ t, b⟩ = (L, ⟨t, b⟩) := by
  unfold severalR
  rw [List.append_assoc, numR_fix 1 _ _ b (by omega), manyR_flat hf L h t b]
theorem partR_fix (n : Int) (h : -32768 ≤ n ∧ n ≤ 32767) (t : List UInt8) (b : Bool) : partR ⟨fixL 2 (n + 32768).toNat ++ t, b⟩ = (n, ⟨t, b⟩) := by
  unfold partR
  rw [numR_fix 2 _ _ b (by omega)]
  simp only [Prod.mk.injEq, and_true]; omega
theorem vecR_fix (x : Vec) (h : VecIs x) (t : List UInt8) (b : Bool) : vecR ⟨bVec x ++ t, b⟩ = (x, ⟨t, b⟩) := by
  obtain ⟨h1, h2, h3, h4⟩ := h
  unfold vecR bVec bInts
  have e1 := textR_fix 1 x.name (fixL 1 x.v.length ++ x.v.flatMap (fun n => fixL 2 (n + 32768).toNat) ++ t) b (by omega)
  have e2 := severalR_flat (f := partR) (g := fun n => fixL 2 (n + 32768).toNat) (V := fun n => -32768 ≤ n ∧ n ≤ 32767) partR_fix x.v (by omega) h4 t b
  simp only [List.append_assoc] at e1 e2 ⊢
  rw [e1, e2]
theorem i64_u64 (n : Int) (h : -4503599627370496 ≤ n ∧ n ≤ 4503599627370496) : i64N (u64N n) = n := by
  unfold i64N u64N
  have h1 : (0 : Int) ≤ IntKind.u64.wrap n := by unfold IntKind.wrap; simp [IntKind.bits, IntKind.signed]; omega
  rw [Int.toNat_of_nonneg h1]
  unfold IntKind.wrap
  simp [IntKind.bits, IntKind.signed]; omega
theorem valR_fix (v : Val) (h : valB v = true) (t : List UInt8) (b : Bool) : valR ⟨bVal v ++ t, b⟩ = (v, ⟨t, b⟩) := by
  have kv := val_kinds h
  obtain ⟨k, n, x⟩ := v
  simp only at kv
  rcases kv with ⟨rfl, h1, rfl⟩ | ⟨rfl, rfl, h2⟩ | ⟨rfl, h1, rfl⟩
  · have e1 := numR_fix 1 1 (fixL 8 (u64N n) ++ t) b (by decide)
    have e2 := numR_fix 8 (u64N n) t b (u64_top n)
    have e3 : bVal ⟨1, n, ⟨#[]⟩⟩ = fixL 1 1 ++ fixL 8 (u64N n) := rfl
    unfold valR
    rw [e3, List.append_assoc, e1]
    simp only [show ¬ (1 = 2) by decide, if_false, show (szT 1).1.toNat = 8 from rfl, e2, i64_u64 n h1]; rfl
  · have e1 := numR_fix 1 2 (fixL 2 x.size ++ x.data.toList ++ t) b (by decide)
    have e2 := textR_fix 2 x t b (by omega)
    have e3 : bVal ⟨2, 0, x⟩ = fixL 1 2 ++ fixL 2 x.size ++ x.data.toList := rfl
    simp only [List.append_assoc] at e1 e2 e3
    unfold valR
    rw [e3]
    simp only [List.append_assoc]
    rw [e1]
    simp only [if_true, e2]
  · have e1 := numR_fix 1 3 (fixL 1 (u64N n) ++ t) b (by decide)
    have e2 := numR_fix 1 (u64N n) t b (u64_small h1)
    have e3 : bVal ⟨3, n, ⟨#[]⟩⟩ = fixL 1 3 ++ fixL 1 (u64N n) := rfl
    unfold valR
    rw [e3, List.append_assoc, e1]
    simp only [show ¬ (3 = 2) by decide, if_false, show (szT 3).1.toNat = 1 from rfl, e2, i64_u64 n (by omega)]; rfl
theorem fldR_fix (x : Fld) (h : FldIs x) (t : List UInt8) (b : Bool) : fldR ⟨bFld x ++ t, b⟩ = (x, ⟨t, b⟩) := by
  obtain ⟨h1, h2⟩ := h
  unfold fldR bFld
  have e1 := textR_fix 1 x.name (bVal x.val ++ t) b (by omega)
  have e2 := valR_fix x.val h2 t b
  simp only [List.append_assoc] at e1 e2 ⊢
  rw [e1, e2]
theorem ptR_back (a : Pt) (h : ptMay a = true) (t : List UInt8) : ptR (bPt a ++ t) = (a, ⟨t, false⟩) := by
  have pa := ptIs h
  have hid : a.id.toNat < 256 ^ 8 := by have := pa.id1; have := pa.id2; unfold maxId at this; omega
  have e1 := numR_fix 8 a.id.toNat (fixL 1 a.vecs.length ++ a.vecs.flatMap bVec ++ (fixL 1 a.flds.length ++ a.flds.flatMap bFld ++ t)) false hid
  have e2 := severalR_flat (f := vecR) (g := bVec) (V := VecIs) vecR_fix a.vecs (by have := pa.nv; omega) (fun x hx => ⟨pa.vn x hx, (pa.vv x hx).1, (pa.vv x hx).2.1, (pa.vv x hx).2.2⟩) (fixL 1 a.flds.length ++ a.flds.flatMap bFld ++ t) false
  have e3 := severalR_flat (f := fldR) (g := bFld) (V := FldIs) fldR_fix a.flds (by have := pa.nf; omega) (fun x hx => ⟨pa.fn x hx, pa.fv x hx⟩) t false
  have e4 : i64N a.id.toNat = a.id := by
    have := pa.id1; have h2 := pa.id2; unfold maxId at h2
    unfold i64N IntKind.wrap
    simp [IntKind.bits, IntKind.signed]; omega
  unfold ptR bPt
  simp only [List.append_assoc] at e1 e2 e3 ⊢
  rw [e1]
  simp only
  rw [e2]
  simp only
  rw [e3]
  simp only [e4]
/-! ### A longer text is read the same -/
def Mono {α : Type} (f : Rs → α × Rs) : Prop := ∀ r u, (f r).2.short = false → r.short = false ∧ f ⟨r.rest ++ u, false⟩ = ((f r).1, ⟨(f r).2.rest ++ u, false⟩)
theorem takeR_mono (n : Nat) : Mono (takeR n) := fun r u h => by
  obtain ⟨l, b⟩ := r
  unfold takeR at h ⊢
  simp only at h ⊢
  by_cases c : l.length < n
  · rw [if_pos c] at h; cases h
  · rw [if_neg c] at h
    simp only at h
    subst h
    rw [if_neg c, if_neg (by rw [List.length_append]; omega)]
    refine ⟨rfl, ?_⟩
    rw [List.take_append_of_le_length (by omega), List.drop_append_of_le_length (by omega)]
theorem numR_mono (w : Nat) : Mono (numR w) := fun r u h => by
  obtain ⟨h1, h2⟩ := takeR_mono w r u h
  refine ⟨h1, ?_⟩
  unfold numR
  rw [h2]
theorem Mono.then {α β : Type} {f : Rs → α × Rs} {g : α → Rs → β × Rs} (hf : Mono f) (hg : ∀ x, Mono (g x)) : Mono (fun r => g (f r).1 (f r).2) := fun r u h => by
  obtain ⟨h1, h2⟩ := hg _ _ u h
  obtain ⟨h3, h4⟩ := hf r u h1
  refine ⟨h3, ?_⟩
  simp only [h4]
  exact h2
theorem Mono.map {α β : Type} {f : Rs → α × Rs} (m : α → β) (hf : Mono f) : Mono (fun r => (m (f r).1, (f r).2)) := fun r u h => by
  obtain ⟨h3, h4⟩ := hf r u h
  exact ⟨h3, by simp only [h4]⟩
theorem textR_mono (w : Nat) : Mono (textR w) := by
  have h := Mono.map (fun l : List UInt8 => (⟨l.toArray⟩ : Nm)) ((numR_mono w).then (g := fun n r => takeR n r) (fun n => takeR_mono n))
  exact h
theorem partR_mono : Mono partR := Mono.map (fun n : Nat => (n : Int) - 32768) (numR_mono 2)
theorem manyR_mono {α : Type} {f : Rs → α × Rs} (hf : Mono f) : ∀ k, Mono (manyR f k)
  | 0 => fun r u h => ⟨h, by simp [manyR]⟩
  | k + 1 => by
    have h := hf.then (g := fun x r => (x :: (manyR f k r).1, (manyR f k r).2)) (fun x => Mono.map (fun l => x :: l) (manyR_mono hf k))
    intro r u hr
    have := h r u (by simpa [manyR] using hr)
    simpa [manyR] using this
theorem severalR_mono {α : Type} {f : Rs → α × Rs} (hf : Mono f) : Mono (severalR f) := (numR_mono 1).then (g := fun n r => manyR f n r) (fun n => manyR_mono hf n)
theorem vecR_mono : Mono vecR := (textR_mono 1).then (g := fun s r => ((⟨s, (severalR partR r).1⟩ : Vec), (severalR partR r).2)) (fun s => Mono.map (fun l => (⟨s, l⟩ : Vec)) (severalR_mono partR_mono))
theorem valR_mono : Mono valR := by
  have h := (numR_mono 1).then (g := fun (n : Nat) r => if n = 2 then ((⟨2, 0, (textR 2 r).1⟩ : Val), (textR 2 r).2) else (⟨(n : Int), i64N (numR (szT n).1.toNat r).1, ⟨#[]⟩⟩, (numR (szT n).1.toNat r).2)) (fun n => by
    by_cases c : n = 2
    · simp only [c, if_true]; exact Mono.map (fun s => (⟨2, 0, s⟩ : Val)) (textR_mono 2)
    · simp only [c, if_false]; exact Mono.map (fun m => (⟨(n : Int), i64N m, ⟨#[]⟩⟩ : Val)) (numR_mono (szT n).1.toNat))
  exact h
theorem fldR_mono : Mono fldR := (textR_mono 1).then (g := fun s r => ((⟨s, (valR r).1⟩ : Fld), (valR r).2)) (fun s => Mono.map (fun l => (⟨s, l⟩ : Fld)) valR_mono)
theorem ptR_mono (s u : List UInt8) (h : (ptR s).2.short = false) : ptR (s ++ u) = ((ptR s).1, ⟨(ptR s).2.rest ++ u, false⟩) := by
  have m := (numR_mono 8).then (g := fun n r => ((⟨i64N n, (severalR vecR r).1, (severalR fldR (severalR vecR r).2).1⟩ : Pt), (severalR fldR (severalR vecR r).2).2)) (fun n =>
    (severalR_mono vecR_mono).then (g := fun l r => ((⟨i64N n, l, (severalR fldR r).1⟩ : Pt), (severalR fldR r).2)) (fun l => Mono.map (fun k => (⟨i64N n, l, k⟩ : Pt)) (severalR_mono fldR_mono)))
  exact (m ⟨s, false⟩ u h).2
/-- A beginning of a point's bytes is none. -/
theorem ptR_cut (a : Pt) (h : ptMay a = true) (c : Nat) (hc : c < (bPt a).length) : (ptR ((bPt a).take c)).2.short = true := by
  cases hs : (ptR ((bPt a).take c)).2.short with
  | true => rfl
  | false =>
    have m := ptR_mono _ ((bPt a).drop c) hs
    rw [List.take_append_drop] at m
    have b := ptR_back a h []
    rw [List.append_nil, m] at b
    have e : (ptR ((bPt a).take c)).2.rest ++ (bPt a).drop c = [] := by
      have := congrArg (fun p : Pt × Rs => p.2.rest) b
      exact this
    have e2 := congrArg List.length e
    rw [List.length_append, List.length_drop] at e2
    simp at e2; omega
end Go.Proofs.YtokjmgkoifakdaaDoor
namespace Go.Proofs.YtokjmgkoifakdaaDoor
open Go

section
variable {P : Program} {w : World}
theorem wp_append_run {o : Oper} {a : Act} {K : Act → World → Prop} {Q : Exit → Act → World → Prop} (s x : Operand) (t u : TypeId)
    (ho : o.op = .call { callee := .builtin .append, args := #[s, x], argTypes := #[t, u] }) (v y v' : Value) (w' : World) (hs : a.eval s = v) (hx : a.eval x = y)
    (hr : ∀ ty, (Builtin.append_ #[t, u] ty #[v, y]).run P w = .ok v' w') (h : K (a.put o.dst v') w') : o.wp P a w K Q := by
  unfold Oper.wp execOp
  simp only [ho, resolve, invoke, builtin, Sem.run_bind, Sem.run_pure, Result.andThen_ok, List.map_toArray, List.map_cons, List.map_nil, hs, hx, hr]
  exact h
theorem wpList_append_run {ops : Array Oper} {rest : List Oper} {o : Oper} {a : Act} {Q : Exit → Act → World → Prop} (hgd : o.guard = none) (s x : Operand) (t u : TypeId)
    (ho : o.op = .call { callee := .builtin .append, args := #[s, x], argTypes := #[t, u] }) (v y v' : Value) (w' : World) (hs : a.eval s = v) (hx : a.eval x = y)
    (hr : ∀ ty, (Builtin.append_ #[t, u] ty #[v, y]).run P w = .ok v' w') (h : wpList P ops Q rest (a.put o.dst v') w') : wpList P ops Q (o :: rest) a w :=
  wpList_plain hgd fun _ hK => wp_append_run s x t u ho v y v' w' hs hx hr (hK _ _ h)
theorem step_append_run {ops : Array Oper} {o : Oper} {a : Act} {K : Act → World → Prop} {Q : Exit → Act → World → Prop} {E : Prop} (hgd : o.guard = none) (s x : Operand) (t u : TypeId)
    (ho : o.op = .call { callee := .builtin .append, args := #[s, x], argTypes := #[t, u] }) (v y v' : Value) (w' : World) (hs : a.eval s = v) (hx : a.eval x = y)
    (hr : ∀ ty, (Builtin.append_ #[t, u] ty #[v, y]).run P w = .ok v' w') (h : K (a.put o.dst v') w') : if Region.wanted o (yielded ops a.tmps) = true then Oper.wp P o a w K Q else E := by
  have hw : Region.wanted o (yielded ops a.tmps) = true := by simp [Region.wanted, hgd]
  rw [if_pos hw]
  exact wp_append_run s x t u ho v y v' w' hs hx hr h

theorem growBy_le (newLen : Nat) : ∀ (r c : Nat), Builtin.growBy newLen r c ≤ max c (newLen + (newLen + 768) / 4)
  | 0, c => by simp [Builtin.growBy]; omega
  | r + 1, c => by
    unfold Builtin.growBy
    split
    · omega
    · have := growBy_le newLen r (c + (c + 768) / 4); omega
theorem nextcap_le {need old : Nat} (h : old < need) : Builtin.nextslicecap need old ≤ max 512 (need + (need + 768) / 4) := by
  unfold Builtin.nextslicecap
  split
  · omega
  · split
    · omega
    · have := growBy_le need 4 old; omega
/-- Appending a string's bytes to a slice of bytes of one's own: where the new slice lies is told. -/
theorem run_append_string (w : World) (t u ty e : TypeId) (i : TypeInfo) (ht : P.underlying t = some (.slice e)) (hu : P.underlying u = some .string) (hi : P.info? e = some i) (hz : i.zero = some (.int .u8 0))
    (hsize : i.size = 1) (hby : i.bytes = 1) (v : Value) (n : Nat) (xs : List Value) (hown : w.ownsRow 0 e 1 v n xs) (s : ByteArray) (hfit : n + s.size ≤ 200000000000000) :
    ∃ p c w', (Builtin.append_ #[t, u] ty #[v, .string s]).run P w = .ok (.slice p (n + s.size) c) w' ∧ w'.ownsRow 0 e 1 (.slice p (n + s.size) c) (n + s.size) (xs ++ Lib.strCells s) ∧ w.grownBy w' v.ownBlock ∧
      (∀ g, (Value.slice p (n + s.size) c).ownBlock = some g → v.ownBlock = some g ∨ w.heap.size ≤ g) := by
  have h63 : n + s.size ≤ maxLen := by unfold maxLen; omega
  have hxl : xs.length = n := by simpa using hown.1
  have hlen : (xs ++ Lib.strCells s).length = (n + s.size) * 1 := by rw [List.length_append, hxl, Lib.strCells_length, Nat.mul_one]
  have grown : ∀ (old : Nat), old < n + s.size → ∀ (row : Option Nat),
      (w.drew.alloc (.cells (xs.toArray ++ (Lib.strCells s).toArray ++ Builtin.zeroCells (Value.int .u8 0).cells (grownCap w (n + s.size) old e - (n + s.size))) e)).ownsRow 0 e 1
        (.slice (some ⟨w.heap.size, 0, none⟩) (n + s.size) (grownCap w (n + s.size) old e)) (n + s.size) (xs ++ Lib.strCells s) ∧
      w.grownBy (w.drew.alloc (.cells (xs.toArray ++ (Lib.strCells s).toArray ++ Builtin.zeroCells (Value.int .u8 0).cells (grownCap w (n + s.size) old e - (n + s.size))) e)) row := by
    intro old ho row
    have hge := grownCap_ge w (n + s.size) old e
    have hcm : grownCap w (n + s.size) old e ≤ maxLen := grownCap_le_maxLen w (n + s.size) old e h63
    refine ⟨⟨hlen, .inr ⟨w.heap.size, _, _, rfl, Nat.zero_le _, heap_alloc_new w.drew _, hge, hcm, ?_, ?_⟩⟩, ⟨rfl, rfl, rfl, by simp, fun k hk _ => by first | exact heap_alloc_old w.drew _ k hk | exact heap_alloc_old w.drew _ hk⟩⟩
    · have hz1 : (Value.int IntKind.u8 0).cells.size = 1 := rfl
      simp only [Array.size_append, List.size_toArray, size_zeroCells, hz1, hxl, Lib.strCells_length]
      omega
    · simp only [Array.toList_append, List.append_assoc]
      rw [← List.append_assoc, ← hlen]
      exact List.take_left
  rcases hown.2 with ⟨rfl, rfl⟩ | ⟨g, cap, cur, rfl, hbg, hg, hnc, hcm, hcs, htake⟩
  · have hx : xs = [] := List.eq_nil_of_length_eq_zero hxl
    subst hx
    by_cases hm : s.size = 0
    · have hn : Lib.strCells s = [] := List.eq_nil_of_length_eq_zero (by rw [Lib.strCells_length]; exact hm)
      refine ⟨none, 0, w, ?_, by rw [hm, hn]; exact World.ownsRow_nil w 0 e 1, ⟨rfl, rfl, rfl, Nat.le_refl _, fun _ _ _ => rfl⟩, fun g hg => by simp [Value.ownBlock] at hg⟩
      have hf := Lib.run_firstCells_string (P := P) w 1 s
      rw [hm] at hf
      simp [Builtin.append_, run_underlying ht, run_underlying hu, sizeOf, typeInfo, hi, hsize, Builtin.lenOf, hm, hf]
    · have hr := run_append_nil_string (P := P) w t u ty e i (.int .u8 0) ht hu hi hz s (by omega) (by omega) (by rw [hby]; omega)
      have hgr := grown 0 (by omega) (Value.ownBlock (.slice none 0 0))
      simp only [Nat.zero_add, List.nil_append, Array.empty_append] at hgr ⊢
      have e1 : (s.data.map fun b => Value.int .u8 b.toNat) = (Lib.strCells s).toArray := by
        apply Array.ext'
        simp [Lib.strCells]
      rw [e1] at hr
      exact ⟨_, _, _, hr, hgr.1, hgr.2, fun g hg => .inr (Nat.le_of_eq (by simpa [Value.ownBlock] using hg))⟩
  · by_cases hroom : n + s.size ≤ cap
    · have hcs' : cur.size = cap := by simpa using hcs
      have hr := Lib.run_append_room_string (P := P) w t u ty e i ht hu hi hsize g n cap cur hg s hroom (by omega)
      refine ⟨_, _, _, hr, ⟨hlen, .inr ⟨g, cap, _, rfl, hbg, setRow_heap w g cur _ e _ hg, hroom, hcm, ?_, ?_⟩⟩, ⟨rfl, rfl, rfl, by simp, fun k _ hk => setRow_other w g k _ (fun e => hk (by simp [Value.ownBlock, e]))⟩, fun g' hg' => .inl (by simpa [Value.ownBlock] using hg')⟩
      · simp only [List.size_toArray, List.length_append, List.length_take, List.length_drop, Array.length_toList, Lib.strCells_length]
        omega
      · have ht' : cur.toList.take n = xs := by simpa using htake
        rw [ht', ← hlen]
        exact List.take_left
    · have holds : ∀ j u, xs[j]? = some u → w.cell? ((⟨g, 0, none⟩ : Addr).add j) = some u := hown.cells (g := g) rfl
      have hr := Lib.run_append_grow_string (P := P) w t u ty e i (.int .u8 0) ht hu hi hz ⟨g, 0, none⟩ n cap xs (by rw [hsize]; simpa using hxl) holds s (by omega) (by omega) (by rw [hby]; have := nextcap_le (need := n + s.size) (old := cap) (by omega); omega)
      have hgr := grown cap (by omega) (Value.ownBlock (.slice (some ⟨g, 0, none⟩) n cap))
      exact ⟨_, _, _, hr, hgr.1, hgr.2, fun g' hg' => .inr (Nat.le_of_eq (by simpa [Value.ownBlock] using hg'))⟩
end
end Go.Proofs.YtokjmgkoifakdaaDoor
namespace Go.Proofs.YtokjmgkoifakdaaDoor
set_option linter.unusedVariables false
open Go Go.RowKit Go.Shelf Pl
def iCells (L : List Int) : List Value := L.map fun n => .int .i64 n
def fCells (L : List Fld) : List Value := L.flatMap fun f => [.string f.name, .int .i64 f.val.kind, .int .i64 f.val.n, .string f.val.text]
def vCells (L : List (Nm × Value)) : List Value := L.flatMap fun x => [.string x.1, x.2]
theorem iCells_len (L : List Int) : (iCells L).length = L.length := by simp [iCells]
theorem fCells_len (L : List Fld) : (fCells L).length = L.length * 4 := by
  induction L with
  | nil => rfl
  | cons p r ih => show (fCells r).length + 1 + 1 + 1 + 1 = _; rw [ih, List.length_cons]; omega
theorem vCells_len (L : List (Nm × Value)) : (vCells L).length = L.length * 2 := by
  induction L with
  | nil => rfl
  | cons p r ih => show (vCells r).length + 1 + 1 = _; rw [ih, List.length_cons]; omega
theorem fCells_at : ∀ (L : List Fld) (j : Nat) (h : j < L.length), (fCells L)[j * 4]? = some (.string (L[j]).name) ∧ (fCells L)[j * 4 + 1]? = some (.int .i64 (L[j]).val.kind) ∧ (fCells L)[j * 4 + 2]? = some (.int .i64 (L[j]).val.n) ∧ (fCells L)[j * 4 + 3]? = some (.string (L[j]).val.text)
  | x :: r, 0, _ => ⟨rfl, rfl, rfl, rfl⟩
  | x :: r, j + 1, h => by
    obtain ⟨h0, h1, h2, h3⟩ := fCells_at r j (by simpa using h)
    have e : fCells (x :: r) = [.string x.name, .int .i64 x.val.kind, .int .i64 x.val.n, .string x.val.text] ++ fCells r := rfl
    have g : ∀ i, ([Value.string x.name, .int .i64 x.val.kind, .int .i64 x.val.n, .string x.val.text] ++ fCells r)[(j + 1) * 4 + i]? = (fCells r)[j * 4 + i]? := fun i => by
      rw [List.getElem?_append_right (by simp; omega)]
      congr 1
      simp; omega
    rw [e]
    exact ⟨(g 0).trans h0, (g 1).trans h1, (g 2).trans h2, (g 3).trans h3⟩
theorem vCells_at : ∀ (L : List (Nm × Value)) (j : Nat) (h : j < L.length), (vCells L)[j * 2]? = some (.string (L[j]).1) ∧ (vCells L)[j * 2 + 1]? = some (L[j]).2
  | x :: r, 0, _ => ⟨rfl, rfl⟩
  | x :: r, j + 1, h => by
    obtain ⟨h0, h1⟩ := vCells_at r j (by simpa using h)
    have e : vCells (x :: r) = [.string x.1, x.2] ++ vCells r := rfl
    have g : ∀ i, ([Value.string x.1, x.2] ++ vCells r)[(j + 1) * 2 + i]? = (vCells r)[j * 2 + i]? := fun i => by
      rw [List.getElem?_append_right (by simp; omega)]
      congr 1
      simp; omega
    rw [e]
    exact ⟨(g 0).trans h0, (g 1).trans h1⟩
theorem infoI : (Tryd.prog.info? 3).map (fun i => (i.zero, i.size, i.bytes)) = some (some (.int .i64 0), 1, 8) := by kernel_rfl
theorem infoF : (Tryd.prog.info? 56).map (fun i => (i.zero, i.size, i.bytes)) = some (some (.agg #[.string ⟨#[]⟩, .int .i64 0, .int .i64 0, .string ⟨#[]⟩]), 4, 48) := by kernel_rfl
theorem infoV : (Tryd.prog.info? 52).map (fun i => (i.zero, i.size, i.bytes)) = some (some (.agg #[.string ⟨#[]⟩, .slice none 0 0]), 2, 40) := by kernel_rfl
/-- What a row of one's own holds at a place. -/
theorem own_at {w : World} {base size n : Nat} {e : TypeId} {v : Value} {xs : List Value} (h : w.ownsRow base e size v n xs) (hn : 0 < n) :
    ∃ g cap, v = .slice (some ⟨g, 0, none⟩) n cap ∧ base ≤ g ∧ g < w.heap.size ∧ ∀ W : World, W.heap[g]? = w.heap[g]? → ∀ i u, i < n * size → xs[i]? = some u → W.cell? ⟨g, i, none⟩ = some u := by
  rcases h.2 with ⟨_, h0⟩ | ⟨g, cap, cur, rfl, hb, hg, h1, h2, h3, h4⟩
  · omega
  · refine ⟨g, cap, rfl, hb, ?_, fun W hW i u hi hu => ?_⟩
    · rcases Nat.lt_or_ge g w.heap.size with c | c
      · exact c
      · rw [Array.getElem?_eq_none c] at hg; cases hg
    · rw [Lib.cell_of_heap (hW.trans hg), ← hu, ← h4, List.getElem?_take, if_pos hi, Array.getElem?_toList]
theorem own_nil {w : World} {base size : Nat} {e : TypeId} {v : Value} {xs : List Value} (h : w.ownsRow base e size v 0 xs) : ∃ p c, v = .slice p 0 c := by
  rcases h.2 with ⟨rfl, _⟩ | ⟨g, cap, cur, rfl, _⟩
  · exact ⟨_, _, rfl⟩
  · exact ⟨_, _, rfl⟩
theorem own_ints {w : World} {base : Nat} {v : Value} {L : List Int} (h : w.ownsRow base 3 1 v L.length (iCells L)) : IntsAt w v L := by
  rcases Nat.eq_zero_or_pos L.length with h0 | h0
  · rw [h0] at h
    obtain ⟨p, c, rfl⟩ := own_nil h
    exact .inl ⟨List.length_eq_zero_iff.mp h0, p, c, rfl⟩
  · obtain ⟨g, cap, rfl, hb, hg, hc⟩ := own_at h h0
    exact .inr ⟨g, 0, cap, rfl, hg, fun W hW j hj => by rw [Nat.zero_add]; exact hc W hW j _ (by omega) (by simp [iCells, hj])⟩
theorem own_flds {w : World} {base : Nat} {v : Value} {L : List Fld} (h : w.ownsRow base 56 4 v L.length (fCells L)) : FldsAt w v L := by
  rcases Nat.eq_zero_or_pos L.length with h0 | h0
  · rw [h0] at h
    obtain ⟨p, c, rfl⟩ := own_nil h
    exact .inl ⟨List.length_eq_zero_iff.mp h0, p, c, rfl⟩
  · obtain ⟨g, cap, rfl, hb, hg, hc⟩ := own_at h h0
    refine .inr ⟨g, 0, cap, rfl, hg, fun W hW j hj => ?_⟩
    obtain ⟨c0, c1, c2, c3⟩ := fCells_at L j hj
    rw [Nat.zero_add]
    exact ⟨hc W hW _ _ (by omega) c0, hc W hW _ _ (by omega) c1, hc W hW _ _ (by omega) c2, hc W hW _ _ (by omega) c3⟩
/-- All of a row behind none. -/
theorem append_none {w : World} {base size bytes : Nat} {t e : TypeId} {z : Value} {xs : List Value} {n c : Nat} {q : Option Addr} (ht : Tryd.prog.underlying t = some (.slice e)) (hinfo : (Tryd.prog.info? e).map (fun i => (i.zero, i.size, i.bytes)) = some (some z, size, bytes)) (hzs : z.cells.size = size) (hsz : 0 < size)
    (hl : xs.length = n * size) (hs : (n = 0 ∧ q = none) ∨ ∃ ad, q = some ad ∧ ∀ j u, xs[j]? = some u → w.cell? (ad.add j) = some u) (h1 : ∀ u ∈ xs, u.oneCell' = true) (hb : n * bytes ≤ 140737488355328) (hm : n ≤ maxLen) (hbase : base ≤ w.heap.size) :
    ∃ v' w', (∀ ty, (Builtin.append_ #[t, t] ty #[.slice none 0 0, .slice q n c]).run Tryd.prog w = .ok v' w') ∧ w'.ownsRow base e size v' n xs ∧ w.grownBy w' none := by
  obtain ⟨i0, hi, hz0, hz1, hz2⟩ := info_parts hinfo
  rcases hs with ⟨rfl, rfl⟩ | ⟨ad, rfl, hc⟩
  · have hx : xs = [] := List.length_eq_zero_iff.mp (by rw [hl]; omega)
    subst hx
    refine ⟨.slice none 0 0, w, fun ty => ?_, World.ownsRow_nil _ _ _ _, ⟨rfl, rfl, rfl, Nat.le_refl _, fun _ _ _ => rfl⟩⟩
    simp [Builtin.append_, run_underlying ht, sizeOf, typeInfo, hi, Builtin.lenOf, Builtin.firstCells]
  · obtain ⟨v', w', hr, h2, h3, _⟩ := run_append_own_at (P := Tryd.prog) w base t t e i0 _ size bytes ht hi hz0 hz1 hz2 hzs hsz (.slice none 0 0) 0 [] (World.ownsRow_nil _ _ _ _) ad n c xs hl hc h1 (by rw [Nat.zero_add]; exact hm) (by rw [Nat.zero_add]; exact hb) hbase
    exact ⟨v', w', fun _ => hr, by simpa using h2, h3⟩
theorem addr_at (g off j : Nat) : (⟨g, off, none⟩ : Addr).add j = ⟨g, off + j, none⟩ := by unfold Addr.add; split <;> simp_all
theorem append_ints0 {w : World} {base : Nat} {L : List Int} {v : Value} (h : IntsAt w v L) (hl : L.length * 8 ≤ 140737488355328) (hbase : base ≤ w.heap.size) :
    ∃ v' w', (∀ ty, (Builtin.append_ #[50, 50] ty #[.slice none 0 0, v]).run Tryd.prog w = .ok v' w') ∧ w'.ownsRow base 3 1 v' L.length (iCells L) ∧ w.grownBy w' none := by
  have go := fun (q : Option Addr) (c : Nat) hs => append_none (w := w) (base := base) (c := c) (q := q) Tryd.underlying50 infoI rfl (by decide) (xs := iCells L) (n := L.length) (by rw [iCells_len]; omega) hs (fun u hu => by
    simp only [iCells, List.mem_map] at hu
    obtain ⟨n, _, rfl⟩ := hu
    rfl) hl (by unfold maxLen; omega) hbase
  rcases h with ⟨rfl, p, c, rfl⟩ | ⟨g, off, c, rfl, hg, hc⟩
  · cases p with
    | none => exact go none c (.inl ⟨rfl, rfl⟩)
    | some a => exact go (some a) c (.inr ⟨a, rfl, fun j u hj => by simp [iCells] at hj⟩)
  · refine go _ c (.inr ⟨_, rfl, fun j u hj => ?_⟩)
    have hjl : j < L.length := by
      rcases Nat.lt_or_ge j L.length with c | c
      · exact c
      · rw [List.getElem?_eq_none (by rw [iCells_len]; exact c)] at hj; cases hj
    rw [addr_at, hc w rfl j hjl]
    simp [iCells, hjl] at hj
    rw [hj]
theorem append_flds0 {w : World} {base : Nat} {L : List Fld} {v : Value} (h : FldsAt w v L) (hl : L.length * 48 ≤ 140737488355328) (hbase : base ≤ w.heap.size) :
    ∃ v' w', (∀ ty, (Builtin.append_ #[27, 27] ty #[.slice none 0 0, v]).run Tryd.prog w = .ok v' w') ∧ w'.ownsRow base 56 4 v' L.length (fCells L) ∧ w.grownBy w' none := by
  have go := fun (q : Option Addr) (c : Nat) hs => append_none (w := w) (base := base) (c := c) (q := q) Tryd.underlying27 infoF rfl (by decide) (xs := fCells L) (n := L.length) (by rw [fCells_len]) hs (fun u hu => by
    simp only [fCells, List.mem_flatMap] at hu
    obtain ⟨f, _, hf⟩ := hu
    simp at hf
    rcases hf with rfl | rfl | rfl | rfl <;> rfl) hl (by unfold maxLen; omega) hbase
  rcases h with ⟨rfl, p, c, rfl⟩ | ⟨g, off, c, rfl, hg, hc⟩
  · cases p with
    | none => exact go none c (.inl ⟨rfl, rfl⟩)
    | some a => exact go (some a) c (.inr ⟨a, rfl, fun j u hj => by simp [fCells] at hj⟩)
  · refine go _ c (.inr ⟨_, rfl, fun j u hj => ?_⟩)
    obtain ⟨q, r, hr, rfl⟩ : ∃ q r, r < 4 ∧ j = q * 4 + r := ⟨j / 4, j % 4, by omega, by omega⟩
    have hq : q < L.length := by
      rcases Nat.lt_or_ge (q * 4 + r) (L.length * 4) with c | c
      · omega
      · rw [List.getElem?_eq_none (by rw [fCells_len]; exact c)] at hj; cases hj
    obtain ⟨a0, a1, a2, a3⟩ := fCells_at L q hq
    obtain ⟨b0, b1, b2, b3⟩ := hc w rfl q hq
    rw [addr_at, ← Nat.add_assoc, ← hj]
    match r, hr with
    | 0, _ => exact b0.trans a0.symm
    | 1, _ => exact b1.trans a1.symm
    | 2, _ => exact b2.trans a2.symm
    | 3, _ => exact b3.trans a3.symm
/-- One more vector behind an own row: it lies in a new block of its own. -/
theorem append_vec {w : World} {base g : Nat} {v : Value} {A : List (Nm × Value)} {n : Nm} {s : Value} (hown : w.ownsRow base 52 2 v A.length (vCells A)) (hg : w.heap[g]? = some (.cells #[.string n, s] 52 (0, 0)))
    (hs1 : s.oneCell' = true) (hb : (A.length + 1) * 40 ≤ 140737488355328) (hbase : base ≤ w.heap.size) :
    ∃ v' w', (∀ ty, (Builtin.append_ #[26, 26] ty #[v, .slice (some ⟨g, 0, none⟩) 1 1]).run Tryd.prog w = .ok v' w') ∧ w'.ownsRow base 52 2 v' (A ++ [(n, s)]).length (vCells (A ++ [(n, s)])) ∧ w.grownBy w' v.ownBlock ∧ (v'.ownBlock = v.ownBlock ∨ v'.ownBlock = some w.heap.size) := by
  obtain ⟨i0, hi, hz0, hz1, hz2⟩ := info_parts infoV
  obtain ⟨c0, c1⟩ := two_cells hg
  obtain ⟨v', w', hr, h2, h3, _, h5⟩ := run_append_own_at (P := Tryd.prog) w base 26 26 52 i0 _ 2 40 Tryd.underlying26 hi hz0 hz1 hz2 rfl (by decide) v A.length (vCells A) hown ⟨g, 0, none⟩ 1 1 [.string n, s] rfl
    (fun j u hj => by
      rw [addr_at, Nat.zero_add]
      match j, hj with
      | 0, hj => rw [← Option.some.inj hj]; exact c0
      | 1, hj => rw [← Option.some.inj hj]; exact c1
      | j + 2, hj => simp at hj)
    (fun u hu => by
      simp at hu
      rcases hu with rfl | rfl
      · rfl
      · exact hs1) (by unfold maxLen; omega) hb hbase
  have e : vCells (A ++ [(n, s)]) = vCells A ++ [.string n, s] := by simp [vCells]
  exact ⟨v', w', fun _ => hr, by rw [e, List.length_append]; exact h2, h3, h5⟩
end Go.Proofs.YtokjmgkoifakdaaDoor
namespace Go.Proofs.YtokjmgkoifakdaaDoor
set_option linter.unusedVariables false
open Go Go.RowKit Go.Shelf Pl
/-- The reader at block R has that before it. -/
def RdAt (R : Nat) (r : Rs) (w : World) : Prop := w.heap[R]? = some (.cells #[.string (tx r.rest), .bool r.short] 114 (0, 0))
/-- Only block R, of those that were there, has turned. -/
structure Kr (R : Nat) (w w' : World) : Prop where
  os : w'.os = w.os
  tape : w'.tape = w.tape
  output : w'.output = w.output
  size : w.heap.size ≤ w'.heap.size
  block : ∀ b, b < w.heap.size → b ≠ R → w'.heap[b]? = w.heap[b]?
theorem Kr.refl (R : Nat) (w : World) : Kr R w w := ⟨rfl, rfl, rfl, Nat.le_refl _, fun _ _ _ => rfl⟩
theorem Kr.trans {R : Nat} {w w1 w2 : World} (h : Kr R w w1) (k : Kr R w1 w2) : Kr R w w2 :=
  ⟨k.os.trans h.os, k.tape.trans h.tape, k.output.trans h.output, Nat.le_trans h.size k.size, fun b hb hn => (k.block b (Nat.lt_of_lt_of_le hb h.size) hn).trans (h.block b hb hn)⟩
theorem Kr.of {R : Nat} {w w' : World} (h : Below w.heap.size w w') : Kr R w w' := ⟨h.os, h.tape, h.output, h.size, fun b hb _ => h.block b hb⟩
theorem Kr.below {R : Nat} {w w' : World} (h : Kr R w w') {B : Nat} (hB : B ≤ R) (hs : B ≤ w.heap.size) : Below B w w' := ⟨h.os, h.tape, h.output, h.size, fun b hb => h.block b (Nat.lt_of_lt_of_le hb hs) (by omega)⟩
theorem RdAt.lt {R : Nat} {r : Rs} {w : World} (h : RdAt R r w) : R < w.heap.size := (Array.getElem?_eq_some_iff.1 h).1
theorem RdAt.fresh {R : Nat} {r : Rs} {w w' : World} (h : RdAt R r w) (g : Below w.heap.size w w') : RdAt R r w' := (g.block R h.lt).trans h
theorem RdAt.cells {R : Nat} {r : Rs} {w : World} (h : RdAt R r w) : w.cell? ⟨R, 0, none⟩ = some (.string (tx r.rest)) ∧ w.cell? ⟨R, 1, none⟩ = some (.bool r.short) := by
  refine ⟨?_, ?_⟩ <;> rw [Lib.cell_of_heap h] <;> rfl
theorem setCell_row {w : World} {g k : Nat} {cs : Array Value} {T : TypeId} (h : w.heap[g]? = some (.cells cs T (0, 0))) (v : Value) : (w.setCell ⟨g, k, none⟩ v).heap[g]? = some (.cells (cs.setIfInBounds k v) T (0, 0)) := heap_setCell_same w g k cs T v h
theorem Kr.set {R : Nat} {w w' : World} (h : Kr R w w') (k : Nat) (v : Value) : Kr R w (w'.setCell ⟨R, k, none⟩ v) :=
  ⟨h.os, h.tape, h.output, by rw [show (w'.setCell ⟨R, k, none⟩ v).heap.size = w'.heap.size by simp [World.setCell]]; exact h.size, fun b hb hn => (heap_setCell_other _ _ _ _ (fun (e : b = R) => hn e)).trans (h.block b hb hn)⟩
/-- What a step of reading answers. -/
def Took (R : Nat) (w : World) (v : Value) (r' : Rs) (e : Ending) (w' : World) : Prop := e = .returned v ∧ RdAt R r' w' ∧ Kr R w w'
set_option maxHeartbeats 1000000 in
set_option maxRecDepth 100000 in
theorem take_any (R : Nat) (r : Rs) (n : Nat) (w : World) (h : RdAt R r w) (hl : r.rest.length ≤ 281474976710656) :
    Calls Tryd.prog 109 #[.pointer (some ⟨R, 0, none⟩), .int .i64 (n : Int)] w (Took R w (.string (tx (takeR n r).1)) (takeR n r).2) := by
  obtain ⟨c0, c1⟩ := h.cells
  have k0 : w.frozen? ⟨R, 0, none⟩ = false := Lib.frozen_of_heap h 0
  have k1 : ∀ v, (w.setCell ⟨R, 0, none⟩ v).frozen? ⟨R, 1, none⟩ = false := fun v => Lib.frozen_of_heap (setCell_row h v) 1
  have hz : (tx r.rest).size = r.rest.length := tx_size _
  obtain ⟨s, hs⟩ : ∃ s, s = tx r.rest := ⟨_, rfl⟩
  rw [← hs] at c0 hz
  by_cases hc : r.rest.length < n
  · have HP : Hid (Took R w (.string (tx (takeR n r).1)) (takeR n r).2 (.returned (.string ⟨#[]⟩)) ((w.setCell ⟨R, 0, none⟩ (.string ⟨#[]⟩)).setCell ⟨R, 1, none⟩ (.bool true))) := Lib.hid (by
      have e : takeR n r = ([], ⟨[], true⟩) := by unfold takeR; rw [if_pos hc]
      rw [e]
      exact ⟨rfl, setCell_row (setCell_row h _) _, ((Kr.refl R w).set 0 _).set 1 _⟩)
    have hg : (s.size : Int) < (n : Int) := by omega
    clear h hs hc hz
    go_enter Tryd.func109, Tryd.ntmps109
    go_wp2_with fail
    go_ret
    exact HP.out
  · have HP : Hid (Took R w (.string (tx (takeR n r).1)) (takeR n r).2 (.returned (.string (s.extract 0 n))) (w.setCell ⟨R, 0, none⟩ (.string (s.extract n s.size)))) := Lib.hid (by
      have e : takeR n r = (r.rest.take n, ⟨r.rest.drop n, r.short⟩) := by unfold takeR; rw [if_neg hc]
      rw [e, hz, hs, tx_head, tx_tail]
      exact ⟨rfl, setCell_row h _, (Kr.refl R w).set 0 _⟩)
    have hg : ¬ (s.size : Int) < (n : Int) := by omega
    have hg1 : (n : Int) ≤ (s.size : Int) := by omega
    have hg2 : (0 : Int) ≤ (n : Int) := by omega
    clear h hs hc hz
    go_enter Tryd.func109, Tryd.ntmps109
    go_wp2_with fail
    go_ret
    exact HP.out
theorem wrap_small {n : Nat} (h : n < 18446744073709551616) : IntKind.u64.wrap (n : Int) = (n : Int) := IntWalk.u64_in _ (by omega)
set_option maxHeartbeats 1000000 in
set_option maxRecDepth 100000 in
theorem rnum_any (R : Nat) (r : Rs) (K : Nat) (w : World) (h : RdAt R r w) (hl : r.rest.length ≤ 281474976710656) (hK : K ≤ 8) :
    Calls Tryd.prog 61 #[.pointer (some ⟨R, 0, none⟩), .int .i64 (K : Int)] w (Took R w (.int .i64 (i64N (numR K r).1)) (numR K r).2) := by
  have CT := Lib.hid (take_any R r K w h hl)
  have hlen : (takeR K r).1.length = 0 ∨ (takeR K r).1.length = K := by
    unfold takeR
    by_cases c : r.rest.length < K
    · rw [if_pos c]; exact .inl rfl
    · rw [if_neg c]; exact .inr (by simp; omega)
  have HR : Hid ((numR K r).2 = (takeR K r).2) := Lib.hid rfl
  have HU : Hid ((numR K r).1 = unfL (takeR K r).1) := Lib.hid rfl
  rw [HR.out, HU.out]
  generalize (takeR K r).1 = l at *
  generalize (takeR K r).2 = r' at *
  clear h hl HR HU
  by_cases h0 : l.length = 0
  · have e : l = [] := List.length_eq_zero_iff.mp h0
    subst e
    have CU := Lib.hid (fun W => unfix_wrong (tx []) W (.inl (by rw [tx_size]; decide)) (by rw [tx_size]; decide))
    have HE : Hid (i64N (unfL []) = 0) := Lib.hid rfl
    rw [HE.out]
    clear hlen h0
    go_enter Tryd.func61, Tryd.ntmps61
    go_wp2_with fail
    refine CT.out.mono ?_
    rintro e w1 ⟨rfl, h1, h2⟩
    have H1 := Lib.hid h1
    have H2 := Lib.hid h2
    clear h1 h2 CT
    go_wp2_with fail
    refine (CU.out _).mono ?_
    rintro e w2 ⟨rfl, rfl⟩
    go_wp2_with fail
    go_ret
    exact ⟨rfl, H1.out, H2.out⟩
  · have CU := Lib.hid (fun W => unfix_any (tx l) W (by rw [tx_size]; omega) (by rw [tx_size]; omega))
    rw [tx_list] at CU
    obtain ⟨U, hU⟩ : ∃ U, U = unfL l := ⟨_, rfl⟩
    rw [← hU] at CU ⊢
    obtain ⟨V, hV⟩ : ∃ V, V = i64N U := ⟨_, rfl⟩
    have HV : Hid (IntKind.i64.wrap (U : Int) = V) := Lib.hid hV.symm
    rw [← hV]
    clear hlen h0 hU hV
    go_enter Tryd.func61, Tryd.ntmps61
    go_wp2_with fail
    refine CT.out.mono ?_
    rintro e w1 ⟨rfl, h1, h2⟩
    have H1 := Lib.hid h1
    have H2 := Lib.hid h2
    clear h1 h2 CT
    go_wp2_with fail
    refine (CU.out _).mono ?_
    rintro e w2 ⟨rfl, rfl⟩
    have hv := HV.out
    go_wp2_with fail
    go_ret
    exact ⟨rfl, H1.out, H2.out⟩
theorem clone_any (s : ByteArray) (w : World) (h : s.size ≤ 281474976710656) :
    Calls Tryd.prog 136 #[.string s] w fun e w' => e = .returned (.string s) ∧ Below w.heap.size w w' := by
  have HC := Lib.hid (Tryd.stringslite_Clone s w h)
  go_enter Tryd.func136, Tryd.ntmps136
  go_wp2_with fail
  refine HC.out.mono ?_
  rintro e w1 ⟨rfl, hb⟩
  go_wp2_with fail
  go_ret
  exact ⟨rfl, hb⟩
theorem numR_rest (K : Nat) (r : Rs) : (numR K r).2.rest.length ≤ r.rest.length := by
  unfold numR takeR
  by_cases c : r.rest.length < K
  · rw [if_pos c]; simp
  · rw [if_neg c]; simp
theorem takeR_len (K : Nat) (r : Rs) : (takeR K r).1.length ≤ r.rest.length ∧ (takeR K r).1.length ≤ K := by
  unfold takeR
  by_cases c : r.rest.length < K
  · rw [if_pos c]; simp
  · rw [if_neg c]; simp; omega
theorem numR_lt (K : Nat) (r : Rs) : (numR K r).1 < 256 ^ K := by
  have h1 := unfL_lt (takeR K r).1
  have h2 := (takeR_len K r).2
  have h3 : 256 ^ (takeR K r).1.length ≤ 256 ^ K := Nat.pow_le_pow_right (by decide) h2
  unfold numR
  simp only; omega
theorem i64_small {n : Nat} (h : n < 65536) : i64N n = (n : Int) := by unfold i64N; exact IntWalk.i64_in _ (by omega)
set_option maxHeartbeats 1000000 in
set_option maxRecDepth 100000 in
theorem rtext_any (R : Nat) (r : Rs) (K : Nat) (w : World) (h : RdAt R r w) (hl : r.rest.length ≤ 281474976710656) (hK : K ≤ 2) :
    Calls Tryd.prog 110 #[.pointer (some ⟨R, 0, none⟩), .int .i64 (K : Int)] w (Took R w (.string (textR K r).1) (textR K r).2) := by
  have hlt : (numR K r).1 < 65536 := by
    have := numR_lt K r
    have h2 : 256 ^ K ≤ 256 ^ 2 := Nat.pow_le_pow_right (by decide) hK
    omega
  have CN := Lib.hid (rnum_any R r K w h hl (by omega))
  rw [i64_small hlt] at CN
  have hr := numR_rest K r
  have CT := Lib.hid (fun (W : World) (hW : RdAt R (numR K r).2 W) => take_any R (numR K r).2 (numR K r).1 W hW (by omega))
  have CC := Lib.hid (fun W => clone_any (tx (takeR (numR K r).1 (numR K r).2).1) W (by rw [tx_size]; have := (takeR_len (numR K r).1 (numR K r).2).1; omega))
  have HR : Hid ((textR K r).2 = (takeR (numR K r).1 (numR K r).2).2) := Lib.hid rfl
  have HU : Hid ((textR K r).1 = tx (takeR (numR K r).1 (numR K r).2).1) := Lib.hid rfl
  rw [HR.out, HU.out]
  generalize (takeR (numR K r).1 (numR K r).2).2 = r2 at *
  generalize tx (takeR (numR K r).1 (numR K r).2).1 = s at *
  generalize (numR K r).1 = n at *
  generalize (numR K r).2 = r1 at *
  clear h hl hlt hr HR HU
  go_enter Tryd.func110, Tryd.ntmps110
  go_wp2_with fail
  refine CN.out.mono ?_
  rintro e w1 ⟨rfl, h1, h2⟩
  have H2 := Lib.hid h2
  have CT1 := Lib.hid (CT.out w1 h1)
  clear h1 h2 CN CT
  go_wp2_with fail
  refine CT1.out.mono ?_
  rintro e w2 ⟨rfl, h3, h4⟩
  have H3 := Lib.hid h3
  have H4 := Lib.hid (H2.out.trans h4)
  clear h3 h4 CT1
  go_wp2_with fail
  refine (CC.out _).mono ?_
  rintro e w3 ⟨rfl, hb⟩
  have H5 := Lib.hid (H3.out.fresh hb)
  have H6 := Lib.hid (H4.out.trans (Kr.of hb))
  clear hb
  go_wp2_with fail
  go_ret
  exact ⟨rfl, H5.out, H6.out⟩
end Go.Proofs.YtokjmgkoifakdaaDoor
namespace Go.Proofs.YtokjmgkoifakdaaDoor
set_option linter.unusedVariables false
open Go Go.RowKit Go.Shelf Pl
def zP : Obj := .cells #[.int .i64 0, .slice none 0 0, .slice none 0 0] 29
/-- A point that is being made: its box, its fields. -/
def Made (V : World) (i : Int) (L : List Fld) (P : Nat) (f : Value) (wx : World) : Prop :=
  wx.heap[P]? = some (.cells #[.int .i64 i, .slice none 0 0, f] 29 (0, 0)) ∧ FldsAt wx f L ∧ Below V.heap.size V wx ∧ V.heap.size ≤ P ∧ P < wx.heap.size ∧ ∀ g, f.ownBlock = some g → L ≠ [] → g ≠ P ∧ g < wx.heap.size ∧ V.heap.size ≤ g
theorem FldsAt.belowD {w w' : World} {v : Value} {L : List Fld} (h : FldsAt w v L) (hb : ∀ b, b < w.heap.size → w'.heap[b]? = w.heap[b]?) : FldsAt w' v L := by
  rcases h with h | ⟨b, off, c, rfl, hg, hc⟩
  · exact .inl h
  · have hlt : b < w'.heap.size := by
      have h1 := hb b hg
      rw [Array.getElem?_eq_getElem hg] at h1
      exact (Array.getElem?_eq_some_iff.1 h1).1
    exact .inr ⟨b, off, c, rfl, hlt, fun W hW => hc W (hW.trans (hb b hg))⟩
theorem own_slice {w : World} {base size n : Nat} {e : TypeId} {v : Value} {xs : List Value} (h : w.ownsRow base e size v n xs) : ∃ p c, v = .slice p n c := by
  rcases h.2 with ⟨rfl, rfl⟩ | ⟨g, cap, cur, rfl, _⟩
  · exact ⟨_, _, rfl⟩
  · exact ⟨_, _, rfl⟩
theorem own_other {w : World} {base size n g k : Nat} {e : TypeId} {v x : Value} {xs : List Value} (h : w.ownsRow base e size v n xs) (hg : g < base) : (w.setCell ⟨g, k, none⟩ x).ownsRow base e size v n xs := by
  refine ⟨h.1, ?_⟩
  rcases h.2 with h0 | ⟨g2, cap, cur, rfl, hb, hc, h1⟩
  · exact .inl h0
  · exact .inr ⟨g2, cap, cur, rfl, hb, (heap_setCell_other _ _ _ _ (by show g2 ≠ g; omega)).trans hc, h1⟩
theorem own_lt {w : World} {base size n g : Nat} {e : TypeId} {v : Value} {xs : List Value} (h : w.ownsRow base e size v n xs) (hg : v.ownBlock = some g) : base ≤ g ∧ g < w.heap.size := by
  rcases h.2 with ⟨rfl, _⟩ | ⟨g2, cap, cur, rfl, hb, hc, _⟩
  · cases hg
  · simp [Value.ownBlock] at hg; subst hg
    exact ⟨hb, (Array.getElem?_eq_some_iff.1 hc).1⟩
theorem made_new {V W1 : World} {i : Int} {L : List Fld} {f : Value} (h : W1.ownsRow V.heap.size 56 4 f L.length (fCells L)) (hb : Below V.heap.size V W1) :
    Made V i L W1.heap.size f (W1.alloc (.cells #[.int .i64 i, .slice none 0 0, f] 29)) :=
  ⟨heap_last _ _, (own_flds h).belowD fun b hb => heap_old W1 _ hb, hb.alloc hb.size _, hb.size, by simp, fun g hg _ => by have := own_lt h hg; simp; omega⟩
theorem made_set {V W2 : World} {i : Int} {L : List Fld} {f : Value} (h : W2.ownsRow (V.heap.size + 1) 56 4 f L.length (fCells L)) (hb : Below V.heap.size V W2)
    (he : W2.heap[V.heap.size]? = some (.cells #[.int .i64 0, .slice none 0 0, .slice none 0 0] 29 (0, 0))) :
    Made V i L V.heap.size f (((W2.setCell ⟨V.heap.size, 0, none⟩ (.int .i64 i)).setCell ⟨V.heap.size, 1, none⟩ (.slice none 0 0)).setCell ⟨V.heap.size, 2, none⟩ f) := by
  refine ⟨?_, own_flds (own_other (own_other (own_other h (Nat.lt_succ_self _)) (Nat.lt_succ_self _)) (Nat.lt_succ_self _)), ((hb.setCell (Nat.le_refl _) _).setCell (Nat.le_refl _) _).setCell (Nat.le_refl _) _, Nat.le_refl _, ?_, fun g hg _ => ?_⟩
  · have h1 := heap_setCell_same W2 V.heap.size 0 _ _ (.int .i64 i) he
    have h2 := heap_setCell_same _ V.heap.size 1 _ _ (.slice none 0 0) h1
    have h3 := heap_setCell_same _ V.heap.size 2 _ _ f h2
    exact h3
  · have hlt : V.heap.size < W2.heap.size := (Array.getElem?_eq_some_iff.1 he).1
    simpa [World.setCell] using hlt
  · have h1 := own_lt h hg
    refine ⟨by omega, ?_, by omega⟩
    simpa [World.setCell] using h1.2
theorem grown_below {B : Nat} {w w' : World} (h : w.grownBy w' none) (hB : B ≤ w.heap.size) : Below B w w' := (Below.refl _ _).grown h hB (fun k hk => by cases hk)
theorem grown_below3 {V W1 : World} (h : V.drew.grownBy W1 none) : Below V.heap.size V W1 :=
  ((Below.refl V.heap.size V).drew).grown h (Nat.le_refl _) (fun k hk => by cases hk)
theorem grown_below2 {V W2 : World} {o : Obj} (h : (V.alloc o).drew.grownBy W2 none) : Below V.heap.size V W2 :=
  ((fresh_alloc V o).drew).grown h (by show _ ≤ (V.alloc o).heap.size; simp) (fun k hk => by cases hk)
theorem own_same {w w' : World} {base size n : Nat} {e : TypeId} {v : Value} {xs : List Value} (h : w.ownsRow base e size v n xs) (hs : ∀ g, v.ownBlock = some g → w'.heap[g]? = w.heap[g]?) : w'.ownsRow base e size v n xs := by
  refine ⟨h.1, ?_⟩
  rcases h.2 with h0 | ⟨g2, cap, cur, rfl, hb, hc, h1⟩
  · exact .inl h0
  · exact .inr ⟨g2, cap, cur, rfl, hb, (hs g2 rfl).trans hc, h1⟩
/-- The copy as far as its k-th vector. -/
def Part (V wc : World) (a : Pt) (P : Nat) (f : Value) (k : Nat) (wx : World) : Prop :=
  ∃ (u : Value) (ss : List Value), wx.heap[P]? = some (.cells #[.int .i64 a.id, u, f] 29 (0, 0)) ∧ ss.length = k ∧
    wx.ownsRow wc.heap.size 52 2 u k (vCells (((a.vecs.take k).map (·.name)).zip ss)) ∧
    (∀ j (h : j < a.vecs.length) (h' : j < ss.length), IntsAt wx ss[j] (a.vecs[j]).v ∧ ((a.vecs[j]).v ≠ [] → ∀ g, (ss[j]).ownBlock = some g → wc.heap.size ≤ g ∧ u.ownBlock ≠ some g)) ∧
    FldsAt wx f a.flds ∧ (∀ g, f.ownBlock = some g → a.flds ≠ [] → g ≠ P ∧ g < wc.heap.size ∧ V.heap.size ≤ g) ∧ Below V.heap.size V wx ∧ V.heap.size ≤ P ∧ P < wc.heap.size ∧ wc.heap.size ≤ wx.heap.size
theorem part_zero {V wc : World} {a : Pt} {P : Nat} {f : Value} (h : Made V a.id a.flds P f wc) : Part V wc a P f 0 wc := by
  obtain ⟨h1, h2, h3, h4, h5, h6⟩ := h
  exact ⟨_, [], h1, rfl, by simpa [vCells] using World.ownsRow_nil _ _ _ _, (fun j _ h' => absurd h' (Nat.not_lt_zero _)), h2, h6, h3, h4, h5, Nat.le_refl _⟩
theorem IntsAt.moved {w w' : World} {v : Value} {L : List Int} (h : IntsAt w v L) (hs : w.heap.size ≤ w'.heap.size) (hb : L ≠ [] → ∀ g, v.ownBlock = some g → w'.heap[g]? = w.heap[g]?) : IntsAt w' v L := by
  rcases h with h | ⟨b, off, c, rfl, hg, hc⟩
  · exact .inl h
  · rcases Nat.eq_zero_or_pos L.length with h0 | h0
    · exact .inl ⟨List.length_eq_zero_iff.mp h0, _, _, by rw [h0]⟩
    · have e := hb (fun e => by rw [e] at h0; cases h0) b rfl
      exact .inr ⟨b, off, c, rfl, by omega, fun W hW => hc W (hW.trans e)⟩
theorem FldsAt.moved {w w' : World} {v : Value} {L : List Fld} (h : FldsAt w v L) (hs : w.heap.size ≤ w'.heap.size) (hb : L ≠ [] → ∀ g, v.ownBlock = some g → w'.heap[g]? = w.heap[g]?) : FldsAt w' v L := by
  rcases h with h | ⟨b, off, c, rfl, hg, hc⟩
  · exact .inl h
  · rcases Nat.eq_zero_or_pos L.length with h0 | h0
    · exact .inl ⟨List.length_eq_zero_iff.mp h0, _, _, by rw [h0]⟩
    · have e := hb (fun e => by rw [e] at h0; cases h0) b rfl
      exact .inr ⟨b, off, c, rfl, by omega, fun W hW => hc W (hW.trans e)⟩
/-- One vector more. -/
theorem part_next {V wc wq W1 W2 : World} {a : Pt} {P k : Nat} {f s u' : Value} {x : Vec} {u : Value} {ss : List Value} {o : Obj} (hx : a.vecs[k]? = some x)
    (h1 : wq.heap[P]? = some (.cells #[.int .i64 a.id, u, f] 29 (0, 0))) (h2 : ss.length = k) (hown : wq.ownsRow wc.heap.size 52 2 u k (vCells (((a.vecs.take k).map (·.name)).zip ss)))
    (hin : ∀ j (h : j < a.vecs.length) (h' : j < ss.length), IntsAt wq ss[j] (a.vecs[j]).v ∧ ((a.vecs[j]).v ≠ [] → ∀ g, (ss[j]).ownBlock = some g → wc.heap.size ≤ g ∧ u.ownBlock ≠ some g))
    (hff : FldsAt wq f a.flds) (hfb : ∀ g, f.ownBlock = some g → a.flds ≠ [] → g ≠ P ∧ g < wc.heap.size ∧ V.heap.size ≤ g) (hbe : Below V.heap.size V wq) (hP1 : V.heap.size ≤ P) (hP2 : P < wc.heap.size) (hP3 : wc.heap.size ≤ wq.heap.size)
    (g1 : wq.drew.grownBy W1 none) (own1 : W1.ownsRow wq.heap.size 3 1 s x.v.length (iCells x.v))
    (own2 : W2.ownsRow wc.heap.size 52 2 u' (((a.vecs.take k).map (·.name)).zip ss ++ [(x.name, s)]).length (vCells (((a.vecs.take k).map (·.name)).zip ss ++ [(x.name, s)])))
    (g2 : (W1.alloc o).grownBy W2 u.ownBlock) (hu' : u'.ownBlock = u.ownBlock ∨ u'.ownBlock = some (W1.alloc o).heap.size) :
    Part V wc a P f (k + 1) (W2.setCell ⟨P, 1, none⟩ u') := by
  have hk : k < a.vecs.length := (List.getElem?_eq_some_iff.1 hx).1
  have hkx : a.vecs[k] = x := (List.getElem?_eq_some_iff.1 hx).2
  have s1 : wq.heap.size ≤ W1.heap.size := g1.size
  have s2 : W1.heap.size + 1 ≤ W2.heap.size := by have := g2.size; simpa using this
  have hub : ∀ g, u.ownBlock = some g → wc.heap.size ≤ g ∧ g < wq.heap.size := fun g hg => by
    rcases hown.2 with ⟨rfl, _⟩ | ⟨g2, cap, cur, rfl, hb, hc, _⟩
    · cases hg
    · simp [Value.ownBlock] at hg; subst hg
      exact ⟨hb, (Array.getElem?_eq_some_iff.1 hc).1⟩
  have keep : ∀ g, g < wq.heap.size → u.ownBlock ≠ some g → W2.heap[g]? = wq.heap[g]? := fun g hg hne => by
    rw [g2.block g (by simp; omega) (fun e => hne e.symm), heap_old W1 o (by omega), g1.block g hg (by simp)]
    rfl
  have keepS : ∀ g, g ≠ P → (W2.setCell ⟨P, 1, none⟩ u').heap[g]? = W2.heap[g]? := fun g hg => heap_setCell_other _ _ _ _ hg
  have hPu : u.ownBlock ≠ some P := fun e => by have := (hub P e).1; omega
  have hsz : (W2.setCell ⟨P, 1, none⟩ u').heap.size = W2.heap.size := by simp [World.setCell]
  have hlen : (((a.vecs.take k).map (·.name)).zip ss ++ [(x.name, s)]).length = k + 1 := by simp [h2]; omega
  have hzip : ((a.vecs.take (k + 1)).map (·.name)).zip (ss ++ [s]) = ((a.vecs.take k).map (·.name)).zip ss ++ [(x.name, s)] := by
    rw [List.take_add_one, hx, List.map_append, List.zip_append (by simp [h2]; omega)]
    rfl
  refine ⟨u', ss ++ [s], ?_, by simp [h2], ?_, ?_, ?_, hfb, ?_, hP1, hP2, by rw [hsz]; omega⟩
  · have := heap_setCell_same W2 P 1 _ _ u' ((keep P (by omega) hPu).trans h1)
    exact this
  · rw [hlen] at own2
    rw [hzip]
    exact own_other own2 hP2
  · intro j hj hj'
    rcases Nat.lt_or_ge j k with c | c
    · have hjs : j < ss.length := by omega
      have e : (ss ++ [s])[j] = ss[j] := List.getElem_append_left hjs
      rw [e]
      obtain ⟨i1, i2⟩ := hin j hj hjs
      refine ⟨i1.moved (by rw [hsz]; omega) (fun hn g hg => ?_), fun hn g hg => ?_⟩
      · have hd := i2 hn g hg
        have hlt : g < wq.heap.size := by
          rcases i1 with ⟨h0, _⟩ | ⟨b, off, cc, hs, hb, _⟩
          · exact absurd h0 hn
          · rw [hs] at hg; simp [Value.ownBlock] at hg; omega
        rw [keepS g (by omega)]
        exact keep g hlt hd.2
      · have hd := i2 hn g hg
        have hlt : g < wq.heap.size := by
          rcases i1 with ⟨h0, _⟩ | ⟨b, off, cc, hs, hb, _⟩
          · exact absurd h0 hn
          · rw [hs] at hg; simp [Value.ownBlock] at hg; omega
        refine ⟨hd.1, ?_⟩
        rcases hu' with e | e
        · rw [e]; exact hd.2
        · rw [e]; intro h; injection h with h; simp at h; omega
    · have hjk : j = k := by simp [h2] at hj'; omega
      subst hjk
      have e : (ss ++ [s])[j] = s := by rw [List.getElem_append_right (by omega)]; simp [h2]
      rw [e, hkx]
      have hi := own_ints own1
      have hsb : ∀ g, s.ownBlock = some g → wq.heap.size ≤ g ∧ g < W1.heap.size := fun g hg => by
        rcases own1.2 with ⟨rfl, _⟩ | ⟨g2, cap, cur, rfl, hb, hc, _⟩
        · cases hg
        · simp [Value.ownBlock] at hg; subst hg
          exact ⟨hb, (Array.getElem?_eq_some_iff.1 hc).1⟩
      refine ⟨hi.moved (by rw [hsz]; omega) (fun hn g hg => ?_), fun hn g hg => ?_⟩
      · have hd := hsb g hg
        rw [keepS g (by omega), g2.block g (by simp; omega) (fun e => by have := (hub g e.symm).2; omega)]
        exact heap_old W1 o hd.2
      · have hd := hsb g hg
        refine ⟨by omega, ?_⟩
        rcases hu' with e | e
        · rw [e]; intro h; have := (hub g h).2; omega
        · rw [e]; intro h; injection h with h; simp at h; omega
  · refine hff.moved (by rw [hsz]; omega) (fun hn g hg => ?_)
    have hd := hfb g hg hn
    rw [keepS g hd.1]
    exact keep g (by omega) (fun e => by have := (hub g e).1; omega)
  · have b1 : Below V.heap.size V W1 := (hbe.drew).grown g1 hbe.size (fun k hk => by cases hk)
    have b2 : Below V.heap.size V (W1.alloc o) := b1.alloc b1.size _
    exact (b2.grown g2 b2.size (fun g hg => by have := (hub g hg).1; omega)).setCell hP1 _
theorem part_all {V wc wq : World} {a : Pt} {P B : Nat} {f u : Value} {ss : List Value} {x y z : Value} (h2 : ss.length = a.vecs.length)
    (hown : wq.ownsRow wc.heap.size 52 2 u a.vecs.length (vCells (((a.vecs.take a.vecs.length).map (·.name)).zip ss)))
    (hin : ∀ j (h : j < a.vecs.length) (h' : j < ss.length), IntsAt wq ss[j] (a.vecs[j]).v ∧ ((a.vecs[j]).v ≠ [] → ∀ g, (ss[j]).ownBlock = some g → wc.heap.size ≤ g ∧ u.ownBlock ≠ some g))
    (hff : FldsAt wq f a.flds) (hfb : ∀ g, f.ownBlock = some g → a.flds ≠ [] → g ≠ P ∧ g < wc.heap.size ∧ V.heap.size ≤ g) (hB : B < V.heap.size) (hV : V.heap.size ≤ wc.heap.size) :
    VecsAt (((wq.setCell ⟨B, 0, none⟩ x).setCell ⟨B, 1, none⟩ y).setCell ⟨B, 2, none⟩ z) u a.vecs ∧ FldsAt (((wq.setCell ⟨B, 0, none⟩ x).setCell ⟨B, 1, none⟩ y).setCell ⟨B, 2, none⟩ z) f a.flds := by
  have hsz : (((wq.setCell ⟨B, 0, none⟩ x).setCell ⟨B, 1, none⟩ y).setCell ⟨B, 2, none⟩ z).heap.size = wq.heap.size := by simp [World.setCell]
  have keep : ∀ g, g ≠ B → (((wq.setCell ⟨B, 0, none⟩ x).setCell ⟨B, 1, none⟩ y).setCell ⟨B, 2, none⟩ z).heap[g]? = wq.heap[g]? := fun g hg => by
    rw [heap_setCell_other _ _ _ _ hg, heap_setCell_other _ _ _ _ hg, heap_setCell_other _ _ _ _ hg]
  refine ⟨?_, hff.moved (by rw [hsz]; omega) fun hn g hg => keep g (by have := hfb g hg hn; omega)⟩
  rw [List.take_length] at hown
  rcases Nat.eq_zero_or_pos a.vecs.length with h0 | h0
  · rw [h0] at hown
    obtain ⟨p, c, rfl⟩ := own_nil hown
    exact .inl ⟨List.length_eq_zero_iff.mp h0, p, c, rfl⟩
  · obtain ⟨g, cap, rfl, hb, hg, hc⟩ := own_at hown h0
    have hl : ((a.vecs.map (·.name)).zip ss).length = a.vecs.length := by simp [h2]
    refine .inr ⟨g, 0, cap, fun j => (ss[j]?).getD .nilIface, rfl, by rw [hsz]; exact hg, fun W hW j hj => ?_, fun j hj => ?_⟩
    · obtain ⟨e0, e1⟩ := vCells_at ((a.vecs.map (·.name)).zip ss) j (by rw [hl]; exact hj)
      have hW' := hW.trans (keep g (by omega))
      have hjs : j < ss.length := by omega
      have hz : ((a.vecs.map (·.name)).zip ss)[j]'(by rw [hl]; exact hj) = ((a.vecs[j]).name, ss[j]) := by simp
      rw [hz] at e0 e1
      rw [Nat.zero_add]
      exact ⟨hc W hW' _ _ (by omega) e0, by simp only [List.getElem?_eq_getElem hjs, Option.getD_some]; exact hc W hW' _ _ (by omega) e1⟩
    · have hjs : j < ss.length := by omega
      obtain ⟨i1, i2⟩ := hin j hj hjs
      simp only [List.getElem?_eq_getElem hjs, Option.getD_some]
      exact i1.moved (by rw [hsz]; omega) fun hn g hg => keep g (by have := (i2 hn g hg).1; omega)
end Go.Proofs.YtokjmgkoifakdaaDoor
namespace Go.Proofs.YtokjmgkoifakdaaDoor
set_option linter.unusedVariables false
open Go Go.RowKit Go.Shelf Pl
/-- One element more behind an own row: the element lies in a new block of its own. -/
theorem append_el {w : World} {base n size bytes : Nat} {t e : TypeId} {z v : Value} {xs cs : List Value} (ht : Tryd.prog.underlying t = some (.slice e)) (hinfo : (Tryd.prog.info? e).map (fun i => (i.zero, i.size, i.bytes)) = some (some z, size, bytes)) (hzs : z.cells.size = size) (hsz : 0 < size)
    (hown : w.ownsRow base e size v n xs) (hcl : cs.length = size) (h1 : ∀ u ∈ cs, u.oneCell' = true) (hb : (n + 1) * bytes ≤ 140737488355328) (hm : n + 1 ≤ maxLen) (hbase : base ≤ w.heap.size) :
    ∃ v' w', (∀ ty, (Builtin.append_ #[t, t] ty #[v, .slice (some ⟨w.heap.size, 0, none⟩) 1 1]).run Tryd.prog (w.alloc (.cells cs.toArray e)) = .ok v' w') ∧ w'.ownsRow base e size v' (n + 1) (xs ++ cs) ∧ Below base w w' ∧
      (∀ j, j < w.heap.size → v.ownBlock ≠ some j → w'.heap[j]? = w.heap[j]?) ∧ w.heap.size < w'.heap.size ∧ (v'.ownBlock = v.ownBlock ∨ ∃ g, v'.ownBlock = some g ∧ w.heap.size < g) := by
  obtain ⟨i0, hi, hz0, hz1, hz2⟩ := info_parts hinfo
  have hg : (w.alloc (.cells cs.toArray e)).heap[w.heap.size]? = some (.cells cs.toArray e (0, 0)) := heap_last w _
  obtain ⟨v', w', hr, h2, h3, _, h5⟩ := run_append_own_at (P := Tryd.prog) (w.alloc (.cells cs.toArray e)) base t t e i0 _ size bytes ht hi hz0 hz1 hz2 hzs hsz v n xs (hown.alloc _) ⟨w.heap.size, 0, none⟩ 1 1 cs (by rw [hcl, Nat.one_mul])
    (fun j u hj => by
      rw [addr_at, Nat.zero_add, Lib.cell_of_heap hg]
      simpa using hj) h1 hm hb (by simp; omega)
  have hs : w.heap.size < w'.heap.size := by have := h3.size; simp at this; omega
  refine ⟨v', w', fun _ => hr, h2, ?_, fun j hj hne => ?_, hs, ?_⟩
  · exact ((Below.refl base w).alloc hbase _).grown h3 (by simp; omega) (fun g hg' => by
      rcases hown.2 with ⟨rfl, _⟩ | ⟨g2, cap, cur, rfl, hb2, _⟩
      · cases hg'
      · simp [Value.ownBlock] at hg'; omega)
  · rw [h3.block j (by simp; omega) (fun e => hne e.symm), heap_old w _ hj]
  · rcases h5 with h | h
    · exact .inl h
    · refine .inr ⟨_, h, by simp⟩
theorem many_step {α : Type} {f : Rs → α × Rs} {n j : Nat} {r1 rs : Rs} {done : List α} (h : manyR f n r1 = (done ++ (manyR f (n - j) rs).1, (manyR f (n - j) rs).2)) (hj : j < n) :
    manyR f n r1 = ((done ++ [(f rs).1]) ++ (manyR f (n - (j + 1)) (f rs).2).1, (manyR f (n - (j + 1)) (f rs).2).2) := by
  rw [h, show n - j = (n - (j + 1)) + 1 by omega]
  simp [manyR]
set_option maxHeartbeats 1000000 in
set_option maxRecDepth 100000 in
theorem part_read (R : Nat) (r : Rs) (w : World) (h : RdAt R r w) (hl : r.rest.length ≤ 281474976710656) :
    Calls Tryd.prog 112 #[.pointer (some ⟨R, 0, none⟩)] w (Took R w (.int .i64 (partR r).1) (partR r).2) := by
  have hlt : (numR 2 r).1 < 65536 := numR_lt 2 r
  have CN := Lib.hid (rnum_any R r 2 w h hl (by omega))
  rw [i64_small hlt] at CN
  have HR : Hid ((partR r).2 = (numR 2 r).2) := Lib.hid rfl
  have HU : Hid ((partR r).1 = ((numR 2 r).1 : Int) - 32768) := Lib.hid rfl
  rw [HR.out, HU.out]
  generalize (numR 2 r).1 = n at *
  generalize (numR 2 r).2 = r1 at *
  obtain ⟨V, hV⟩ : ∃ V : Int, V = (n : Int) - 32768 := ⟨_, rfl⟩
  have hw : wrap64 ((n : Int) + -32768) = V := by rw [hV]; unfold wrap64; omega
  rw [← hV]
  clear h hl HR HU hlt hV
  go_enter Tryd.func112, Tryd.ntmps112
  go_wp2_with fail
  refine CN.out.mono ?_
  rintro e w1 ⟨rfl, h1, h2⟩
  have H1 := Lib.hid h1
  have H2 := Lib.hid h2
  clear h1 h2 CN
  go_wp2_with fail
  go_ret
  exact ⟨congrArg (fun x => Ending.returned (.int .i64 x)) hw, H1.out, H2.out⟩
theorem part_enters : ∀ args w, (callFunc 112 args).run Tryd.prog w = .ok (.enter 112 args) w := enters_of Tryd.func112 (by kernel_rfl) rfl
theorem partR_rest (r : Rs) : (partR r).2.rest.length ≤ r.rest.length := numR_rest 2 r
/-- What reading a row of parts answers. -/
def TookI (R : Nat) (w : World) (L : List Int) (r' : Rs) (e : Ending) (w' : World) : Prop := ∃ v, e = .returned v ∧ w'.ownsRow w.heap.size 3 1 v L.length (iCells L) ∧ RdAt R r' w' ∧ Kr R w w'
theorem manyR_len {α : Type} (f : Rs → α × Rs) : ∀ (n : Nat) (r : Rs), (manyR f n r).1.length = n
  | 0, _ => rfl
  | n + 1, r => by simp [manyR, manyR_len f n]
set_option maxHeartbeats 2000000 in
set_option maxRecDepth 100000 in
theorem ints_read (R : Nat) (r : Rs) (w : World) (h : RdAt R r w) (hl : r.rest.length ≤ 281474976710656) :
    Calls Tryd.prog 111 #[.pointer (some ⟨R, 0, none⟩), .func (.func 112) #[.pointer (some ⟨R, 0, none⟩)] #[]] w (TookI R w (severalR partR r).1 (severalR partR r).2) := by
  have hlt : (numR 1 r).1 < 256 := numR_lt 1 r
  have CN := Lib.hid (rnum_any R r 1 w h hl (by omega))
  rw [i64_small (Nat.lt_trans hlt (by decide))] at CN
  have hrl := numR_rest 1 r
  have HE : Hid (severalR partR r = manyR partR (numR 1 r).1 (numR 1 r).2) := Lib.hid rfl
  rw [HE.out]
  generalize (numR 1 r).1 = n at *
  generalize (numR 1 r).2 = r1 at *
  have hpe := part_enters
  have HLT := Lib.hid hlt
  have HL : Hid (r1.rest.length ≤ 281474976710656) := Lib.hid (Nat.le_trans hrl hl)
  have hRw := h.lt
  have HRW := Lib.hid hRw
  clear h hl HE hlt hrl hRw
  go_enter Tryd.func111, Tryd.ntmps111
  go_wp2_with fail
  refine CN.out.mono ?_
  rintro e w1 ⟨rfl, h1, h2⟩
  have H1 := Lib.hid h1
  have H2 := Lib.hid h2
  clear h1 h2 CN
  go_wp2_with fail
  go_loopw [5, 8] (fun lv i wr => ∃ (j : Nat) (done : List Int) (rs : Rs), i = .int .i64 (j : Int) ∧ j ≤ n ∧ Hid (done.length = j ∧ manyR partR n r1 = (done ++ (manyR partR (n - j) rs).1, (manyR partR (n - j) rs).2) ∧ rs.rest.length ≤ 281474976710656 ∧ RdAt R rs wr ∧ Kr R w wr ∧ wr.ownsRow w.heap.size 3 1 lv j (iCells done))) (fun _ i _ => n - (intOf i).toNat)
  case atStart => exact ⟨0, [], r1, rfl, Nat.zero_le _, Lib.hid ⟨rfl, by simp, HL.out, H1.out, H2.out, World.ownsRow_nil _ _ _ _⟩⟩
  case round =>
    obtain ⟨j, done, rs, rfl, hj, HI⟩ := hrel
    obtain ⟨d1, d2, d3, d4, d5, d6⟩ := HI.out
    by_cases hlt : j < n
    · have CP := Lib.hid (part_read R rs wr d4 d3)
      have HST := Lib.hid (many_step d2 hlt)
      have HRS := Lib.hid (Nat.le_trans (partR_rest rs) d3)
      generalize (partR rs).1 = x at *
      generalize (partR rs).2 = rs' at *
      obtain ⟨p, c, rfl⟩ := own_slice d6
      have HD := Lib.hid (And.intro d1 (And.intro d5 d6))
      have HLJ := Lib.hid hlt
      have hlt1 : (j : Int) < (n : Int) := by omega
      obtain ⟨wo, rfl⟩ : ∃ wo : World, wo = wr := ⟨_, rfl⟩
      clear d1 d2 d3 d4 d5 d6 hj hlt HI
      go_wp2_with fail
      refine CP.out.mono ?_
      rintro e w2 ⟨rfl, h3, h4⟩
      have hown : w2.ownsRow w.heap.size 3 1 (.slice p j c) j (iCells done) := own_same HD.out.2.2 (fun g hg => by
        have h9 := own_lt HD.out.2.2 hg
        exact h4.block g h9.2 (by have := HRW.out; omega))
      have hk2 := HD.out.2.1.trans h4
      obtain ⟨v5, w5, hr5, ho5, hb5, hn5, hs5, _⟩ := append_el (cs := [.int .i64 x]) Tryd.underlying50 infoI rfl (by decide) hown rfl (fun u hu => by simp at hu; subst hu; rfl) (by have := HLT.out; have := HLJ.out; omega) (by have := HLT.out; have := HLJ.out; unfold maxLen; omega) hk2.size
      have HR5 := Lib.hid hr5
      have HN : Hid ((done ++ [x]).length = j + 1 ∧ manyR partR n r1 = ((done ++ [x]) ++ (manyR partR (n - (j + 1)) rs').1, (manyR partR (n - (j + 1)) rs').2) ∧ rs'.rest.length ≤ 281474976710656 ∧ RdAt R rs' w5 ∧ Kr R w w5 ∧ w5.ownsRow w.heap.size 3 1 v5 (j + 1) (iCells (done ++ [x]))) := Lib.hid
        ⟨by rw [List.length_append, HD.out.1]; rfl, HST.out, HRS.out, (hb5.block R HRW.out).trans h3, ⟨hb5.os.trans hk2.os, hb5.tape.trans hk2.tape, hb5.output.trans hk2.output, Nat.le_trans hk2.size (Nat.le_of_lt hs5), fun b hb hne => (hb5.block b hb).trans (hk2.block b hb hne)⟩, by
          have e : iCells (done ++ [x]) = iCells done ++ [.int .i64 x] := by simp [iCells]
          rw [e]; exact ho5⟩
      clear h3 h4 hown hk2 hr5 ho5 hb5 hn5 hs5 CP
      go_wp2_with (at_builtin; refine wpList_append_run rfl _ _ _ _ rfl _ _ v5 w5 rfl rfl (fun ty => HR5.out ty) ?_)
      have hwj : wrap64 ((j : Int) + 1) = ((j + 1 : Nat) : Int) := by have := HLJ.out; have := HLT.out; unfold wrap64; omega
      go_roundw
      case rel => exact ⟨j + 1, done ++ [x], rs', congrArg _ hwj, HLJ.out, HN.out⟩
      case measure => rw [hwj]; have := HLJ.out; clear hwj; simp [intOf]; omega
    · obtain rfl : j = n := by omega
      have hlt1 : ¬ (j : Int) < (j : Int) := by omega
      rw [Nat.sub_self] at d2
      have e2 : manyR partR j r1 = (done, rs) := by rw [d2]; simp [manyR]
      obtain ⟨p, c, rfl⟩ := own_slice d6
      have HF : Hid (TookI R w (manyR partR j r1).1 (manyR partR j r1).2 (.returned (.slice p j c)) wr) := Lib.hid (by
        rw [e2]
        exact ⟨_, rfl, by rw [d1]; exact d6, d4, d5⟩)
      clear d1 d2 d3 d4 d5 d6 e2 HI
      go_wp2_with fail
      go_ret
      exact HF.out
end Go.Proofs.YtokjmgkoifakdaaDoor
namespace Go.Proofs.YtokjmgkoifakdaaDoor
set_option linter.unusedVariables false
open Go Go.RowKit Go.Shelf Pl
theorem ints_cell {w : World} {p : Option Addr} {n c : Nat} {L : List Int} (h : IntsAt w (.slice p n c) L) {j : Nat} (hj : j < L.length) :
    ∃ g off, p = some ⟨g, off, none⟩ ∧ ∀ W, Below w.heap.size w W → W.cell? ⟨g, off + j, none⟩ = some (.int .i64 L[j]) := by
  rcases h with ⟨rfl, _⟩ | ⟨g, off, c2, hs, hg, hc⟩
  · cases hj
  · injection hs with e1 e2 e3
    exact ⟨g, off, e1, fun W hW => hc W (hW.block g hg) j hj⟩
theorem flds_cell {w : World} {p : Option Addr} {n c : Nat} {L : List Fld} (h : FldsAt w (.slice p n c) L) {j : Nat} (hj : j < L.length) :
    ∃ g off, p = some ⟨g, off, none⟩ ∧ ∀ W, Below w.heap.size w W → W.cell? ⟨g, off + j * 4, none⟩ = some (.string (L[j]).name) ∧ W.cell? ⟨g, off + j * 4 + 1, none⟩ = some (.int .i64 (L[j]).val.kind) ∧
      W.cell? ⟨g, off + j * 4 + 2, none⟩ = some (.int .i64 (L[j]).val.n) ∧ W.cell? ⟨g, off + j * 4 + 3, none⟩ = some (.string (L[j]).val.text) := by
  rcases h with ⟨rfl, _⟩ | ⟨g, off, c2, hs, hg, hc⟩
  · cases hj
  · injection hs with e1 e2 e3
    exact ⟨g, off, e1, fun W hW => hc W (hW.block g hg) j hj⟩
theorem drewB {w x : World} (h : Below w.heap.size w x) (n : Nat) : Below w.heap.size w (x.drewN n) := h.trans ⟨rfl, rfl, rfl, Nat.le_refl _, fun _ _ => rfl⟩
theorem vec_eq {x y : Vec} (h1 : x.name = y.name) (h2 : x.v = y.v) : x = y := by
  cases x; cases y; simp only at h1 h2; rw [h1, h2]
theorem notsame_at {a b : Pt} {R : Bool} {k : Nat} {x y : Vec} (h : R = ((a.id == b.id) && (isB (a.vecs = b.vecs) && isB (a.flds = b.flds)))) (hx : a.vecs[k]? = some x) (hy : b.vecs[k]? = some y) (hne : x ≠ y) : R = false := by
  rw [h, isB_no (fun e : a.vecs = b.vecs => by rw [e, hy] at hx; exact hne (Option.some.inj hx).symm)]
  simp
set_option maxHeartbeats 4000000 in
set_option maxRecDepth 100000 in
theorem rsame_any (a b : Pt) (u v x y : Value) (w : World) (hu : VecsAt w u a.vecs) (hv : VecsAt w v b.vecs) (hx : FldsAt w x a.flds) (hy : FldsAt w y b.flds) (oa : VecsOk a.vecs) (ob : VecsOk b.vecs) (fa : FldsOk a.flds) (fb : FldsOk b.flds) :
    Calls Tryd.prog 16 #[.agg #[.int .i64 a.id, u, x], .agg #[.int .i64 b.id, v, y]] w fun e w' => e = .returned (.bool (isB (a = b))) ∧ Below w.heap.size w w' := by
  obtain ⟨R, hR⟩ : ∃ R, R = isB (a = b) := ⟨_, rfl⟩
  rw [← hR]
  rw [isB_pt] at hR
  have HR := Lib.hid hR
  have HU := Lib.hid hu
  have HV := Lib.hid hv
  have HX := Lib.hid hx
  have HY := Lib.hid hy
  have OA := Lib.hid oa
  have OB := Lib.hid ob
  have FA := Lib.hid fa
  have FB := Lib.hid fb
  obtain ⟨p1, c1, rfl⟩ := hu.form
  obtain ⟨p2, c2, rfl⟩ := hv.form
  obtain ⟨p3, c3, rfl⟩ := hx.form
  obtain ⟨p4, c4, rfl⟩ := hy.form
  clear hu hv hx hy oa ob fa fb hR
  have hi : ∃ i, i = a.id := ⟨_, rfl⟩
  have hj : ∃ i, i = b.id := ⟨_, rfl⟩
  have hn1 : ∃ n, n = a.vecs.length := ⟨_, rfl⟩
  have hn2 : ∃ n, n = b.vecs.length := ⟨_, rfl⟩
  have hn3 : ∃ n, n = a.flds.length := ⟨_, rfl⟩
  have hn4 : ∃ n, n = b.flds.length := ⟨_, rfl⟩
  obtain ⟨i, hi⟩ := hi
  obtain ⟨j, hj⟩ := hj
  obtain ⟨n1, hn1⟩ := hn1
  obtain ⟨n2, hn2⟩ := hn2
  obtain ⟨n3, hn3⟩ := hn3
  obtain ⟨n4, hn4⟩ := hn4
  rw [← hn1] at HU
  rw [← hn2] at HV
  rw [← hn3] at HX
  rw [← hn4] at HY
  rw [← hi, ← hj, ← hn1, ← hn2, ← hn3, ← hn4]
  have HI := Lib.hid hi
  have HJ := Lib.hid hj
  have N1 := Lib.hid hn1
  have N2 := Lib.hid hn2
  have N3 := Lib.hid hn3
  have N4 := Lib.hid hn4
  clear hi hj hn1 hn2 hn3 hn4
  obtain ⟨⟨a0, a1, a2⟩, ⟨b0, b1, b2⟩, hbe⟩ := three_boxes w (.int .i64 i) (.slice p1 n1 c1) (.slice p3 n3 c3) (.int .i64 j) (.slice p2 n2 c2) (.slice p4 n4 c4) 29
  have HB := Lib.hid hbe
  have hsz : w.heap.size + 2 ≤ ((w.alloc (.cells #[.int .i64 i, .slice p1 n1 c1, .slice p3 n3 c3] 29)).alloc (.cells #[.int .i64 j, .slice p2 n2 c2, .slice p4 n4 c4] 29)).heap.size := by simp
  have HSZ := Lib.hid hsz
  clear hbe hsz
  go_enter Tryd.func16, Tryd.ntmps16
  by_cases hij : i = j
  · by_cases hl1 : n1 = n2
    · by_cases hl2 : n3 = n4
      · subst hij hl1 hl2
        go_wp2_with fail
        generalize (w.alloc (.cells #[.int .i64 i, .slice p1 n1 c1, .slice p3 n3 c3] 29)).alloc (.cells #[.int .i64 i, .slice p2 n1 c2, .slice p4 n3 c4] 29) = W0 at *
        have LT : ∀ g, g ≤ w.heap.size + 1 → g < W0.heap.size := fun g h => by have := HSZ.out; omega
        have A1 := Lib.hid (fun X (h : Below W0.heap.size W0 X) => box_later (w := w) a1 h (LT _ (by omega)))
        have A2 := Lib.hid (fun X (h : Below W0.heap.size W0 X) => box_later (w := w) a2 h (LT _ (by omega)))
        have B1 := Lib.hid (fun X (h : Below W0.heap.size W0 X) => box_later (w := w) b1 h (LT _ (by omega)))
        have B2 := Lib.hid (fun X (h : Below W0.heap.size W0 X) => box_later (w := w) b2 h (LT _ (by omega)))
        clear a0 a1 a2 b0 b1 b2 LT
        have HNS : Hid (n1 ≤ maxLen) := Lib.hid (by rw [N1.out]; exact room_len OA.out.1)
        go_loopw [5] (fun i wr => ∃ k : Nat, k ≤ n1 ∧ i = .int .i64 k ∧ Hid (a.vecs.take k = b.vecs.take k) ∧ Below W0.heap.size W0 wr) (fun i _ => n1 - (intOf i).toNat)
        case atStart => exact ⟨0, Nat.zero_le _, rfl, Lib.hid rfl, Below.refl _ _⟩
        case round =>
          obtain ⟨k, hk, rfl, HT, hq⟩ := hrel
          have HQ := Lib.hid hq
          clear hq
          obtain ⟨wq, rfl⟩ : ∃ wq : World, wq = wr := ⟨_, rfl⟩
          have x1 := A1.out wq HQ.out
          have y1 := B1.out wq HQ.out
          by_cases hlt0 : k < n1
          · have hlt : k < a.vecs.length := by rw [← N1.out]; exact hlt0
            have hlt2 : k < b.vecs.length := by rw [← N2.out]; exact hlt0
            have HW := Lib.hid (HB.out.trans (HQ.out.mono HB.out.size))
            rcases HU.out.below HW.out with ⟨e0, _⟩ | ⟨g1, o1, q1, S1, hs1, hg1, hc1, hi1⟩
            · rw [e0] at hlt; simp at hlt
            rcases HV.out.below HW.out with ⟨e0, _⟩ | ⟨g2, o2, q2, S2, hs2, hg2, hc2, hi2⟩
            · rw [e0] at hlt2; simp at hlt2
            obtain ⟨rfl, rfl⟩ : p1 = some ⟨g1, o1, none⟩ ∧ c1 = q1 := by injection hs1 with e1 e2 e3; exact ⟨e1, e3⟩
            obtain ⟨rfl, rfl⟩ : p2 = some ⟨g2, o2, none⟩ ∧ c2 = q2 := by injection hs2 with e1 e2 e3; exact ⟨e1, e3⟩
            obtain ⟨m0, m1⟩ := hc1 wq rfl k hlt
            obtain ⟨l0, l1⟩ := hc2 wq rfl k hlt2
            have hin1 := hi1 k hlt
            have hin2 := hi2 k hlt2
            have EX := Lib.hid (List.getElem?_eq_getElem hlt)
            have EY := Lib.hid (List.getElem?_eq_getElem hlt2)
            have hz1 := Lib.hid (OA.out.2 _ (List.getElem_mem hlt)).2
            have hz2 := Lib.hid (OB.out.2 _ (List.getElem_mem hlt2)).2
            clear hs1 hs2 hc1 hc2 hi1 hi2
            generalize a.vecs[k] = xx at *
            generalize b.vecs[k] = yy at *
            generalize S1 k = sv1 at *
            generalize S2 k = sv2 at *
            obtain ⟨r1, t1, rfl, -⟩ := hin1.form
            obtain ⟨r2, t2, rfl, -⟩ := hin2.form
            have I1 := Lib.hid hin1
            have I2 := Lib.hid hin2
            have hkk : (k : Int) < n1 := by omega
            clear hin1 hin2
            have one : ∀ {g i : Nat} {v : Value}, wq.cell? ⟨g, i, none⟩ = some v → g < wq.heap.size → ∀ o, (wq.alloc o).cell? ⟨g, i, none⟩ = some v := fun h hg o => by
              rw [← h]; exact World.cell?_of_block (w := wq) (heap_old wq o hg)
            have two : ∀ {g i : Nat} {v : Value}, wq.cell? ⟨g, i, none⟩ = some v → g < wq.heap.size → ∀ o o', ((wq.alloc o).alloc o').cell? ⟨g, i, none⟩ = some v := fun h hg o o' => by
              rw [← h]; exact World.cell?_of_block (w := wq) ((heap_old (wq.alloc o) o' (by simp; omega)).trans (heap_old wq o hg))
            have gA : w.heap.size < wq.heap.size := by have h1 := HSZ.out; have h2 := HQ.out.size; omega
            have gB : w.heap.size + 1 < wq.heap.size := by have h1 := HSZ.out; have h2 := HQ.out.size; omega
            have x1a := one x1 gA
            have x1b := two x1 gA
            have y1a := one y1 gB
            have y1b := two y1 gB
            have m0a := one m0 hg1
            have m0b := two m0 hg1
            have m1a := one m1 hg1
            have m1b := two m1 hg1
            have l0a := one l0 hg2
            have l0b := two l0 hg2
            have l1a := one l1 hg2
            have l1b := two l1 hg2
            clear one two gA gB
            go_wp2_with fail
            go_region
            all_goals clear x1a x1b y1a y1b m0a m0b m1a m1b l0a l0b l1a l1b x1 y1 m0 m1 l0 l1
            · obtain ⟨⟨s0, s1⟩, ⟨s2, s3⟩, hbe⟩ := two_boxes wq (.string xx.name) (.slice r1 xx.v.length t1) (.string yy.name) (.slice r2 yy.v.length t2) 52
              obtain ⟨W2, hW2⟩ : ∃ W2, W2 = ((wq.alloc (.cells #[.string xx.name, .slice r1 xx.v.length t1] 52)).alloc (.cells #[.string yy.name, .slice r2 yy.v.length t2] 52)).drew := ⟨_, rfl⟩
              have hs2 : W2.heap.size = wq.heap.size + 2 := by rw [hW2]; show ((wq.alloc _).alloc _).heap.size = _; simp
              replace hbe : Below wq.heap.size wq W2 := by rw [hW2]; exact hbe.drew
              replace s0 : W2.cell? ⟨wq.heap.size, 0, none⟩ = some (.string xx.name) := by rw [hW2]; exact s0
              replace s1 : W2.cell? ⟨wq.heap.size, 1, none⟩ = some (.slice r1 xx.v.length t1) := by rw [hW2]; exact s1
              replace s2 : W2.cell? ⟨wq.heap.size + 1, 0, none⟩ = some (.string yy.name) := by rw [hW2]; exact s2
              replace s3 : W2.cell? ⟨wq.heap.size + 1, 1, none⟩ = some (.slice r2 yy.v.length t2) := by rw [hW2]; exact s3
              rw [← hW2]
              have HW2 := Lib.hid hbe
              have T1 := Lib.hid (fun X (h : Below W2.heap.size W2 X) => box_later (w := w) s1 h (by omega))
              have U1 := Lib.hid (fun X (h : Below W2.heap.size W2 X) => box_later (w := w) s3 h (by omega))
              have HQ2 := Lib.hid (HQ.out.trans (hbe.mono HQ.out.size))
              have HB2 := Lib.hid (HW.out.trans (hbe.mono HW.out.size))
              clear hbe hs2 hW2
              cases hnm : xx.name.toList == yy.name.toList with
              | false =>
                have hne : xx ≠ yy := fun e => by subst e; rw [nm_eq.mpr rfl] at hnm; cases hnm
                have HF := Lib.hid (notsame_at HR.out EX.out EY.out hne)
                go_wp2_with fail
                go_ret
                exact ⟨by rw [HF.out]; rfl, HB2.out⟩
              | true =>
                have HNM := Lib.hid (nm_eq.mp hnm)
                by_cases hlen : xx.v.length = yy.v.length
                · rw [← hlen] at s3 U1 I2
                  have HLEN := Lib.hid hlen
                  clear hlen
                  obtain ⟨m, hm⟩ : ∃ m, m = xx.v.length := ⟨_, rfl⟩
                  rw [← hm] at s1 s3 T1 U1 I1 I2
                  have HM := Lib.hid hm
                  clear hm
                  have HMS : Hid (m ≤ maxLen) := Lib.hid (by rw [HM.out]; exact room_len hz1.out)
                  go_wp2_with fail
                  clear s0 s1 s2 s3
                  go_loopw [8] (fun i wx => ∃ j : Nat, j ≤ m ∧ i = .int .i64 j ∧ Hid (xx.v.take j = yy.v.take j) ∧ Below W2.heap.size W2 wx) (fun i _ => m - (intOf i).toNat)
                  case atStart => exact ⟨0, Nat.zero_le _, rfl, Lib.hid rfl, Below.refl _ _⟩
                  case round =>
                    obtain ⟨j, hj, rfl, HJT, hq3⟩ := hrel
                    have HQ3 := Lib.hid hq3
                    clear hq3
                    obtain ⟨wz, rfl⟩ : ∃ wz : World, wz = wr := ⟨_, rfl⟩
                    have d1 := T1.out wz HQ3.out
                    have d3 := U1.out wz HQ3.out
                    by_cases hjl : j < m
                    · have hja : j < xx.v.length := by rw [← HM.out]; exact hjl
                      have hjb : j < yy.v.length := by rw [← HLEN.out]; exact hja
                      have HWZ := Lib.hid (HW2.out.trans (HQ3.out.mono HW2.out.size))
                      obtain ⟨ga, oa, rfl, ha⟩ := ints_cell I1.out hja
                      obtain ⟨gb, ob, rfl, hb⟩ := ints_cell I2.out hjb
                      have ca := ha wz HWZ.out
                      have cb := hb wz HWZ.out
                      have VX := Lib.hid (List.getElem?_eq_getElem hja)
                      have VY := Lib.hid (List.getElem?_eq_getElem hjb)
                      clear ha hb
                      generalize xx.v[j] = xi at *
                      generalize yy.v[j] = yi at *
                      have hjl' : (j : Int) < m := by omega
                      by_cases hxy : xi = yi
                      · subst hxy
                        go_wp2_with fail
                        go_quiet (fail)
                        go_wp2_with fail
                        go_roundw
                        case rel => exact ⟨j + 1, by omega, congrArg _ (wrap_s HMS.out hjl), Lib.hid (take_next VX.out VY.out HJT.out rfl), drewB HQ3.out _⟩
                        case measure =>
                          rw [wrap_s HMS.out hjl]
                          exact int_less hjl
                      · have hne : xx ≠ yy := fun e => by subst e; exact hxy (Option.some.inj (VX.out.symm.trans VY.out))
                        have HF := Lib.hid (notsame_at HR.out EX.out EY.out hne)
                        go_wp2_with fail
                        go_quiet (fail)
                        go_wp2_with fail
                        go_ret
                        exact ⟨by rw [HF.out]; rfl, HB2.out.trans ((drewB HQ3.out _).mono HB2.out.size)⟩
                    · obtain rfl : j = m := by omega
                      have heq : xx.v = yy.v := take_all HLEN.out (by rw [← HM.out]; exact HJT.out)
                      have hxy : xx = yy := vec_eq HNM.out heq
                      have HN := Lib.hid (take_next EX.out EY.out HT.out hxy)
                      clear heq hxy
                      go_wp2_with fail
                      go_roundw
                      case rel => exact ⟨k + 1, by omega, congrArg _ (wrap_s HNS.out hlt0), HN, HQ2.out.trans (HQ3.out.mono HQ2.out.size)⟩
                      case measure =>
                        rw [wrap_s HNS.out hlt0]
                        exact int_less hlt0
                · have hne : xx ≠ yy := fun e => by subst e; exact hlen rfl
                  have HF := Lib.hid (notsame_at HR.out EX.out EY.out hne)
                  have hlen' : ((xx.v.length : Int) == (yy.v.length : Int)) = false := by simp; omega
                  go_wp2_with fail
                  go_ret
                  exact ⟨by rw [HF.out]; rfl, HB2.out⟩
            · obtain ⟨⟨s2, s3⟩, ⟨s0, s1⟩, hbe⟩ := two_boxes wq (.string yy.name) (.slice r2 yy.v.length t2) (.string xx.name) (.slice r1 xx.v.length t1) 52
              obtain ⟨W2, hW2⟩ : ∃ W2, W2 = ((wq.alloc (.cells #[.string yy.name, .slice r2 yy.v.length t2] 52)).alloc (.cells #[.string xx.name, .slice r1 xx.v.length t1] 52)).drew := ⟨_, rfl⟩
              have hs2 : W2.heap.size = wq.heap.size + 2 := by rw [hW2]; show ((wq.alloc _).alloc _).heap.size = _; simp
              replace hbe : Below wq.heap.size wq W2 := by rw [hW2]; exact hbe.drew
              replace s0 : W2.cell? ⟨wq.heap.size + 1, 0, none⟩ = some (.string xx.name) := by rw [hW2]; exact s0
              replace s1 : W2.cell? ⟨wq.heap.size + 1, 1, none⟩ = some (.slice r1 xx.v.length t1) := by rw [hW2]; exact s1
              replace s2 : W2.cell? ⟨wq.heap.size, 0, none⟩ = some (.string yy.name) := by rw [hW2]; exact s2
              replace s3 : W2.cell? ⟨wq.heap.size, 1, none⟩ = some (.slice r2 yy.v.length t2) := by rw [hW2]; exact s3
              rw [← hW2]
              have HW2 := Lib.hid hbe
              have T1 := Lib.hid (fun X (h : Below W2.heap.size W2 X) => box_later (w := w) s1 h (by omega))
              have U1 := Lib.hid (fun X (h : Below W2.heap.size W2 X) => box_later (w := w) s3 h (by omega))
              have HQ2 := Lib.hid (HQ.out.trans (hbe.mono HQ.out.size))
              have HB2 := Lib.hid (HW.out.trans (hbe.mono HW.out.size))
              clear hbe hs2 hW2
              cases hnm : xx.name.toList == yy.name.toList with
              | false =>
                have hne : xx ≠ yy := fun e => by subst e; rw [nm_eq.mpr rfl] at hnm; cases hnm
                have HF := Lib.hid (notsame_at HR.out EX.out EY.out hne)
                go_wp2_with fail
                go_ret
                exact ⟨by rw [HF.out]; rfl, HB2.out⟩
              | true =>
                have HNM := Lib.hid (nm_eq.mp hnm)
                by_cases hlen : xx.v.length = yy.v.length
                · rw [← hlen] at s3 U1 I2
                  have HLEN := Lib.hid hlen
                  clear hlen
                  obtain ⟨m, hm⟩ : ∃ m, m = xx.v.length := ⟨_, rfl⟩
                  rw [← hm] at s1 s3 T1 U1 I1 I2
                  have HM := Lib.hid hm
                  clear hm
                  have HMS : Hid (m ≤ maxLen) := Lib.hid (by rw [HM.out]; exact room_len hz1.out)
                  go_wp2_with fail
                  clear s0 s1 s2 s3
                  go_loopw [8] (fun i wx => ∃ j : Nat, j ≤ m ∧ i = .int .i64 j ∧ Hid (xx.v.take j = yy.v.take j) ∧ Below W2.heap.size W2 wx) (fun i _ => m - (intOf i).toNat)
                  case atStart => exact ⟨0, Nat.zero_le _, rfl, Lib.hid rfl, Below.refl _ _⟩
                  case round =>
                    obtain ⟨j, hj, rfl, HJT, hq3⟩ := hrel
                    have HQ3 := Lib.hid hq3
                    clear hq3
                    obtain ⟨wz, rfl⟩ : ∃ wz : World, wz = wr := ⟨_, rfl⟩
                    have d1 := T1.out wz HQ3.out
                    have d3 := U1.out wz HQ3.out
                    by_cases hjl : j < m
                    · have hja : j < xx.v.length := by rw [← HM.out]; exact hjl
                      have hjb : j < yy.v.length := by rw [← HLEN.out]; exact hja
                      have HWZ := Lib.hid (HW2.out.trans (HQ3.out.mono HW2.out.size))
                      obtain ⟨ga, oa, rfl, ha⟩ := ints_cell I1.out hja
                      obtain ⟨gb, ob, rfl, hb⟩ := ints_cell I2.out hjb
                      have ca := ha wz HWZ.out
                      have cb := hb wz HWZ.out
                      have VX := Lib.hid (List.getElem?_eq_getElem hja)
                      have VY := Lib.hid (List.getElem?_eq_getElem hjb)
                      clear ha hb
                      generalize xx.v[j] = xi at *
                      generalize yy.v[j] = yi at *
                      have hjl' : (j : Int) < m := by omega
                      by_cases hxy : xi = yi
                      · subst hxy
                        go_wp2_with fail
                        go_quiet (fail)
                        go_wp2_with fail
                        go_roundw
                        case rel => exact ⟨j + 1, by omega, congrArg _ (wrap_s HMS.out hjl), Lib.hid (take_next VX.out VY.out HJT.out rfl), drewB HQ3.out _⟩
                        case measure =>
                          rw [wrap_s HMS.out hjl]
                          exact int_less hjl
                      · have hne : xx ≠ yy := fun e => by subst e; exact hxy (Option.some.inj (VX.out.symm.trans VY.out))
                        have HF := Lib.hid (notsame_at HR.out EX.out EY.out hne)
                        go_wp2_with fail
                        go_quiet (fail)
                        go_wp2_with fail
                        go_ret
                        exact ⟨by rw [HF.out]; rfl, HB2.out.trans ((drewB HQ3.out _).mono HB2.out.size)⟩
                    · obtain rfl : j = m := by omega
                      have heq : xx.v = yy.v := take_all HLEN.out (by rw [← HM.out]; exact HJT.out)
                      have hxy : xx = yy := vec_eq HNM.out heq
                      have HN := Lib.hid (take_next EX.out EY.out HT.out hxy)
                      clear heq hxy
                      go_wp2_with fail
                      go_roundw
                      case rel => exact ⟨k + 1, by omega, congrArg _ (wrap_s HNS.out hlt0), HN, HQ2.out.trans (HQ3.out.mono HQ2.out.size)⟩
                      case measure =>
                        rw [wrap_s HNS.out hlt0]
                        exact int_less hlt0
                · have hne : xx ≠ yy := fun e => by subst e; exact hlen rfl
                  have HF := Lib.hid (notsame_at HR.out EX.out EY.out hne)
                  have hlen' : ((xx.v.length : Int) == (yy.v.length : Int)) = false := by simp; omega
                  go_wp2_with fail
                  go_ret
                  exact ⟨by rw [HF.out]; rfl, HB2.out⟩
          · obtain rfl : k = n1 := by omega
            have HVV : Hid (a.vecs = b.vecs) := Lib.hid (take_all (by rw [← N1.out, ← N2.out]) (by rw [← N1.out]; exact HT.out))
            have HNF : Hid (n3 ≤ maxLen) := Lib.hid (by rw [N3.out]; exact room_len FA.out.1)
            go_wp2_with fail
            go_loopw [9] (fun i wx => ∃ j : Nat, j ≤ n3 ∧ i = .int .i64 j ∧ Hid (a.flds.take j = b.flds.take j) ∧ Below W0.heap.size W0 wx) (fun i _ => n3 - (intOf i).toNat)
            case atStart => exact ⟨0, Nat.zero_le _, rfl, Lib.hid rfl, HQ.out⟩
            case round =>
              obtain ⟨j, hj, rfl, HJT, hq3⟩ := hrel
              have HQ3 := Lib.hid hq3
              clear hq3
              obtain ⟨wz, rfl⟩ : ∃ wz : World, wz = wr := ⟨_, rfl⟩
              have d1 := A2.out wz HQ3.out
              have d3 := B2.out wz HQ3.out
              have HWZ := Lib.hid (HB.out.trans (HQ3.out.mono HB.out.size))
              by_cases hjl : j < n3
              · have hja : j < a.flds.length := by rw [← N3.out]; exact hjl
                have hjb : j < b.flds.length := by rw [← N4.out]; exact hjl
                obtain ⟨ga, oa, rfl, ha⟩ := flds_cell HX.out hja
                obtain ⟨gb, ob, rfl, hb⟩ := flds_cell HY.out hjb
                obtain ⟨g0, g1, g2, g3⟩ := ha wz HWZ.out
                obtain ⟨h0, h1, h2, h3⟩ := hb wz HWZ.out
                have VX := Lib.hid (List.getElem?_eq_getElem hja)
                have VY := Lib.hid (List.getElem?_eq_getElem hjb)
                clear ha hb
                generalize a.flds[j] = xi at *
                generalize b.flds[j] = yi at *
                obtain ⟨xn, xk, xm, xt⟩ := xi
                obtain ⟨yn, yk, ym, yt⟩ := yi
                simp only at g0 g1 g2 g3 h0 h1 h2 h3
                have HE := fun W => neqF_run xn yn xk xm yk ym xt yt W
                have hjl' : (j : Int) < n3 := by omega
                by_cases hxy : (⟨xn, ⟨xk, xm, xt⟩⟩ : Fld) = ⟨yn, ⟨yk, ym, yt⟩⟩
                · rw [eqF_iff.mpr hxy] at HE
                  go_wp2_with fail
                  go_quiet (fail)
                  go_wp2_with fail
                  go_roundw
                  case rel => exact ⟨j + 1, by omega, congrArg _ (wrap_s HNF.out hjl), Lib.hid (take_next VX.out VY.out HJT.out hxy), drewB HQ3.out _⟩
                  case measure =>
                    rw [wrap_s HNF.out hjl]
                    exact int_less hjl
                · have hne : eqF ⟨xn, ⟨xk, xm, xt⟩⟩ ⟨yn, ⟨yk, ym, yt⟩⟩ = false := by rw [← Bool.not_eq_true, eqF_iff]; exact hxy
                  rw [hne] at HE
                  have HF : Hid (R = false) := Lib.hid (by rw [HR.out, isB_no (fun e : a.flds = b.flds => hxy (Option.some.inj (VX.out.symm.trans (by rw [e]; exact VY.out))))]; simp)
                  go_wp2_with fail
                  go_quiet (fail)
                  go_wp2_with fail
                  go_ret
                  exact ⟨by rw [HF.out]; rfl, HB.out.trans ((drewB HQ3.out _).mono HB.out.size)⟩
              · obtain rfl : j = n3 := by omega
                have hff : a.flds = b.flds := take_all (by rw [← N3.out, ← N4.out]) (by rw [← N3.out]; exact HJT.out)
                have HF : Hid (R = true) := Lib.hid (by rw [HR.out, isB_yes HVV.out, isB_yes hff, ← HI.out, ← HJ.out]; simp)
                clear hff
                go_wp2_with fail
                go_ret
                exact ⟨by rw [HF.out]; rfl, HWZ.out⟩
      · have HF : Hid (R = false) := Lib.hid (by rw [HR.out, isB_no (fun e : a.flds = b.flds => hl2 (by rw [N3.out, N4.out, e]))]; simp)
        subst hij hl1
        have hl2' : ((n3 : Int) == (n4 : Int)) = false := by simp; omega
        go_wp2_with fail
        go_ret
        exact ⟨by rw [HF.out]; rfl, HB.out⟩
    · have HF : Hid (R = false) := Lib.hid (by rw [HR.out, isB_no (fun e : a.vecs = b.vecs => hl1 (by rw [N1.out, N2.out, e]))]; simp)
      subst hij
      have hl1' : ((n1 : Int) == (n2 : Int)) = false := by simp; omega
      go_wp2_with fail
      go_ret
      exact ⟨by rw [HF.out]; rfl, HB.out⟩
  · have HF : Hid (R = false) := Lib.hid (by rw [HR.out, ← HI.out, ← HJ.out]; simp [hij])
    have hij' : (i == j) = false := by simp [hij]
    go_wp2_with fail
    go_ret
    exact ⟨by rw [HF.out]; rfl, HB.out⟩
end Go.Proofs.YtokjmgkoifakdaaDoor
namespace Go.Proofs.YtokjmgkoifakdaaDoor
set_option linter.unusedVariables false
open Go Go.RowKit Go.Shelf Pl
theorem part_ways (n : Int) : (partB n = true ∧ ¬ n < -32768 ∧ ¬ 32767 < n) ∨ (partB n = false ∧ (n < -32768 ∨ (¬ n < -32768 ∧ 32767 < n))) := by
  by_cases h : -32768 ≤ n ∧ n ≤ 32767
  · left; unfold partB; rw [decide_eq_true h.1, decide_eq_true h.2]; exact ⟨rfl, by omega, by omega⟩
  · right
    refine ⟨?_, by omega⟩
    unfold partB
    by_cases c : -32768 ≤ n
    · rw [decide_eq_false (show ¬ n ≤ 32767 from fun d => h ⟨c, d⟩), Bool.and_false]
    · rw [decide_eq_false c, Bool.false_and]
set_option maxHeartbeats 1000000 in
set_option maxRecDepth 100000 in
theorem rrange_any (L : List Int) (v : Value) (w : World) (h : IntsAt w v L) (hl : L.length ≤ maxLen) :
    Calls Tryd.prog 51 #[v] w fun e w' => e = .returned (.bool (L.all partB)) ∧ w' = w := by
  obtain ⟨R, hR⟩ : ∃ R, R = L.all partB := ⟨_, rfl⟩
  rw [← hR]
  have HR := Lib.hid hR
  have HH := Lib.hid h
  obtain ⟨p, c, rfl, _⟩ := h.form
  obtain ⟨n, hn⟩ : ∃ n, n = L.length := ⟨_, rfl⟩
  rw [← hn] at HH hl ⊢
  have HL := Lib.hid hl
  have HN := Lib.hid hn
  clear h hR hl hn
  go_enter Tryd.func51, Tryd.ntmps51
  go_wp2_with fail
  go_loop [3] (fun i => ∃ k : Nat, k ≤ n ∧ i = .int .i64 k ∧ Hid ((L.take k).all partB = true)) (fun i => n - (intOf i).toNat)
  case atStart => exact ⟨0, Nat.zero_le _, rfl, Lib.hid (by simp)⟩
  case round =>
    obtain ⟨k, hk, rfl, HA⟩ := hrel
    by_cases hlt : k < n
    · have hlk : k < L.length := by rw [← HN.out]; exact hlt
      obtain ⟨g, off, rfl, hc⟩ := ints_cell HH.out hlk
      have ca := hc w (Below.refl _ _)
      have VX := Lib.hid (List.getElem?_eq_getElem hlk)
      generalize L[k] = x at ca VX
      clear hc hlk
      rcases part_ways x with ⟨hp, h1, h2⟩ | ⟨hp, h⟩
      · have HX := Lib.hid (all_next' VX.out HA.out hp)
        clear hp HA VX
        go_wp2_with fail
        go_round
        case rel => exact ⟨k + 1, by omega, congrArg _ (wrap_s HL.out hlt), HX⟩
        case measure => rw [wrap_s HL.out hlt]; exact int_less hlt
      · have HX : Hid (R = false) := Lib.hid (by rw [HR.out]; exact all_no' VX.out hp)
        clear hp HA VX
        rcases h with h1 | ⟨h1, h2⟩
        all_goals
          go_wp2_with fail
          go_ret
          rw [HX.out]
          exact ⟨rfl, rfl⟩
    · obtain rfl : k = n := by omega
      have HX : Hid (R = true) := Lib.hid (by rw [HR.out]; have := HA.out; rwa [HN.out, List.take_length] at this)
      go_wp2_with fail
      go_ret
      rw [HX.out]
      exact ⟨rfl, rfl⟩
/-! ### a value -/
theorem val1 (n : Int) (t : Nm) : valB ⟨1, n, t⟩ = (decide (-4503599627370496 ≤ n) && (decide (n ≤ 4503599627370496) && (decide ((t.size : Int) ≤ 0) && Lib.validD t.data.toList))) := rfl
theorem val2 (n : Int) (t : Nm) : valB ⟨2, n, t⟩ = (decide (0 ≤ n) && (decide (n ≤ 0) && (decide ((t.size : Int) ≤ 256) && Lib.validD t.data.toList))) := rfl
theorem val3 (n : Int) (t : Nm) : valB ⟨3, n, t⟩ = (decide (0 ≤ n) && (decide (n ≤ 1) && (decide ((t.size : Int) ≤ 0) && Lib.validD t.data.toList))) := rfl
theorem no_text {t : Nm} : (decide ((t.size : Int) ≤ 0) && Lib.validD t.data.toList) = t.toList.isEmpty := by
  rw [Go.ByteArray.toList_eq]
  have := ln t
  cases h : t.data.toList with
  | nil => rw [h] at this; simp at this; rw [decide_eq_true (by omega)]; rfl
  | cons a r => rw [h] at this; simp at this; rw [decide_eq_false (by omega)]; rfl
set_option maxHeartbeats 1000000 in
set_option maxRecDepth 100000 in
theorem rvalue_any (k n : Int) (t : Nm) (ht : t.size ≤ maxLen) (w : World) :
    Calls Tryd.prog 54 #[.agg #[.int .i64 k, .int .i64 n, .string t]] w fun e w' => e = .returned (.bool (valB ⟨k, n, t⟩)) ∧ Below w.heap.size w w' := by
  obtain ⟨d0, d1, d2⟩ := cells3 w (.int .i64 k) (.int .i64 n) (.string t) 54
  have HB := Lib.hid (fresh_alloc w (.cells #[.int .i64 k, .int .i64 n, .string t] 54))
  have HC := Lib.hid (fun W => runes_any t ht W)
  obtain ⟨R, hR⟩ : ∃ R, R = valB ⟨k, n, t⟩ := ⟨_, rfl⟩
  rw [← hR]
  have HR := Lib.hid hR
  clear hR ht
  by_cases k1 : k = 1
  · subst k1
    have HV := Lib.hid (HR.out.trans (val1 n t))
    rw [no_text] at HV
    clear HR HC
    cases he : t.toList.isEmpty
    · rw [he] at HV
      have HZ : Hid (R = false) := Lib.hid (by rw [HV.out]; simp)
      go_enter Tryd.func54, Tryd.ntmps54
      go_wp2_with fail
      go_ret
      rw [HZ.out]; exact ⟨rfl, HB.out⟩
    · rw [he] at HV
      by_cases h1 : -4503599627370496 ≤ n
      · by_cases h2 : n ≤ 4503599627370496
        · have HZ : Hid (R = true) := Lib.hid (by rw [HV.out, decide_eq_true h1, decide_eq_true h2]; rfl)
          go_enter Tryd.func54, Tryd.ntmps54
          go_wp2_with fail
          go_ret
          rw [HZ.out]; exact ⟨rfl, HB.out⟩
        · have HZ : Hid (R = false) := Lib.hid (by rw [HV.out, decide_eq_false h2]; simp)
          go_enter Tryd.func54, Tryd.ntmps54
          go_wp2_with fail
          go_ret
          rw [HZ.out]; exact ⟨rfl, HB.out⟩
      · have HZ : Hid (R = false) := Lib.hid (by rw [HV.out, decide_eq_false h1]; simp)
        go_enter Tryd.func54, Tryd.ntmps54
        go_wp2_with fail
        go_ret
        rw [HZ.out]; exact ⟨rfl, HB.out⟩
  · have k1' : (k == 1) = false := by simpa using k1
    by_cases k2 : k = 2
    · subst k2
      have HV := Lib.hid (HR.out.trans (val2 n t))
      clear HR
      by_cases h1 : n = 0
      · subst h1
        by_cases h2 : (t.size : Int) ≤ 256
        · have HZ : Hid (R = Lib.validD t.data.toList) := Lib.hid (by rw [HV.out, decide_eq_true h2]; simp)
          generalize Lib.validD t.data.toList = vd at HC HZ
          clear HV
          go_enter Tryd.func54, Tryd.ntmps54
          go_wp2_with fail
          refine (HC.out _).mono ?_
          rintro e w2 ⟨rfl, rfl⟩
          go_wp2_with fail
          go_ret
          rw [HZ.out]; exact ⟨rfl, HB.out⟩
        · have HZ : Hid (R = false) := Lib.hid (by rw [HV.out, decide_eq_false h2]; simp)
          clear HC HV
          go_enter Tryd.func54, Tryd.ntmps54
          go_wp2_with fail
          go_ret
          rw [HZ.out]; exact ⟨rfl, HB.out⟩
      · have h1' : (n == 0) = false := by simpa using h1
        have HZ : Hid (R = false) := Lib.hid (by
          rw [HV.out]
          by_cases c : 0 ≤ n
          · rw [decide_eq_false (show ¬ n ≤ 0 by omega)]; simp
          · rw [decide_eq_false c]; rfl)
        clear HC HV
        go_enter Tryd.func54, Tryd.ntmps54
        go_wp2_with fail
        go_ret
        rw [HZ.out]; exact ⟨rfl, HB.out⟩
    · have k2' : (k == 2) = false := by simpa using k2
      clear HC
      by_cases k3 : k = 3
      · subst k3
        have HV := Lib.hid (HR.out.trans (val3 n t))
        rw [no_text] at HV
        clear HR
        cases he : t.toList.isEmpty
        · rw [he] at HV
          have HZ : Hid (R = false) := Lib.hid (by rw [HV.out]; simp)
          go_enter Tryd.func54, Tryd.ntmps54
          go_wp2_with fail
          go_ret
          rw [HZ.out]; exact ⟨rfl, HB.out⟩
        · rw [he] at HV
          by_cases h1 : n = 0
          · subst h1
            have HZ : Hid (R = true) := Lib.hid (by rw [HV.out]; rfl)
            go_enter Tryd.func54, Tryd.ntmps54
            go_wp2_with fail
            go_ret
            rw [HZ.out]; exact ⟨rfl, HB.out⟩
          · have h1' : (n == 0) = false := by simpa using h1
            by_cases h2 : n = 1
            · subst h2
              have HZ : Hid (R = true) := Lib.hid (by rw [HV.out]; rfl)
              go_enter Tryd.func54, Tryd.ntmps54
              go_wp2_with fail
              go_ret
              rw [HZ.out]; exact ⟨rfl, HB.out⟩
            · have h2' : (n == 1) = false := by simpa using h2
              have HZ : Hid (R = false) := Lib.hid (by
                rw [HV.out]
                by_cases c : 0 ≤ n
                · rw [decide_eq_false (show ¬ n ≤ 1 by omega)]; simp
                · rw [decide_eq_false c]; rfl)
              go_enter Tryd.func54, Tryd.ntmps54
              go_wp2_with fail
              go_ret
              rw [HZ.out]; exact ⟨rfl, HB.out⟩
      · have k3' : (k == 3) = false := by simpa using k3
        have HZ : Hid (R = false) := Lib.hid (by
          rw [HR.out]
          unfold valB
          rw [if_neg (by show ¬ (1 ≤ k ∧ k < 4); omega)])
        clear HR
        go_enter Tryd.func54, Tryd.ntmps54
        go_wp2_with fail
        go_ret
        rw [HZ.out]; exact ⟨rfl, HB.out⟩
end Go.Proofs.YtokjmgkoifakdaaDoor
namespace Go.Proofs.YtokjmgkoifakdaaDoor
set_option linter.unusedVariables false
open Go Go.RowKit Go.Shelf Pl
theorem infoTx : (Tryd.prog.info? 9).map (fun i => (i.zero, i.size, i.bytes)) = some (some (.string ⟨#[]⟩), 1, 16) := by kernel_rfl
def txs (L : List Nm) : List Value := L.map fun s => .string s
/-- A row of texts of one's own. -/
abbrev OwnT (w : World) (base : Nat) (v : Value) (L : List Nm) : Prop := w.ownsRow base 9 1 v L.length (txs L)
theorem OwnT.at {w : World} {base : Nat} {v : Value} {L : List Nm} (h : OwnT w base v L) : TxsAt w v L := by
  rcases h.2 with ⟨rfl, h0⟩ | ⟨g, cap, cur, rfl, hb, hg, h1, h2, h3, h4⟩
  · exact .inl ⟨List.length_eq_zero_iff.mp h0, none, 0, rfl⟩
  · refine .inr ⟨g, 0, cap, rfl, ?_, fun W hW j hj => ?_⟩
    · rcases Nat.lt_or_ge g w.heap.size with c | c
      · exact c
      · rw [Array.getElem?_eq_none c] at hg; cases hg
    · rw [cell_of_row _ _ _ _ _ _ (hW.trans hg), Nat.zero_add]
      have hj1 : j < L.length * 1 := by omega
      have e : (cur.toList.take (L.length * 1))[j]? = (txs L)[j]? := by rw [h4]
      rw [List.getElem?_take, if_pos hj1] at e
      rw [Array.getElem?_toList] at e
      rw [e]
      simp [txs, hj]
theorem ownT_nil (w : World) (base : Nat) : OwnT w base (.slice none 0 0) [] := World.ownsRow_nil _ _ _ _
theorem append_text {w : World} {base : Nat} {v : Value} {A : List Nm} (x : Nm) (h : OwnT w base v A) (hb : A.length ≤ 1048576) (hbase : base ≤ w.heap.size) :
    ∃ v' w', (∀ ty, (Builtin.append_ #[89, 89] ty #[v, .slice (some ⟨w.heap.size, 0, none⟩) 1 1]).run Tryd.prog (w.alloc (.cells #[.string x] 9)) = .ok v' w') ∧ OwnT w' base v' (A ++ [x]) ∧ Below base w w' := by
  obtain ⟨v', w', hr, ho, hg, _⟩ := append_el (cs := [.string x]) Tryd.underlying89 infoTx rfl (by decide) h rfl (fun u hu => by simp at hu; subst hu; rfl) (by omega) (by unfold maxLen; omega) hbase
  refine ⟨v', w', hr, ?_, hg⟩
  show World.ownsRow _ _ _ _ _ _ _
  rw [List.length_append]
  simpa [txs] using ho
theorem ownT_kept {w w' : World} {base : Nat} {v : Value} {L : List Nm} (h : OwnT w base v L) (hb : Below w.heap.size w w') : OwnT w' base v L := by
  refine ⟨h.1, ?_⟩
  rcases h.2 with h0 | ⟨g, cap, cur, rfl, h1, hg, h2⟩
  · exact .inl h0
  · have hlt : g < w.heap.size := by
      rcases Nat.lt_or_ge g w.heap.size with c | c
      · exact c
      · rw [Array.getElem?_eq_none c] at hg; cases hg
    exact .inr ⟨g, cap, cur, rfl, h1, (hb.block g hlt).trans hg, h2⟩
theorem take_map_snoc {α} {f : α → Nm} {L : List α} {k : Nat} {x : α} (h : L[k]? = some x) : ((L.take (k + 1)).map f) = (L.take k).map f ++ [f x] := by
  rw [List.take_add_one, h]; simp
theorem vecs_cell {w : World} {p : Option Addr} {n c : Nat} {L : List Vec} (h : VecsAt w (.slice p n c) L) {j : Nat} (hj : j < L.length) :
    ∃ g off x, p = some ⟨g, off, none⟩ ∧ IntsAt w x (L[j]).v ∧ ∀ W, Below w.heap.size w W → W.cell? ⟨g, off + j * 2, none⟩ = some (.string (L[j]).name) ∧ W.cell? ⟨g, off + j * 2 + 1, none⟩ = some x := by
  rcases h with ⟨rfl, _⟩ | ⟨g, off, c2, S, hs, hg, hc, hi⟩
  · cases hj
  · injection hs with e1 e2 e3
    exact ⟨g, off, S j, e1, hi j hj, fun W hW => hc W (hW.block g hg) j hj⟩
theorem outl_low {L : List Nm} {a b : Nat} (h : ¬ (a : Int) ≤ (L.length : Int) ∨ ¬ (L.length : Int) ≤ b) : outl L a b = false := by
  unfold outl
  rcases h with h | h <;> rw [decide_eq_false h] <;> simp
set_option maxHeartbeats 4000000 in
set_option maxRecDepth 100000 in
theorem rshape_any (i : Int) (vv fv : Value) (V : List Vec) (F : List Fld) (w : World) (hv : VecsAt w vv V) (hf : FldsAt w fv F) (kv : VecsOk V) (kf : FldsOk F) :
    Calls Tryd.prog 49 #[.agg #[.int .i64 i, vv, fv]] w fun e w' => e = .returned (.bool (ptOutl ⟨i, V, F⟩)) ∧ Below w.heap.size w w' := by
  obtain ⟨R, hR⟩ : ∃ R, R = ptOutl ⟨i, V, F⟩ := ⟨_, rfl⟩
  rw [← hR]
  have HV := Lib.hid hv
  have HF := Lib.hid hf
  have KV := Lib.hid kv
  have KF := Lib.hid kf
  obtain ⟨pv, cv, rfl⟩ := hv.form
  obtain ⟨pf, cf, rfl⟩ := hf.form
  unfold ptOutl idB maxId at hR
  have HR := Lib.hid hR
  clear hv hf kv kf hR
  obtain ⟨nv, hnv⟩ : ∃ n, n = V.length := ⟨_, rfl⟩
  obtain ⟨nf, hnf⟩ : ∃ n, n = F.length := ⟨_, rfl⟩
  rw [← hnv] at HV ⊢
  rw [← hnf] at HF ⊢
  have NV := Lib.hid hnv
  have NF := Lib.hid hnf
  clear hnv hnf
  obtain ⟨d0, d1, d2⟩ := cells3 w (.int .i64 i) (.slice pv nv cv) (.slice pf nf cf) 29
  have HB := Lib.hid (fresh_alloc w (.cells #[.int .i64 i, .slice pv nv cv, .slice pf nf cf] 29))
  have HZ : Hid ((w.alloc (.cells #[.int .i64 i, .slice pv nv cv, .slice pf nf cf] 29)).heap[w.heap.size]? = some (.cells #[.int .i64 i, .slice pv nv cv, .slice pf nf cf] 29 (0, 0))) := Lib.hid (heap_last w _)
  have HS : Hid (w.heap.size < (w.alloc (.cells #[.int .i64 i, .slice pv nv cv, .slice pf nf cf] 29)).heap.size) := Lib.hid (by simp)
  go_enter Tryd.func49, Tryd.ntmps49
  by_cases h1 : i < 1
  · have HX : Hid (R = false) := Lib.hid (by rw [HR.out, decide_eq_false (show ¬ 1 ≤ i by omega)]; rfl)
    go_wp2_with fail
    go_ret
    rw [HX.out]; exact ⟨rfl, HB.out⟩
  by_cases h2 : 4503599627370496 < i
  · have HX : Hid (R = false) := Lib.hid (by rw [HR.out, decide_eq_false (show ¬ i ≤ 4503599627370496 by omega)]; simp)
    go_wp2_with fail
    go_ret
    rw [HX.out]; exact ⟨rfl, HB.out⟩
  have HR2 : Hid (R = (outl (vNames V) 1 4 && outl (fNames F) 0 16)) := Lib.hid (by rw [HR.out, decide_eq_true (show 1 ≤ i by omega), decide_eq_true (show i ≤ 4503599627370496 by omega)]; rfl)
  have LV : Hid ((vNames V).length = nv) := Lib.hid (by rw [NV.out]; simp [vNames])
  have LF : Hid ((fNames F).length = nf) := Lib.hid (by rw [NF.out]; simp [fNames])
  clear HR
  by_cases h3 : (nv : Int) < 1
  · have HX : Hid (R = false) := Lib.hid (by rw [HR2.out, outl_low (.inl (by rw [LV.out]; omega))]; rfl)
    go_wp2_with fail
    go_ret
    rw [HX.out]; exact ⟨rfl, HB.out⟩
  by_cases h4 : (4 : Int) < (nv : Int)
  · have HX : Hid (R = false) := Lib.hid (by rw [HR2.out, outl_low (.inr (by rw [LV.out]; omega))]; rfl)
    go_wp2_with fail
    go_ret
    rw [HX.out]; exact ⟨rfl, HB.out⟩
  by_cases h5 : (16 : Int) < (nf : Int)
  · have HX : Hid (R = false) := Lib.hid (by rw [HR2.out, outl_low (L := fNames F) (.inr (by rw [LF.out]; omega))]; simp)
    go_wp2_with fail
    go_ret
    rw [HX.out]; exact ⟨rfl, HB.out⟩
  have HR3 : Hid (R = (rises ⟨#[]⟩ (vNames V) && rises ⟨#[]⟩ (fNames F))) := Lib.hid (by
    rw [HR2.out]
    unfold outl
    rw [LV.out, LF.out, decide_eq_true (show ((1 : Nat) : Int) ≤ (nv : Int) by omega), decide_eq_true (show (nv : Int) ≤ ((4 : Nat) : Int) by omega), decide_eq_true (show ((0 : Nat) : Int) ≤ (nf : Int) by omega), decide_eq_true (show (nf : Int) ≤ ((16 : Nat) : Int) by omega)]
    rfl)
  have hnv4 : nv ≤ 4 := by omega
  have hnf16 : nf ≤ 16 := by omega
  have VNL : Hid (nv ≤ maxLen) := Lib.hid (by unfold maxLen; omega)
  have FNL : Hid (nf ≤ maxLen) := Lib.hid (by unfold maxLen; omega)
  clear HR2
  go_wp2_with fail
  clear d0 d1 d2 h1 h2 h3 h4 h5
  generalize w.alloc (.cells #[.int .i64 i, .slice pv nv cv, .slice pf nf cf] 29) = W0 at *
  go_loopw [3, 5] (fun s i wr => ∃ k : Nat, k ≤ nv ∧ i = .int .i64 k ∧ OwnT wr W0.heap.size s ((V.take k).map fun x => x.name) ∧ Below W0.heap.size W0 wr) (fun _ i _ => nv - (intOf i).toNat)
  case atStart => exact ⟨0, Nat.zero_le _, rfl, ownT_nil _ _, Below.refl _ _⟩
  case round =>
    obtain ⟨k, hk, rfl, ho, hb⟩ := hrel
    obtain ⟨wz, rfl⟩ : ∃ wz : World, wz = wr := ⟨_, rfl⟩
    have HO := Lib.hid ho
    have HQ := Lib.hid hb
    have HW := Lib.hid (HB.out.trans (hb.mono HB.out.size))
    obtain ⟨d0, d1, d2⟩ := cells3_of ((hb.block _ HS.out).trans HZ.out)
    clear ho hb
    by_cases hlt : k < nv
    · have hlk : k < V.length := by rw [← NV.out]; exact hlt
      obtain ⟨g, off, x, rfl, hi, hc⟩ := vecs_cell HV.out hlk
      obtain ⟨c0, c1⟩ := hc wz HW.out
      have VX := Lib.hid (List.getElem?_eq_getElem hlk)
      generalize V[k] = y at c0 VX
      obtain ⟨v', w', hr, ho', hb'⟩ := append_text y.name HO.out (by rw [List.length_map, List.length_take]; omega) HQ.out.size
      have HO2 := Lib.hid ho'
      have HB2 := Lib.hid (HQ.out.trans hb')
      clear hc hi ho' hb' c1 hlk
      go_wp2_with (at_builtin; refine wpList_append_run rfl _ _ _ _ rfl _ _ _ _ rfl rfl hr ?_)
      go_roundw
      case rel => exact ⟨k + 1, by omega, by first | rfl | go_num, by rw [take_map_snoc VX.out]; exact HO2.out, HB2.out⟩
      case measure => simp [intOf]; omega
    · obtain rfl : k = nv := by omega
      have HN1 := HO.out
      have e1 : (V.take k).map (fun x => x.name) = vNames V := by rw [NV.out, List.take_length]; rfl
      rw [e1] at HN1
      obtain ⟨p3, c3, rfl⟩ := HN1.at.form
      have HA := Lib.hid HN1.at
      rw [LV.out] at HA ⊢
      clear HO e1 HN1
      go_wp2_with fail
      clear d0 d1 d2
      go_loopw [4, 6] (fun s i wr => ∃ j : Nat, j ≤ nf ∧ i = .int .i64 j ∧ OwnT wr wz.heap.size s ((F.take j).map fun x => x.name) ∧ Below wz.heap.size wz wr) (fun _ i _ => nf - (intOf i).toNat)
      case atStart => exact ⟨0, Nat.zero_le _, rfl, ownT_nil _ _, Below.refl _ _⟩
      case round =>
        obtain ⟨j, hj, rfl, ho, hb⟩ := hrel
        obtain ⟨wy, rfl⟩ : ∃ wy : World, wy = wr := ⟨_, rfl⟩
        have HO := Lib.hid ho
        have HQ2 := Lib.hid hb
        have HW2 := Lib.hid (HW.out.trans (hb.mono HW.out.size))
        obtain ⟨d0, d1, d2⟩ := cells3_of (((HQ.out.trans (hb.mono HQ.out.size)).block _ HS.out).trans HZ.out)
        clear ho hb
        by_cases hlt2 : j < nf
        · have hlk : j < F.length := by rw [← NF.out]; exact hlt2
          obtain ⟨g, off, rfl, hc⟩ := flds_cell HF.out hlk
          obtain ⟨c0, c1, c2, c3'⟩ := hc wy HW2.out
          have VX := Lib.hid (List.getElem?_eq_getElem hlk)
          generalize F[j] = y at c0 VX
          obtain ⟨v', w', hr, ho', hb'⟩ := append_text y.name HO.out (by rw [List.length_map, List.length_take]; omega) HQ2.out.size
          have HO2 := Lib.hid ho'
          have HB2 := Lib.hid (HQ2.out.trans hb')
          clear hc ho' hb' c1 c2 c3' hlk
          go_wp2_with (at_builtin; refine wpList_append_run rfl _ _ _ _ rfl _ _ _ _ rfl rfl hr ?_)
          go_roundw
          case rel => exact ⟨j + 1, by omega, by first | rfl | go_num, by rw [take_map_snoc VX.out]; exact HO2.out, HB2.out⟩
          case measure => simp [intOf]; omega
        · obtain rfl : j = nf := by omega
          have HN2 := HO.out
          have e1 : (F.take j).map (fun x => x.name) = fNames F := by rw [NF.out, List.take_length]; rfl
          rw [e1] at HN2
          obtain ⟨p4, c4, rfl⟩ := HN2.at.form
          have HA2 := Lib.hid HN2.at
          rw [LF.out] at HA2 ⊢
          have HC1 := Lib.hid (rnames_any (vNames V) _ wy (HA.out.below HQ2.out) (by rw [LV.out]; exact VNL.out) (fun x hx => by
            obtain ⟨y, hy, rfl⟩ := List.mem_map.1 hx
            exact room_len (KV.out.2 y hy).1))
          have HC2 := Lib.hid (fun W (hb : Below wy.heap.size wy W) => rnames_any (fNames F) _ W (HA2.out.below hb) (by rw [LF.out]; exact FNL.out) (fun x hx => by
            obtain ⟨y, hy, rfl⟩ := List.mem_map.1 hx
            exact room_len (KF.out.2 y hy).1))
          clear HO e1 HN2
          generalize rises ⟨#[]⟩ (vNames V) = ra at HR3 HC1
          generalize rises ⟨#[]⟩ (fNames F) = rb at HR3 HC2
          cases ra with
          | true =>
            go_wp2_with fail
            refine HC1.out.mono ?_
            rintro e w3 ⟨rfl, hb3⟩
            have HB3 := Lib.hid hb3
            clear hb3
            go_wp2_with fail
            refine (HC2.out _ HB3.out).mono ?_
            rintro e w4 ⟨rfl, hb4⟩
            have HB4 := Lib.hid (HW2.out.trans ((HB3.out.trans (hb4.mono HB3.out.size)).mono HW2.out.size))
            clear hb4
            go_wp2_with fail
            go_ret
            rw [HR3.out]; exact ⟨rfl, HB4.out⟩
          | false =>
            go_wp2_with fail
            refine HC1.out.mono ?_
            rintro e w3 ⟨rfl, hb3⟩
            have HB3 := Lib.hid (HW2.out.trans (hb3.mono HW2.out.size))
            clear hb3
            go_wp2_with fail
            go_ret
            rw [HR3.out]; exact ⟨rfl, HB3.out⟩
/-! ### May -/
theorem vec_ways (L : List Int) (n : Nat) (hn : n = L.length) : ((n : Int) < 1 ∧ vecB L = false) ∨ (¬ (n : Int) < 1 ∧ (64 : Int) < n ∧ vecB L = false) ∨ (¬ (n : Int) < 1 ∧ ¬ (64 : Int) < n ∧ vecB L = L.all partB) := by
  unfold vecB
  subst hn
  by_cases h1 : (L.length : Int) < 1
  · left; exact ⟨h1, by simp; omega⟩
  · right
    by_cases h2 : (64 : Int) < (L.length : Int)
    · left; exact ⟨h1, h2, by simp; omega⟩
    · right; refine ⟨h1, h2, ?_⟩
      rw [decide_eq_true (by omega), decide_eq_true (by omega)]; rfl
set_option maxHeartbeats 4000000 in
set_option maxRecDepth 100000 in
theorem rmay_any (i : Int) (vv fv : Value) (V : List Vec) (F : List Fld) (w : World) (hv : VecsAt w vv V) (hf : FldsAt w fv F) (kv : VecsOk V) (kf : FldsOk F) :
    Calls Tryd.prog 22 #[.agg #[.int .i64 i, vv, fv]] w fun e w' => e = .returned (.bool (ptMay ⟨i, V, F⟩)) ∧ Below w.heap.size w w' := by
  obtain ⟨R, hR⟩ : ∃ R, R = ptMay ⟨i, V, F⟩ := ⟨_, rfl⟩
  rw [← hR]
  unfold ptMay at hR
  have HO := Lib.hid (fun W (g : Below w.heap.size w W) => rshape_any i vv fv V F W (hv.below g) (hf.below g) kv kf)
  have HV := Lib.hid hv
  have HF := Lib.hid hf
  have KV := Lib.hid kv
  have KF := Lib.hid kf
  obtain ⟨pv, cv, rfl⟩ := hv.form
  obtain ⟨pf, cf, rfl⟩ := hf.form
  have HR := Lib.hid hR
  clear hv hf kv kf hR
  generalize ptOutl ⟨i, V, F⟩ = o at *
  obtain ⟨nv, hnv⟩ : ∃ n, n = V.length := ⟨_, rfl⟩
  obtain ⟨nf, hnf⟩ : ∃ n, n = F.length := ⟨_, rfl⟩
  rw [← hnv] at HV HO ⊢
  rw [← hnf] at HF HO ⊢
  have NV := Lib.hid hnv
  have NF := Lib.hid hnf
  clear hnv hnf
  obtain ⟨d0, d1, d2⟩ := cells3 w (.int .i64 i) (.slice pv nv cv) (.slice pf nf cf) 29
  have HB := Lib.hid (fresh_alloc w (.cells #[.int .i64 i, .slice pv nv cv, .slice pf nf cf] 29))
  have HZ : Hid ((w.alloc (.cells #[.int .i64 i, .slice pv nv cv, .slice pf nf cf] 29)).heap[w.heap.size]? = some (.cells #[.int .i64 i, .slice pv nv cv, .slice pf nf cf] 29 (0, 0))) := Lib.hid (heap_last w _)
  have HS : Hid (w.heap.size < (w.alloc (.cells #[.int .i64 i, .slice pv nv cv, .slice pf nf cf] 29)).heap.size) := Lib.hid (by simp)
  have VNL : Hid (nv ≤ maxLen) := Lib.hid (by rw [NV.out]; exact room_len KV.out.1)
  have FNL : Hid (nf ≤ maxLen) := Lib.hid (by rw [NF.out]; exact room_len KF.out.1)
  go_enter Tryd.func22, Tryd.ntmps22
  go_wp2_with fail
  generalize w.alloc (.cells #[.int .i64 i, .slice pv nv cv, .slice pf nf cf] 29) = W0 at *
  refine (HO.out _ HB.out).mono ?_
  rintro e w1 ⟨rfl, b1⟩
  have HQ := Lib.hid b1
  have HW := Lib.hid (HB.out.trans (b1.mono HB.out.size))
  clear b1 d0 d1 d2
  cases o with
  | false =>
    have HX : Hid (R = false) := Lib.hid (by rw [HR.out]; rfl)
    go_wp2_with fail
    go_ret
    rw [HX.out]; exact ⟨rfl, HW.out⟩
  | true =>
    have HR2 : Hid (R = ((V.all fun x => vecB x.v) && F.all fun x => valB x.val)) := Lib.hid (by rw [HR.out]; rfl)
    have HS1 : Hid (w.heap.size < w1.heap.size) := Lib.hid (Nat.lt_of_lt_of_le HS.out HQ.out.size)
    have HZ1 : Hid (w1.heap[w.heap.size]? = some (.cells #[.int .i64 i, .slice pv nv cv, .slice pf nf cf] 29 (0, 0))) := Lib.hid ((HQ.out.block _ HS.out).trans HZ.out)
    clear HR HO
    go_wp2_with fail
    go_loopw [3] (fun i wr => ∃ k : Nat, k ≤ nv ∧ i = .int .i64 k ∧ Hid ((V.take k).all (fun x => vecB x.v) = true) ∧ wr = w1) (fun i _ => nv - (intOf i).toNat)
    case atStart => exact ⟨0, Nat.zero_le _, rfl, Lib.hid (by simp), rfl⟩
    case round =>
      obtain ⟨k, hk, rfl, HA, rfl⟩ := hrel
      obtain ⟨W1, rfl⟩ : ∃ W1 : World, W1 = wr := ⟨_, rfl⟩
      obtain ⟨d0, d1, d2⟩ := cells3_of HZ1.out
      by_cases hlt : k < nv
      · have hlk : k < V.length := by rw [← NV.out]; exact hlt
        obtain ⟨g, off, x, rfl, hi, hc⟩ := vecs_cell HV.out hlk
        obtain ⟨c0, c1⟩ := hc _ HW.out
        have VX := Lib.hid (List.getElem?_eq_getElem hlk)
        have HK := Lib.hid (KV.out.2 _ (List.getElem_mem hlk))
        have HI := Lib.hid (hi.below HW.out)
        generalize V[k] = y at c0 VX HK HI hi
        obtain ⟨px, cx, rfl, _⟩ := hi.form
        have HCR := Lib.hid (rrange_any y.v _ _ HI.out (room_len HK.out.2))
        obtain ⟨m, hm⟩ : ∃ m, m = y.v.length := ⟨_, rfl⟩
        rw [← hm] at c1 HCR
        clear hc hi hlk c0
        rcases vec_ways y.v m hm with ⟨h1, hvb⟩ | ⟨h1, h2, hvb⟩ | ⟨h1, h2, hvb⟩
        · have HX : Hid (R = false) := Lib.hid (by rw [HR2.out, all_no' VX.out hvb]; rfl)
          clear hvb hm
          go_wp2_with fail
          go_ret
          rw [HX.out]; exact ⟨rfl, HW.out⟩
        · have HX : Hid (R = false) := Lib.hid (by rw [HR2.out, all_no' VX.out hvb]; rfl)
          clear hvb hm
          go_wp2_with fail
          go_ret
          rw [HX.out]; exact ⟨rfl, HW.out⟩
        · cases hp : y.v.all partB with
          | false =>
            rw [hp] at HCR hvb
            have HX : Hid (R = false) := Lib.hid (by rw [HR2.out, all_no' VX.out hvb]; rfl)
            clear hvb hm hp
            go_wp2_with fail
            refine HCR.out.mono ?_
            rintro e w2 ⟨rfl, rfl⟩
            go_wp2_with fail
            go_ret
            rw [HX.out]; exact ⟨rfl, HW.out⟩
          | true =>
            rw [hp] at HCR hvb
            have HX := Lib.hid (all_next' VX.out HA.out hvb)
            clear hvb hm hp
            go_wp2_with fail
            refine HCR.out.mono ?_
            rintro e w2 ⟨rfl, rfl⟩
            go_wp2_with fail
            go_roundw
            case rel => exact ⟨k + 1, by omega, congrArg _ (wrap_s VNL.out hlt), HX, trivial⟩
            case measure => rw [wrap_s VNL.out hlt]; exact int_less hlt
      · obtain rfl : k = nv := by omega
        have HX : Hid (R = F.all fun x => valB x.val) := Lib.hid (by rw [HR2.out]; have := HA.out; rw [NV.out, List.take_length] at this; rw [this]; rfl)
        clear HR2 HA
        go_wp2_with fail
        clear d0 d1 d2
        go_loopw [5] (fun i wx => ∃ j : Nat, j ≤ nf ∧ i = .int .i64 j ∧ Hid ((F.take j).all (fun x => valB x.val) = true) ∧ Below W1.heap.size W1 wx) (fun i _ => nf - (intOf i).toNat)
        case atStart => exact ⟨0, Nat.zero_le _, rfl, Lib.hid (by simp), Below.refl _ _⟩
        case round =>
          obtain ⟨j, hj, rfl, HA, hb⟩ := hrel
          obtain ⟨wy, rfl⟩ : ∃ wy : World, wy = wr := ⟨_, rfl⟩
          have HQ2 := Lib.hid hb
          have HW2 := Lib.hid (HW.out.trans (hb.mono HW.out.size))
          obtain ⟨d0, d1, d2⟩ := cells3_of ((hb.block _ HS1.out).trans HZ1.out)
          clear hb
          by_cases hlt2 : j < nf
          · have hlk : j < F.length := by rw [← NF.out]; exact hlt2
            obtain ⟨g, off, rfl, hc⟩ := flds_cell HF.out hlk
            obtain ⟨c0, c1, c2, c3⟩ := hc wy HW2.out
            have VX := Lib.hid (List.getElem?_eq_getElem hlk)
            have HK := Lib.hid (KF.out.2 _ (List.getElem_mem hlk))
            generalize F[j] = y at c0 c1 c2 c3 VX HK
            have HCV := Lib.hid (rvalue_any y.val.kind y.val.n y.val.text (room_len HK.out.2) wy)
            have ev : (⟨y.val.kind, y.val.n, y.val.text⟩ : Val) = y.val := rfl
            rw [ev] at HCV
            clear hc hlk
            cases hp : valB y.val with
            | false =>
              rw [hp] at HCV
              have HZ2 : Hid (R = false) := Lib.hid (by rw [HX.out, all_no' VX.out hp])
              clear hp
              go_wp2_with fail
              refine HCV.out.mono ?_
              rintro e w2 ⟨rfl, hb2⟩
              have HB2 := Lib.hid (HW2.out.trans (hb2.mono HW2.out.size))
              clear hb2
              go_wp2_with fail
              go_ret
              rw [HZ2.out]; exact ⟨rfl, HB2.out⟩
            | true =>
              rw [hp] at HCV
              have HN := Lib.hid (all_next' VX.out HA.out hp)
              clear hp
              go_wp2_with fail
              refine HCV.out.mono ?_
              rintro e w2 ⟨rfl, hb2⟩
              have HB2 := Lib.hid (HQ2.out.trans (hb2.mono HQ2.out.size))
              clear hb2
              go_wp2_with fail
              go_roundw
              case rel => exact ⟨j + 1, by omega, congrArg _ (wrap_s FNL.out hlt2), HN, HB2.out⟩
              case measure => rw [wrap_s FNL.out hlt2]; exact int_less hlt2
          · obtain rfl : j = nf := by omega
            have HZ2 : Hid (R = true) := Lib.hid (by rw [HX.out]; have := HA.out; rwa [NF.out, List.take_length] at this)
            go_wp2_with fail
            go_ret
            rw [HZ2.out]; exact ⟨rfl, HW2.out⟩
end Go.Proofs.YtokjmgkoifakdaaDoor
namespace Go.Proofs.YtokjmgkoifakdaaDoor
set_option linter.unusedVariables false
open Go Go.RowKit Go.Shelf Pl
def TookV (R : Nat) (w : World) (x : Vec) (r' : Rs) (e : Ending) (w' : World) : Prop :=
  ∃ p c, e = .returned (.agg #[.string x.name, .slice p x.v.length c]) ∧ w'.ownsRow w.heap.size 3 1 (.slice p x.v.length c) x.v.length (iCells x.v) ∧ RdAt R r' w' ∧ Kr R w w'
theorem own_mono {w : World} {b b' size n : Nat} {e : TypeId} {v : Value} {xs : List Value} (h : w.ownsRow b e size v n xs) (hb : b' ≤ b) : w.ownsRow b' e size v n xs := by
  refine ⟨h.1, ?_⟩
  rcases h.2 with h0 | ⟨g, cap, cur, rfl, h1, h2⟩
  · exact .inl h0
  · exact .inr ⟨g, cap, cur, rfl, Nat.le_trans hb h1, h2⟩
theorem textR_rest (K : Nat) (r : Rs) : (textR K r).2.rest.length ≤ r.rest.length := by
  have h1 := numR_rest K r
  have h2 : (takeR (numR K r).1 (numR K r).2).2.rest.length ≤ (numR K r).2.rest.length := by
    unfold takeR
    by_cases c : (numR K r).2.rest.length < (numR K r).1
    · rw [if_pos c]; simp
    · rw [if_neg c]; simp
  exact Nat.le_trans h2 h1
theorem manyR_rest {α : Type} {f : Rs → α × Rs} (hf : ∀ r, (f r).2.rest.length ≤ r.rest.length) : ∀ n r, (manyR f n r).2.rest.length ≤ r.rest.length
  | 0, r => Nat.le_refl _
  | n + 1, r => Nat.le_trans (manyR_rest hf n (f r).2) (hf r)
theorem severalR_rest {α : Type} {f : Rs → α × Rs} (hf : ∀ r, (f r).2.rest.length ≤ r.rest.length) (r : Rs) : (severalR f r).2.rest.length ≤ r.rest.length :=
  Nat.le_trans (manyR_rest hf _ _) (numR_rest 1 r)
theorem vecR_rest (r : Rs) : (vecR r).2.rest.length ≤ r.rest.length := Nat.le_trans (severalR_rest partR_rest _) (textR_rest 1 r)
set_option maxHeartbeats 1000000 in
set_option maxRecDepth 100000 in
theorem vec_read (R : Nat) (r : Rs) (w : World) (h : RdAt R r w) (hl : r.rest.length ≤ 281474976710656) :
    Calls Tryd.prog 63 #[.pointer (some ⟨R, 0, none⟩)] w (TookV R w (vecR r).1 (vecR r).2) := by
  have hb0 := fresh_alloc w (.cells #[.string ⟨#[]⟩, .slice none 0 0] 52)
  have hx := heap_last w (.cells #[.string ⟨#[]⟩, .slice none 0 0] 52)
  have hbs : w.heap.size < (w.alloc (.cells #[.string ⟨#[]⟩, .slice none 0 0] 52)).heap.size := by simp
  have hR := h.lt
  have CT := Lib.hid (rtext_any R r 1 _ (h.fresh hb0) hl (by omega))
  have hrl := textR_rest 1 r
  have CI := Lib.hid (fun (W : World) (hW : RdAt R (textR 1 r).2 W) => ints_read R (textR 1 r).2 W hW (Nat.le_trans hrl hl))
  have HE1 : Hid ((vecR r).1 = ⟨(textR 1 r).1, (severalR partR (textR 1 r).2).1⟩) := Lib.hid rfl
  have HE2 : Hid ((vecR r).2 = (severalR partR (textR 1 r).2).2) := Lib.hid rfl
  rw [HE1.out, HE2.out]
  generalize (severalR partR (textR 1 r).2).1 = L at *
  generalize (severalR partR (textR 1 r).2).2 = r2 at *
  generalize (textR 1 r).1 = s at *
  generalize (textR 1 r).2 = r1 at *
  have HB0 := Lib.hid hb0
  have HX := Lib.hid hx
  have HBS := Lib.hid hbs
  have HR := Lib.hid hR
  clear h hl hrl HE1 HE2 hb0 hx hbs hR
  go_enter Tryd.func63, Tryd.ntmps63
  go_wp2_with fail
  refine CT.out.mono ?_
  rintro e w1 ⟨rfl, h1, h2⟩
  have C2 := Lib.hid (CI.out w1 h1)
  have HK1 := Lib.hid h2
  clear h1 h2 CT CI
  go_wp2_with fail
  refine C2.out.mono ?_
  rintro e w2 ⟨v, rfl, ho, h3, h4⟩
  obtain ⟨p, c, rfl⟩ := own_slice ho
  have hk := HK1.out.trans h4
  have hrow := (hk.block w.heap.size HBS.out (by have := HR.out; omega)).trans HX.out
  have d0 : w2.cell? ⟨w.heap.size, 0, none⟩ = some (.string ⟨#[]⟩) := by rw [Lib.cell_of_heap hrow]; rfl
  have d1 : w2.cell? ⟨w.heap.size, 1, none⟩ = some (.slice none 0 0) := by rw [Lib.cell_of_heap hrow]; rfl
  have k0 : w2.frozen? ⟨w.heap.size, 0, none⟩ = false := Lib.frozen_of_heap hrow 0
  have k1 : ∀ v, (w2.setCell ⟨w.heap.size, 0, none⟩ v).frozen? ⟨w.heap.size, 1, none⟩ = false := fun v => Lib.frozen_of_heap (setCell_row hrow v) 1
  have hend := setCell_row (setCell_row (k := 0) hrow (.string s)) (k := 1) (.slice p L.length c)
  have e0 : ((w2.setCell ⟨w.heap.size, 0, none⟩ (.string s)).setCell ⟨w.heap.size, 1, none⟩ (.slice p L.length c)).cell? ⟨w.heap.size, 0, none⟩ = some (.string s) := by rw [Lib.cell_of_heap hend]; rfl
  have e1 : ((w2.setCell ⟨w.heap.size, 0, none⟩ (.string s)).setCell ⟨w.heap.size, 1, none⟩ (.slice p L.length c)).cell? ⟨w.heap.size, 1, none⟩ = some (.slice p L.length c) := by rw [Lib.cell_of_heap hend]; rfl
  have HP : Hid (TookV R w ⟨s, L⟩ r2 (.returned (.agg #[.string s, .slice p L.length c])) ((w2.setCell ⟨w.heap.size, 0, none⟩ (.string s)).setCell ⟨w.heap.size, 1, none⟩ (.slice p L.length c))) := Lib.hid (by
    have hs1 : w.heap.size < w1.heap.size := Nat.lt_of_lt_of_le HBS.out HK1.out.size
    have hsz : ((w2.setCell ⟨w.heap.size, 0, none⟩ (.string s)).setCell ⟨w.heap.size, 1, none⟩ (.slice p L.length c)).heap.size = w2.heap.size := by simp [World.setCell]
    refine ⟨p, c, rfl, own_mono (own_other (own_other ho hs1) hs1) (Nat.le_of_lt hs1), ?_, ?_⟩
    · exact ((heap_setCell_other _ _ _ _ (by show R ≠ w.heap.size; have := HR.out; omega)).trans (heap_setCell_other _ _ _ _ (by show R ≠ w.heap.size; have := HR.out; omega))).trans h3
    · refine ⟨hk.os.trans HB0.out.os, hk.tape.trans HB0.out.tape, hk.output.trans HB0.out.output, by rw [hsz]; exact Nat.le_trans HB0.out.size hk.size, fun b hb hne => ?_⟩
      rw [heap_setCell_other _ _ _ _ (by show b ≠ w.heap.size; omega), heap_setCell_other _ _ _ _ (by show b ≠ w.heap.size; omega), hk.block b (Nat.lt_of_lt_of_le hb HB0.out.size) hne, HB0.out.block b hb])
  clear ho h3 h4 hk hrow hend C2
  go_wp2_with fail
  refine bodyPost_ret (v := .agg #[.string s, .slice p L.length c]) (by simp [results, Tryd.results63, go_sem, e0, e1]) rfl ?_
  exact HP.out
end Go.Proofs.YtokjmgkoifakdaaDoor
namespace Go.Proofs.YtokjmgkoifakdaaDoor
set_option linter.unusedVariables false
open Go Go.RowKit Go.Shelf Pl
/-- An own row of vectors whose numbers lie in blocks of their own. -/
def VRow (base : Nat) (wr : World) (lv : Value) (L : List Vec) : Prop :=
  ∃ ss : List Value, ss.length = L.length ∧ wr.ownsRow base 52 2 lv L.length (vCells ((L.map (·.name)).zip ss)) ∧
    ∀ j (h : j < L.length) (h' : j < ss.length), IntsAt wr ss[j] (L[j]).v ∧ ((L[j]).v ≠ [] → ∀ g, (ss[j]).ownBlock = some g → base ≤ g ∧ g < wr.heap.size ∧ lv.ownBlock ≠ some g)
theorem VRow.kept {base : Nat} {w w' : World} {lv : Value} {L : List Vec} (h : VRow base w lv L) (hs : w.heap.size ≤ w'.heap.size) (hb : ∀ g, base ≤ g → g < w.heap.size → w'.heap[g]? = w.heap[g]?) : VRow base w' lv L := by
  obtain ⟨ss, h1, h2, h3⟩ := h
  refine ⟨ss, h1, own_same h2 (fun g hg => by have := own_lt h2 hg; exact hb g this.1 this.2), fun j hj hj' => ?_⟩
  obtain ⟨i1, i2⟩ := h3 j hj hj'
  exact ⟨i1.moved hs (fun hn g hg => by have := i2 hn g hg; exact hb g this.1 this.2.1), fun hn g hg => by have := i2 hn g hg; exact ⟨this.1, by omega, this.2.2⟩⟩
theorem VRow.nil (base : Nat) (w : World) : VRow base w (.slice none 0 0) [] := ⟨[], rfl, World.ownsRow_nil _ _ _ _, fun j hj _ => absurd hj (Nat.not_lt_zero _)⟩
theorem VRow.form {base : Nat} {w : World} {lv : Value} {L : List Vec} (h : VRow base w lv L) : ∃ p c, lv = .slice p L.length c := let ⟨_, _, h2, _⟩ := h; own_slice h2
/-- One vector more. -/
theorem VRow.next {base B2 : Nat} {w w5 : World} {lv v5 s : Value} {L : List Vec} {x : Vec} (h : VRow base w lv L) (hB : base ≤ B2) (hlv : ∀ g, lv.ownBlock = some g → g < B2) (hs : w.ownsRow B2 3 1 s x.v.length (iCells x.v))
    (ho : ∀ xs, w.ownsRow base 52 2 lv L.length xs → w5.ownsRow base 52 2 v5 (L.length + 1) (xs ++ [.string x.name, s]))
    (hn : ∀ j, j < w.heap.size → lv.ownBlock ≠ some j → w5.heap[j]? = w.heap[j]?) (hsz : w.heap.size < w5.heap.size) (hv : v5.ownBlock = lv.ownBlock ∨ ∃ g, v5.ownBlock = some g ∧ w.heap.size < g) : VRow base w5 v5 (L ++ [x]) := by
  obtain ⟨ss, h1, h2, h3⟩ := h
  refine ⟨ss ++ [s], by simp [h1], ?_, fun j hj hj' => ?_⟩
  · have e : vCells (((L ++ [x]).map (·.name)).zip (ss ++ [s])) = vCells ((L.map (·.name)).zip ss) ++ [.string x.name, s] := by
      rw [List.map_append, List.zip_append (by simp [h1])]
      simp [vCells]
    rw [e, List.length_append]
    exact ho _ h2
  · rcases Nat.lt_or_ge j L.length with c | c
    · have hjs : j < ss.length := by omega
      have e1 : (ss ++ [s])[j] = ss[j] := List.getElem_append_left hjs
      have e2 : (L ++ [x])[j] = L[j] := List.getElem_append_left c
      rw [e1, e2]
      obtain ⟨i1, i2⟩ := h3 j c hjs
      refine ⟨i1.moved (Nat.le_of_lt hsz) (fun hn' g hg => by have := i2 hn' g hg; exact hn g this.2.1 this.2.2), fun hn' g hg => ?_⟩
      have := i2 hn' g hg
      refine ⟨this.1, by omega, ?_⟩
      rcases hv with e | ⟨g5, e, h5⟩
      · rw [e]; exact this.2.2
      · rw [e]; intro h; injection h with h; omega
    · have hjk : j = L.length := by simp at hj; omega
      subst hjk
      have e1 : (ss ++ [s])[L.length] = s := by rw [List.getElem_append_right (by omega)]; simp [h1]
      have e2 : (L ++ [x])[L.length] = x := by simp
      rw [e1, e2]
      refine ⟨(own_ints hs).moved (Nat.le_of_lt hsz) (fun hn' g hg => by have h9 := own_lt hs hg; exact hn g h9.2 (fun e => by have := hlv g e; omega)), fun hn' g hg => ?_⟩
      have h9 := own_lt hs hg
      refine ⟨by omega, by omega, ?_⟩
      rcases hv with e | ⟨g5, e, h5⟩
      · rw [e]; intro h; have := hlv g h; omega
      · rw [e]; intro h; injection h with h; omega
theorem VRow.at {base : Nat} {w : World} {lv : Value} {L : List Vec} (h : VRow base w lv L) : VecsAt w lv L := by
  obtain ⟨ss, h1, h2, h3⟩ := h
  rcases Nat.eq_zero_or_pos L.length with h0 | h0
  · rw [h0] at h2
    obtain ⟨p, c, rfl⟩ := own_nil h2
    exact .inl ⟨List.length_eq_zero_iff.mp h0, p, c, rfl⟩
  · obtain ⟨g, cap, rfl, hb, hg, hc⟩ := own_at h2 h0
    have hl : ((L.map (·.name)).zip ss).length = L.length := by simp [h1]
    refine .inr ⟨g, 0, cap, fun j => (ss[j]?).getD .nilIface, rfl, hg, fun W hW j hj => ?_, fun j hj => ?_⟩
    · obtain ⟨e0, e1⟩ := vCells_at ((L.map (·.name)).zip ss) j (by rw [hl]; exact hj)
      have hjs : j < ss.length := by omega
      have hz : ((L.map (·.name)).zip ss)[j]'(by rw [hl]; exact hj) = ((L[j]).name, ss[j]) := by simp
      rw [hz] at e0 e1
      rw [Nat.zero_add]
      exact ⟨hc W hW _ _ (by omega) e0, by simp only [List.getElem?_eq_getElem hjs, Option.getD_some]; exact hc W hW _ _ (by omega) e1⟩
    · have hjs : j < ss.length := by omega
      simp only [List.getElem?_eq_getElem hjs, Option.getD_some]
      exact (h3 j hj hjs).1
theorem rvec_enters : ∀ args w, (callFunc 63 args).run Tryd.prog w = .ok (.enter 63 args) w := enters_of Tryd.func63 (by kernel_rfl) rfl
def TookVs (R : Nat) (w : World) (L : List Vec) (r' : Rs) (e : Ending) (w' : World) : Prop := ∃ v, e = .returned v ∧ VRow w.heap.size w' v L ∧ RdAt R r' w' ∧ Kr R w w'
set_option maxHeartbeats 2000000 in
set_option maxRecDepth 100000 in
theorem vecs_read (R : Nat) (r : Rs) (w : World) (h : RdAt R r w) (hl : r.rest.length ≤ 281474976710656) :
    Calls Tryd.prog 62 #[.pointer (some ⟨R, 0, none⟩), .func (.func 63) #[.pointer (some ⟨R, 0, none⟩)] #[]] w (TookVs R w (severalR vecR r).1 (severalR vecR r).2) := by
  have hlt : (numR 1 r).1 < 256 := numR_lt 1 r
  have CN := Lib.hid (rnum_any R r 1 w h hl (by omega))
  rw [i64_small (Nat.lt_trans hlt (by decide))] at CN
  have hrl := numR_rest 1 r
  have HE : Hid (severalR vecR r = manyR vecR (numR 1 r).1 (numR 1 r).2) := Lib.hid rfl
  rw [HE.out]
  generalize (numR 1 r).1 = n at *
  generalize (numR 1 r).2 = r1 at *
  have hpe := rvec_enters
  have HLT := Lib.hid hlt
  have HL : Hid (r1.rest.length ≤ 281474976710656) := Lib.hid (Nat.le_trans hrl hl)
  have hRw := h.lt
  have HRW := Lib.hid hRw
  clear h hl HE hlt hrl hRw
  go_enter Tryd.func62, Tryd.ntmps62
  go_wp2_with fail
  refine CN.out.mono ?_
  rintro e w1 ⟨rfl, h1, h2⟩
  have H1 := Lib.hid h1
  have H2 := Lib.hid h2
  clear h1 h2 CN
  go_wp2_with fail
  go_loopw [5, 8] (fun lv i wr => ∃ (j : Nat) (done : List Vec) (rs : Rs), i = .int .i64 (j : Int) ∧ j ≤ n ∧ Hid (done.length = j ∧ manyR vecR n r1 = (done ++ (manyR vecR (n - j) rs).1, (manyR vecR (n - j) rs).2) ∧ rs.rest.length ≤ 281474976710656 ∧ RdAt R rs wr ∧ Kr R w wr ∧ VRow w.heap.size wr lv done)) (fun _ i _ => n - (intOf i).toNat)
  case atStart => exact ⟨0, [], r1, rfl, Nat.zero_le _, Lib.hid ⟨rfl, by simp, HL.out, H1.out, H2.out, VRow.nil _ _⟩⟩
  case round =>
    obtain ⟨j, done, rs, rfl, hj, HI⟩ := hrel
    obtain ⟨d1, d2, d3, d4, d5, d6⟩ := HI.out
    by_cases hlt : j < n
    · have CP := Lib.hid (vec_read R rs wr d4 d3)
      have HST := Lib.hid (many_step d2 hlt)
      have HRS := Lib.hid (Nat.le_trans (vecR_rest rs) d3)
      generalize (vecR rs).1 = x at *
      generalize (vecR rs).2 = rs' at *
      obtain ⟨p, c, rfl⟩ := d6.form
      have HD := Lib.hid (And.intro d1 (And.intro d5 d6))
      have HLJ := Lib.hid hlt
      have hlt1 : (j : Int) < (n : Int) := by omega
      have HDL := Lib.hid d1
      obtain ⟨wo, rfl⟩ : ∃ wo : World, wo = wr := ⟨_, rfl⟩
      clear d1 d2 d3 d4 d5 d6 hj hlt HI
      go_wp2_with fail
      refine CP.out.mono ?_
      rintro e w2 ⟨p2, c2, rfl, hos, h3, h4⟩
      have hVR : VRow w.heap.size w2 (.slice p done.length c) done := HD.out.2.2.kept h4.size (fun g hg1 hg2 => h4.block g hg2 (by have := HRW.out; omega))
      have hk2 := HD.out.2.1.trans h4
      obtain ⟨ss, hss1, hss2, hss3⟩ := hVR
      obtain ⟨v5, w5, hr5, ho5, hb5, hn5, hs5, hv5⟩ := append_el (cs := [.string x.name, .slice p2 x.v.length c2]) Tryd.underlying26 infoV rfl (by decide) hss2 rfl (fun u hu => by simp at hu; rcases hu with rfl | rfl <;> rfl) (by have := HLT.out; have := HLJ.out; have := HDL.out; omega) (by have := HLT.out; have := HLJ.out; have := HDL.out; unfold maxLen; omega) hk2.size
      have HR5 := Lib.hid hr5
      have hV5 : VRow w.heap.size w5 v5 (done ++ [x]) := VRow.next ⟨ss, hss1, hss2, hss3⟩ (B2 := wo.heap.size) HD.out.2.1.size (fun g hg => by
          obtain ⟨ss0, _, hh2, _⟩ := HD.out.2.2
          exact (own_lt hh2 hg).2) hos (fun xs hxs => by
          obtain ⟨v6, w6, hr6, ho6, _⟩ := append_el (cs := [.string x.name, .slice p2 x.v.length c2]) Tryd.underlying26 infoV rfl (by decide) hxs rfl (fun u hu => by simp at hu; rcases hu with rfl | rfl <;> rfl) (by have := HLT.out; have := HLJ.out; have := HDL.out; omega) (by have := HLT.out; have := HLJ.out; have := HDL.out; unfold maxLen; omega) hk2.size
          have e := (hr5 0).symm.trans (hr6 0)
          injection e with e1 e2
          subst e1 e2
          exact ho6) hn5 hs5 hv5
      have HN : Hid ((done ++ [x]).length = j + 1 ∧ manyR vecR n r1 = ((done ++ [x]) ++ (manyR vecR (n - (j + 1)) rs').1, (manyR vecR (n - (j + 1)) rs').2) ∧ rs'.rest.length ≤ 281474976710656 ∧ RdAt R rs' w5 ∧ Kr R w w5 ∧ VRow w.heap.size w5 v5 (done ++ [x])) := Lib.hid
        ⟨by rw [List.length_append, HD.out.1]; rfl, HST.out, HRS.out, (hb5.block R HRW.out).trans h3, ⟨hb5.os.trans hk2.os, hb5.tape.trans hk2.tape, hb5.output.trans hk2.output, Nat.le_trans hk2.size (Nat.le_of_lt hs5), fun b hb hne => (hb5.block b hb).trans (hk2.block b hb hne)⟩, hV5⟩
      clear h3 h4 hk2 hr5 ho5 hb5 hn5 hs5 hv5 hV5 hos hss1 hss2 hss3 CP
      go_wp2_with (at_builtin; refine wpList_append_run rfl _ _ _ _ rfl _ _ v5 w5 rfl rfl (fun ty => HR5.out ty) ?_)
      have hwj : wrap64 ((j : Int) + 1) = ((j + 1 : Nat) : Int) := by have := HLJ.out; have := HLT.out; unfold wrap64; omega
      go_roundw
      case rel => exact ⟨j + 1, done ++ [x], rs', congrArg _ hwj, HLJ.out, HN.out⟩
      case measure => rw [hwj]; have := HLJ.out; clear hwj; simp [intOf]; omega
    · obtain rfl : j = n := by omega
      have hlt1 : ¬ (j : Int) < (j : Int) := by omega
      rw [Nat.sub_self] at d2
      have e2 : manyR vecR j r1 = (done, rs) := by rw [d2]; simp [manyR]
      obtain ⟨p, c, rfl⟩ := d6.form
      have HF : Hid (TookVs R w (manyR vecR j r1).1 (manyR vecR j r1).2 (.returned (.slice p done.length c)) wr) := Lib.hid (by
        rw [e2]
        exact ⟨_, rfl, d6, d4, d5⟩)
      clear d1 d2 d3 d4 d5 d6 e2 HI
      go_wp2_with fail
      go_ret
      exact HF.out
end Go.Proofs.YtokjmgkoifakdaaDoor
namespace Go.Proofs.YtokjmgkoifakdaaDoor
set_option linter.unusedVariables false
open Go Go.RowKit Go.Shelf Pl
theorem Gp.kr {R : Nat} {w w' : World} (G : Gp w) (h : Kr R w w') (hR : gN ≤ R) : Gp w' := G.keep h.size fun b hb => h.block b (Nat.lt_of_lt_of_le hb G.size) (by omega)
theorem size_all (k : Nat) (w : World) (G : Gp w) :
    Calls Tryd.prog 90 #[.int .i64 k] w fun e w' => ∃ b, e = .returned (.tuple #[.agg #[.int .i64 (szT k).1, .int .i64 (szT k).2.1, .int .i64 (szT k).2.2.1, .int .i64 (szT k).2.2.2], .bool b]) ∧ Below w.heap.size w w' := by
  by_cases h : 1 ≤ k ∧ k < 4
  · exact (size_kind k h.1 h.2 w G).mono fun e w' ⟨h1, h2⟩ => ⟨true, h1, h2⟩
  · have e : szT k = (0, 0, 0, 0) := by
      unfold szT
      split <;> first | rfl | omega
    rw [e]
    exact (size_none k (by omega) w).mono fun e w' ⟨h1, h2⟩ => ⟨false, h1, h2⟩
def valO (a b c : Value) : Obj := .cells #[a, b, c] 54
def sizO (k : Nat) : Obj := .cells #[.int .i64 (szT k).1, .int .i64 (szT k).2.1, .int .i64 (szT k).2.2.1, .int .i64 (szT k).2.2.2] 146
def TookW (R : Nat) (w : World) (v : Val) (r' : Rs) (e : Ending) (w' : World) : Prop := e = .returned (.agg #[.int .i64 v.kind, .int .i64 v.n, .string v.text]) ∧ RdAt R r' w' ∧ Kr R w w'
/-- A struct of three cells stored into a block of its own, and read. -/
theorem res3 {w w2 : World} {R : Nat} {r' : Rs} {T : TypeId} {x y z : Value} (hrow : w2.heap[w.heap.size]? = some (.cells #[x, y, z] T (0, 0))) (h3 : RdAt R r' w2) (hR : R < w.heap.size) (hk : ∀ b, b < w.heap.size → b ≠ R → w2.heap[b]? = w.heap[b]?) (h1 : w2.os = w.os) (h2 : w2.tape = w.tape) (h4 : w2.output = w.output) (hs : w.heap.size ≤ w2.heap.size) (a b c : Value) :
    RdAt R r' (((w2.setCell ⟨w.heap.size, 0, none⟩ a).setCell ⟨w.heap.size, 1, none⟩ b).setCell ⟨w.heap.size, 2, none⟩ c) ∧ Kr R w (((w2.setCell ⟨w.heap.size, 0, none⟩ a).setCell ⟨w.heap.size, 1, none⟩ b).setCell ⟨w.heap.size, 2, none⟩ c) ∧
    ((((w2.setCell ⟨w.heap.size, 0, none⟩ a).setCell ⟨w.heap.size, 1, none⟩ b).setCell ⟨w.heap.size, 2, none⟩ c).cell? ⟨w.heap.size, 0, none⟩ = some a ∧ (((w2.setCell ⟨w.heap.size, 0, none⟩ a).setCell ⟨w.heap.size, 1, none⟩ b).setCell ⟨w.heap.size, 2, none⟩ c).cell? ⟨w.heap.size, 1, none⟩ = some b ∧ (((w2.setCell ⟨w.heap.size, 0, none⟩ a).setCell ⟨w.heap.size, 1, none⟩ b).setCell ⟨w.heap.size, 2, none⟩ c).cell? ⟨w.heap.size, 2, none⟩ = some c) := by
  have ho : ∀ k, k ≠ w.heap.size → (((w2.setCell ⟨w.heap.size, 0, none⟩ a).setCell ⟨w.heap.size, 1, none⟩ b).setCell ⟨w.heap.size, 2, none⟩ c).heap[k]? = w2.heap[k]? := fun k hk => by
    rw [heap_setCell_other _ _ _ _ hk, heap_setCell_other _ _ _ _ hk, heap_setCell_other _ _ _ _ hk]
  refine ⟨(ho R (by omega)).trans h3, ⟨h1, h2, h4, by simpa [World.setCell] using hs, fun k hb hne => (ho k (by omega)).trans (hk k hb hne)⟩, ?_⟩
  have hend := setCell_row (setCell_row (setCell_row (k := 0) hrow a) (k := 1) b) (k := 2) c
  exact cells3_of hend
set_option maxHeartbeats 2000000 in
set_option maxRecDepth 100000 in
theorem val_read (R : Nat) (r : Rs) (w : World) (G : Gp w) (hg : gN ≤ R) (h : RdAt R r w) (hl : r.rest.length ≤ 281474976710656) :
    Calls Tryd.prog 113 #[.pointer (some ⟨R, 0, none⟩)] w (TookW R w (valR r).1 (valR r).2) := by
  have hb0 := fresh_alloc w (valO (.int .i64 0) (.int .i64 0) (.string ⟨#[]⟩))
  have hx : (w.alloc (valO (.int .i64 0) (.int .i64 0) (.string ⟨#[]⟩))).heap[w.heap.size]? = some (valO (.int .i64 0) (.int .i64 0) (.string ⟨#[]⟩)) := heap_last w _
  have hbs : w.heap.size < (w.alloc (valO (.int .i64 0) (.int .i64 0) (.string ⟨#[]⟩))).heap.size := by simp
  have hR := h.lt
  have hlt : (numR 1 r).1 < 256 := numR_lt 1 r
  have CN := Lib.hid (rnum_any R r 1 _ (h.fresh hb0) hl (by omega))
  rw [i64_small (Nat.lt_trans hlt (by decide))] at CN
  have hrl := numR_rest 1 r
  have hcase : ((numR 1 r).1 = 2 ∧ valR r = (⟨2, 0, (textR 2 (numR 1 r).2).1⟩, (textR 2 (numR 1 r).2).2)) ∨ ((numR 1 r).1 ≠ 2 ∧ valR r = (⟨((numR 1 r).1 : Int), i64N (numR (szT (numR 1 r).1).1.toNat (numR 1 r).2).1, ⟨#[]⟩⟩, (numR (szT (numR 1 r).1).1.toNat (numR 1 r).2).2)) := by
    by_cases c : (numR 1 r).1 = 2
    · exact .inl ⟨c, by unfold valR; rw [if_pos c]⟩
    · exact .inr ⟨c, by unfold valR; rw [if_neg c]⟩
  generalize (numR 1 r).1 = k at *
  generalize (numR 1 r).2 = r1 at *
  have HL : Hid (r1.rest.length ≤ 281474976710656) := Lib.hid (Nat.le_trans hrl hl)
  have CZ := Lib.hid (fun W (GW : Gp W) => size_all k W GW)
  have HSZ : Hid (sizO k = .cells #[.int .i64 (szT k).1, .int .i64 (szT k).2.1, .int .i64 (szT k).2.2.1, .int .i64 (szT k).2.2.2] 146) := Lib.hid rfl
  have hK8 := szT_le k
  have hKn : (szT k).1 = ((szT k).1.toNat : Int) := by unfold szT; split <;> rfl
  have HS2 : Hid (k = 2 → (szT k).1 = 2) := Lib.hid (fun e => by subst e; rfl)
  generalize (szT k).2.1 = lo at *
  generalize (szT k).2.2.1 = hi at *
  generalize (szT k).2.2.2 = txx at *
  obtain ⟨K, hK⟩ : ∃ K, K = (szT k).1.toNat := ⟨_, rfl⟩
  rw [← hK] at hK8 hKn hcase
  rw [hKn] at CZ HSZ HS2
  have HG := Lib.hid G
  have HGR := Lib.hid hg
  have HB0 := Lib.hid hb0
  have HX := Lib.hid hx
  have HBS := Lib.hid hbs
  have HR := Lib.hid hR
  have HLT := Lib.hid hlt
  have HC := Lib.hid hcase
  have HK8 := Lib.hid hK8
  clear h hl hrl hb0 hx hbs hR G hg hK hKn hcase hK8 hlt
  go_enter Tryd.func113, Tryd.ntmps113
  go_wp2_with fail
  refine CN.out.mono ?_
  rintro e w1 ⟨rfl, h1, h2⟩
  have HK1 := Lib.hid h2
  have HR1 := Lib.hid h1
  have CZ1 := Lib.hid (CZ.out w1 ((HG.out.fresh HB0.out).kr h2 HGR.out))
  clear h1 h2 CN CZ
  go_wp2_with fail
  refine CZ1.out.mono ?_
  rintro e w2 ⟨bb, rfl, hb2⟩
  have HR2 := Lib.hid (HR1.out.fresh hb2)
  have HK2 := Lib.hid (HK1.out.trans (Kr.of hb2))
  clear hb2 CZ1
  obtain ⟨w3, hw3⟩ : ∃ w3, w3 = w2.alloc (.cells #[.int .i64 (K : Int), .int .i64 lo, .int .i64 hi, .int .i64 txx] 146) := ⟨_, rfl⟩
  have hb3 : Below w2.heap.size w2 w3 := by rw [hw3]; exact fresh_alloc _ _
  have HR3 := Lib.hid (HR2.out.fresh hb3)
  have HK3 := Lib.hid (HK2.out.trans (Kr.of hb3))
  have y3 : w3.heap[w2.heap.size]? = some (.cells #[.int .i64 (K : Int), .int .i64 lo, .int .i64 hi, .int .i64 txx] 146 (0, 0)) := by rw [hw3]; exact heap_last _ _
  have c0 : w3.cell? ⟨w2.heap.size, 0, none⟩ = some (.int .i64 (K : Int)) := by rw [Lib.cell_of_heap y3]; rfl
  rw [hw3] at c0
  have W3 := Lib.hid hw3
  have HK3x := HK3
  rw [hw3] at HK3x
  clear hb3 y3 hw3
  rcases HC.out with ⟨hk, hv⟩ | ⟨hk, hv⟩
  · have hk2 : (k : Int) = 2 := by omega
    have HV := Lib.hid hv
    have hK2 : (K : Int) = 2 := HS2.out hk
    have CT := Lib.hid (rtext_any R r1 2 w3 HR3.out HL.out (by omega))
    rw [show ((2 : Nat) : Int) = 2 from rfl] at CT
    rw [hK2] at W3 c0 HK3x
    rw [W3.out] at CT
    clear hk hv HS2
    go_wp2_with fail
    refine CT.out.mono ?_
    rintro e w4 ⟨rfl, h5, h6⟩
    have hk4 := HK3x.out.trans h6
    have hrow := (hk4.block w.heap.size HBS.out (by have := HR.out; omega)).trans HX.out
    obtain ⟨d0, d1, d2⟩ := cells3_of hrow
    have k0 : w4.frozen? ⟨w.heap.size, 0, none⟩ = false := Lib.frozen_of_heap hrow 0
    have k1 : ∀ v, (w4.setCell ⟨w.heap.size, 0, none⟩ v).frozen? ⟨w.heap.size, 1, none⟩ = false := fun v => Lib.frozen_of_heap (setCell_row hrow v) 1
    have k2 : ∀ u v, ((w4.setCell ⟨w.heap.size, 0, none⟩ u).setCell ⟨w.heap.size, 1, none⟩ v).frozen? ⟨w.heap.size, 2, none⟩ = false := fun u v => Lib.frozen_of_heap (setCell_row (setCell_row (k := 0) hrow u) (k := 1) v) 2
    obtain ⟨z1, z2, e0, e1, e2⟩ := res3 hrow h5 HR.out (fun b hb hne => (hk4.block b (Nat.lt_of_lt_of_le hb HB0.out.size) hne).trans (HB0.out.block b hb)) (hk4.os.trans HB0.out.os) (hk4.tape.trans HB0.out.tape) (hk4.output.trans HB0.out.output) (Nat.le_trans HB0.out.size hk4.size) (.int .i64 2) (.int .i64 0) (.string (textR 2 r1).1)
    have HP : Hid (TookW R w (valR r).1 (valR r).2 (.returned (.agg #[(.int .i64 2), (.int .i64 0), (.string (textR 2 r1).1)])) (((w4.setCell ⟨w.heap.size, 0, none⟩ (.int .i64 2)).setCell ⟨w.heap.size, 1, none⟩ (.int .i64 0)).setCell ⟨w.heap.size, 2, none⟩ (.string (textR 2 r1).1))) := Lib.hid (by
      rw [HV.out]
      exact ⟨rfl, z1, z2⟩)
    clear h5 h6 hk4 hrow z1 z2 CT
    go_wp2_with fail
    refine bodyPost_ret (v := .agg #[(.int .i64 2), (.int .i64 0), (.string (textR 2 r1).1)]) (by simp [results, Tryd.results113, go_sem, e0, e1, e2]) rfl ?_
    exact HP.out
  · have hk2 : ¬ (k : Int) = 2 := by omega
    have HV := Lib.hid hv
    have CT := Lib.hid (rnum_any R r1 K w3 HR3.out HL.out HK8.out)
    rw [W3.out] at CT
    clear hk hv HS2
    go_wp2_with fail
    refine CT.out.mono ?_
    rintro e w4 ⟨rfl, h5, h6⟩
    have hk4 := HK3x.out.trans h6
    have hrow := (hk4.block w.heap.size HBS.out (by have := HR.out; omega)).trans HX.out
    obtain ⟨d0, d1, d2⟩ := cells3_of hrow
    have k0 : w4.frozen? ⟨w.heap.size, 0, none⟩ = false := Lib.frozen_of_heap hrow 0
    have k1 : ∀ v, (w4.setCell ⟨w.heap.size, 0, none⟩ v).frozen? ⟨w.heap.size, 1, none⟩ = false := fun v => Lib.frozen_of_heap (setCell_row hrow v) 1
    have k2 : ∀ u v, ((w4.setCell ⟨w.heap.size, 0, none⟩ u).setCell ⟨w.heap.size, 1, none⟩ v).frozen? ⟨w.heap.size, 2, none⟩ = false := fun u v => Lib.frozen_of_heap (setCell_row (setCell_row (k := 0) hrow u) (k := 1) v) 2
    obtain ⟨z1, z2, e0, e1, e2⟩ := res3 hrow h5 HR.out (fun b hb hne => (hk4.block b (Nat.lt_of_lt_of_le hb HB0.out.size) hne).trans (HB0.out.block b hb)) (hk4.os.trans HB0.out.os) (hk4.tape.trans HB0.out.tape) (hk4.output.trans HB0.out.output) (Nat.le_trans HB0.out.size hk4.size) (.int .i64 (k : Int)) (.int .i64 (i64N (numR K r1).1)) (.string ⟨#[]⟩)
    have HP : Hid (TookW R w (valR r).1 (valR r).2 (.returned (.agg #[(.int .i64 (k : Int)), (.int .i64 (i64N (numR K r1).1)), (.string ⟨#[]⟩)])) (((w4.setCell ⟨w.heap.size, 0, none⟩ (.int .i64 (k : Int))).setCell ⟨w.heap.size, 1, none⟩ (.int .i64 (i64N (numR K r1).1))).setCell ⟨w.heap.size, 2, none⟩ (.string ⟨#[]⟩))) := Lib.hid (by
      rw [HV.out]
      exact ⟨rfl, z1, z2⟩)
    clear h5 h6 hk4 hrow z1 z2 CT
    go_wp2_with fail
    refine bodyPost_ret (v := .agg #[(.int .i64 (k : Int)), (.int .i64 (i64N (numR K r1).1)), (.string ⟨#[]⟩)]) (by simp [results, Tryd.results113, go_sem, e0, e1, e2]) rfl ?_
    exact HP.out
end Go.Proofs.YtokjmgkoifakdaaDoor
namespace Go.Proofs.YtokjmgkoifakdaaDoor
set_option linter.unusedVariables false
open Go Go.RowKit Go.Shelf Pl
def TookF (R : Nat) (w : World) (x : Fld) (r' : Rs) (e : Ending) (w' : World) : Prop := e = .returned (.agg #[.string x.name, .int .i64 x.val.kind, .int .i64 x.val.n, .string x.val.text]) ∧ RdAt R r' w' ∧ Kr R w w'
theorem valR_rest (r : Rs) : (valR r).2.rest.length ≤ r.rest.length := by
  unfold valR
  split
  · exact Nat.le_trans (textR_rest 2 _) (numR_rest 1 r)
  · exact Nat.le_trans (numR_rest _ _) (numR_rest 1 r)
theorem fldR_rest (r : Rs) : (fldR r).2.rest.length ≤ r.rest.length := Nat.le_trans (valR_rest _) (textR_rest 1 r)
set_option maxHeartbeats 2000000 in
set_option maxRecDepth 100000 in
theorem fld_read (R : Nat) (r : Rs) (w : World) (G : Gp w) (hg : gN ≤ R) (h : RdAt R r w) (hl : r.rest.length ≤ 281474976710656) :
    Calls Tryd.prog 65 #[.pointer (some ⟨R, 0, none⟩)] w (TookF R w (fldR r).1 (fldR r).2) := by
  have hb0 := fresh_alloc w (.cells #[.string ⟨#[]⟩, .int .i64 0, .int .i64 0, .string ⟨#[]⟩] 56)
  have hx := heap_last w (.cells #[.string ⟨#[]⟩, .int .i64 0, .int .i64 0, .string ⟨#[]⟩] 56)
  have hbs : w.heap.size < (w.alloc (.cells #[.string ⟨#[]⟩, .int .i64 0, .int .i64 0, .string ⟨#[]⟩] 56)).heap.size := by simp
  have hR := h.lt
  have CT := Lib.hid (rtext_any R r 1 _ (h.fresh hb0) hl (by omega))
  have hrl := textR_rest 1 r
  have CI := Lib.hid (fun (W : World) (GW : Gp W) (hW : RdAt R (textR 1 r).2 W) => val_read R (textR 1 r).2 W GW hg hW (Nat.le_trans hrl hl))
  have HE1 : Hid ((fldR r).1 = ⟨(textR 1 r).1, (valR (textR 1 r).2).1⟩) := Lib.hid rfl
  have HE2 : Hid ((fldR r).2 = (valR (textR 1 r).2).2) := Lib.hid rfl
  rw [HE1.out, HE2.out]
  generalize (valR (textR 1 r).2).1 = V at *
  generalize (valR (textR 1 r).2).2 = r2 at *
  generalize (textR 1 r).1 = s at *
  generalize (textR 1 r).2 = r1 at *
  obtain ⟨vk, vn, vt⟩ := V
  have HG := Lib.hid G
  have HGR := Lib.hid hg
  have HB0 := Lib.hid hb0
  have HX := Lib.hid hx
  have HBS := Lib.hid hbs
  have HR := Lib.hid hR
  clear h hl hrl HE1 HE2 hb0 hx hbs hR G hg
  go_enter Tryd.func65, Tryd.ntmps65
  go_wp2_with fail
  refine CT.out.mono ?_
  rintro e w1 ⟨rfl, h1, h2⟩
  have C2 := Lib.hid (CI.out w1 ((HG.out.fresh HB0.out).kr h2 HGR.out) h1)
  have HK1 := Lib.hid h2
  clear h1 h2 CT CI
  go_wp2_with fail
  refine C2.out.mono ?_
  rintro e w2 ⟨rfl, h3, h4⟩
  have hk := HK1.out.trans h4
  have hrow := (hk.block w.heap.size HBS.out (by have := HR.out; omega)).trans HX.out
  obtain ⟨d0, d1, d2, d3⟩ := cells4_of hrow
  have k0 : w2.frozen? ⟨w.heap.size, 0, none⟩ = false := Lib.frozen_of_heap hrow 0
  have k1 : ∀ v, (w2.setCell ⟨w.heap.size, 0, none⟩ v).frozen? ⟨w.heap.size, 1, none⟩ = false := fun v => Lib.frozen_of_heap (setCell_row hrow v) 1
  have k2 : ∀ u v, ((w2.setCell ⟨w.heap.size, 0, none⟩ u).setCell ⟨w.heap.size, 1, none⟩ v).frozen? ⟨w.heap.size, 2, none⟩ = false := fun u v => Lib.frozen_of_heap (setCell_row (setCell_row (k := 0) hrow u) (k := 1) v) 2
  have k3 : ∀ u v x, (((w2.setCell ⟨w.heap.size, 0, none⟩ u).setCell ⟨w.heap.size, 1, none⟩ v).setCell ⟨w.heap.size, 2, none⟩ x).frozen? ⟨w.heap.size, 3, none⟩ = false := fun u v x => Lib.frozen_of_heap (setCell_row (setCell_row (setCell_row (k := 0) hrow u) (k := 1) v) (k := 2) x) 3
  have hend := setCell_row (setCell_row (setCell_row (setCell_row (k := 0) hrow (.string s)) (k := 1) (.int .i64 vk)) (k := 2) (.int .i64 vn)) (k := 3) (.string vt)
  obtain ⟨e0, e1, e2, e3⟩ := cells4_of hend
  have HP : Hid (TookF R w ⟨s, ⟨vk, vn, vt⟩⟩ r2 (.returned (.agg #[.string s, .int .i64 vk, .int .i64 vn, .string vt])) ((((w2.setCell ⟨w.heap.size, 0, none⟩ (.string s)).setCell ⟨w.heap.size, 1, none⟩ (.int .i64 vk)).setCell ⟨w.heap.size, 2, none⟩ (.int .i64 vn)).setCell ⟨w.heap.size, 3, none⟩ (.string vt))) := Lib.hid (by
    have ho : ∀ k, k ≠ w.heap.size → ((((w2.setCell ⟨w.heap.size, 0, none⟩ (.string s)).setCell ⟨w.heap.size, 1, none⟩ (.int .i64 vk)).setCell ⟨w.heap.size, 2, none⟩ (.int .i64 vn)).setCell ⟨w.heap.size, 3, none⟩ (.string vt)).heap[k]? = w2.heap[k]? := fun k hk => by
      rw [heap_setCell_other _ _ _ _ hk, heap_setCell_other _ _ _ _ hk, heap_setCell_other _ _ _ _ hk, heap_setCell_other _ _ _ _ hk]
    refine ⟨rfl, (ho R (by have := HR.out; omega)).trans h3, ⟨hk.os.trans HB0.out.os, hk.tape.trans HB0.out.tape, hk.output.trans HB0.out.output, by simpa [World.setCell] using Nat.le_trans HB0.out.size hk.size, fun b hb hne => ?_⟩⟩
    rw [ho b (by omega), hk.block b (Nat.lt_of_lt_of_le hb HB0.out.size) hne, HB0.out.block b hb])
  clear h3 h4 hk hrow hend C2
  go_wp2_with fail
  refine bodyPost_ret (v := .agg #[.string s, .int .i64 vk, .int .i64 vn, .string vt]) (by simp [results, Tryd.results65, go_sem, e0, e1, e2, e3]) rfl ?_
  exact HP.out
theorem rfield_enters : ∀ args w, (callFunc 65 args).run Tryd.prog w = .ok (.enter 65 args) w := enters_of Tryd.func65 (by kernel_rfl) rfl
def TookFs (R : Nat) (w : World) (L : List Fld) (r' : Rs) (e : Ending) (w' : World) : Prop := ∃ v, e = .returned v ∧ w'.ownsRow w.heap.size 56 4 v L.length (fCells L) ∧ RdAt R r' w' ∧ Kr R w w'
set_option maxHeartbeats 2000000 in
set_option maxRecDepth 100000 in
theorem flds_read (R : Nat) (r : Rs) (w : World) (G : Gp w) (hg : gN ≤ R) (h : RdAt R r w) (hl : r.rest.length ≤ 281474976710656) :
    Calls Tryd.prog 64 #[.pointer (some ⟨R, 0, none⟩), .func (.func 65) #[.pointer (some ⟨R, 0, none⟩)] #[]] w (TookFs R w (severalR fldR r).1 (severalR fldR r).2) := by
  have hlt : (numR 1 r).1 < 256 := numR_lt 1 r
  have CN := Lib.hid (rnum_any R r 1 w h hl (by omega))
  rw [i64_small (Nat.lt_trans hlt (by decide))] at CN
  have hrl := numR_rest 1 r
  have HE : Hid (severalR fldR r = manyR fldR (numR 1 r).1 (numR 1 r).2) := Lib.hid rfl
  rw [HE.out]
  generalize (numR 1 r).1 = n at *
  generalize (numR 1 r).2 = r1 at *
  have hpe := rfield_enters
  have HLT := Lib.hid hlt
  have HL : Hid (r1.rest.length ≤ 281474976710656) := Lib.hid (Nat.le_trans hrl hl)
  have hRw := h.lt
  have HRW := Lib.hid hRw
  have HG := Lib.hid G
  have HGR := Lib.hid hg
  clear h hl HE hlt hrl hRw G hg
  go_enter Tryd.func64, Tryd.ntmps64
  go_wp2_with fail
  refine CN.out.mono ?_
  rintro e w1 ⟨rfl, h1, h2⟩
  have H1 := Lib.hid h1
  have H2 := Lib.hid h2
  clear h1 h2 CN
  go_wp2_with fail
  go_loopw [5, 8] (fun lv i wr => ∃ (j : Nat) (done : List Fld) (rs : Rs), i = .int .i64 (j : Int) ∧ j ≤ n ∧ Hid (done.length = j ∧ manyR fldR n r1 = (done ++ (manyR fldR (n - j) rs).1, (manyR fldR (n - j) rs).2) ∧ rs.rest.length ≤ 281474976710656 ∧ RdAt R rs wr ∧ Kr R w wr ∧ wr.ownsRow w.heap.size 56 4 lv j (fCells done))) (fun _ i _ => n - (intOf i).toNat)
  case atStart => exact ⟨0, [], r1, rfl, Nat.zero_le _, Lib.hid ⟨rfl, by simp, HL.out, H1.out, H2.out, World.ownsRow_nil _ _ _ _⟩⟩
  case round =>
    obtain ⟨j, done, rs, rfl, hj, HI⟩ := hrel
    obtain ⟨d1, d2, d3, d4, d5, d6⟩ := HI.out
    by_cases hlt : j < n
    · have CP := Lib.hid (fld_read R rs wr (HG.out.kr d5 HGR.out) HGR.out d4 d3)
      have HST := Lib.hid (many_step d2 hlt)
      have HRS := Lib.hid (Nat.le_trans (fldR_rest rs) d3)
      generalize (fldR rs).1 = x at *
      generalize (fldR rs).2 = rs' at *
      obtain ⟨p, c, rfl⟩ := own_slice d6
      have HD := Lib.hid (And.intro d1 (And.intro d5 d6))
      have HLJ := Lib.hid hlt
      have hlt1 : (j : Int) < (n : Int) := by omega
      obtain ⟨wo, rfl⟩ : ∃ wo : World, wo = wr := ⟨_, rfl⟩
      clear d1 d2 d3 d4 d5 d6 hj hlt HI
      go_wp2_with fail
      refine CP.out.mono ?_
      rintro e w2 ⟨rfl, h3, h4⟩
      have hown : w2.ownsRow w.heap.size 56 4 (.slice p j c) j (fCells done) := own_same HD.out.2.2 (fun g hg => by
        have h9 := own_lt HD.out.2.2 hg
        exact h4.block g h9.2 (by have := HRW.out; omega))
      have hk2 := HD.out.2.1.trans h4
      obtain ⟨v5, w5, hr5, ho5, hb5, hn5, hs5, _⟩ := append_el (cs := [.string x.name, .int .i64 x.val.kind, .int .i64 x.val.n, .string x.val.text]) Tryd.underlying27 infoF rfl (by decide) hown rfl (fun u hu => by simp at hu; rcases hu with rfl | rfl | rfl | rfl <;> rfl) (by have := HLT.out; have := HLJ.out; omega) (by have := HLT.out; have := HLJ.out; unfold maxLen; omega) hk2.size
      have HR5 := Lib.hid hr5
      have HN : Hid ((done ++ [x]).length = j + 1 ∧ manyR fldR n r1 = ((done ++ [x]) ++ (manyR fldR (n - (j + 1)) rs').1, (manyR fldR (n - (j + 1)) rs').2) ∧ rs'.rest.length ≤ 281474976710656 ∧ RdAt R rs' w5 ∧ Kr R w w5 ∧ w5.ownsRow w.heap.size 56 4 v5 (j + 1) (fCells (done ++ [x]))) := Lib.hid
        ⟨by rw [List.length_append, HD.out.1]; rfl, HST.out, HRS.out, (hb5.block R HRW.out).trans h3, ⟨hb5.os.trans hk2.os, hb5.tape.trans hk2.tape, hb5.output.trans hk2.output, Nat.le_trans hk2.size (Nat.le_of_lt hs5), fun b hb hne => (hb5.block b hb).trans (hk2.block b hb hne)⟩, by
          have e : fCells (done ++ [x]) = fCells done ++ [.string x.name, .int .i64 x.val.kind, .int .i64 x.val.n, .string x.val.text] := by simp [fCells]
          rw [e]; exact ho5⟩
      clear h3 h4 hown hk2 hr5 ho5 hb5 hn5 hs5 CP
      go_wp2_with (at_builtin; refine wpList_append_run rfl _ _ _ _ rfl _ _ v5 w5 rfl rfl (fun ty => HR5.out ty) ?_)
      have hwj : wrap64 ((j : Int) + 1) = ((j + 1 : Nat) : Int) := by have := HLJ.out; have := HLT.out; unfold wrap64; omega
      go_roundw
      case rel => exact ⟨j + 1, done ++ [x], rs', congrArg _ hwj, HLJ.out, HN.out⟩
      case measure => rw [hwj]; have := HLJ.out; clear hwj; simp [intOf]; omega
    · obtain rfl : j = n := by omega
      have hlt1 : ¬ (j : Int) < (j : Int) := by omega
      rw [Nat.sub_self] at d2
      have e2 : manyR fldR j r1 = (done, rs) := by rw [d2]; simp [manyR]
      obtain ⟨p, c, rfl⟩ := own_slice d6
      have HF : Hid (TookFs R w (manyR fldR j r1).1 (manyR fldR j r1).2 (.returned (.slice p j c)) wr) := Lib.hid (by
        rw [e2]
        exact ⟨_, rfl, by rw [d1]; exact d6, d4, d5⟩)
      clear d1 d2 d3 d4 d5 d6 e2 HI
      go_wp2_with fail
      go_ret
      exact HF.out
end Go.Proofs.YtokjmgkoifakdaaDoor
namespace Go.Proofs.YtokjmgkoifakdaaDoor
set_option linter.unusedVariables false
open Go Go.RowKit Go.Shelf Pl
theorem textR_small (K : Nat) (r : Rs) : (textR K r).1.size < 256 ^ K := by
  have h1 := (takeR_len (numR K r).1 (numR K r).2).2
  have h2 := numR_lt K r
  have h3 : (textR K r).1.size = (takeR (numR K r).1 (numR K r).2).1.length := tx_size _
  omega
theorem manyR_all {α : Type} {f : Rs → α × Rs} {V : α → Prop} (hf : ∀ r, V (f r).1) : ∀ n r, ∀ x ∈ (manyR f n r).1, V x
  | 0, r, x, hx => by simp [manyR] at hx
  | n + 1, r, x, hx => by
    simp only [manyR, List.mem_cons] at hx
    rcases hx with rfl | hx
    · exact hf r
    · exact manyR_all hf n _ x hx
theorem vecs_ok (r : Rs) : VecsOk (severalR vecR r).1 := by
  refine ⟨?_, manyR_all (V := fun x : Vec => x.name.size ≤ Room ∧ x.v.length ≤ Room) (fun r => ?_) _ _⟩
  · unfold severalR; rw [manyR_len]; have := numR_lt 1 r; unfold Room; omega
  · have h1 := textR_small 1 r
    have h2 : (vecR r).1.v.length = (numR 1 (textR 1 r).2).1 := manyR_len _ _ _
    have h3 := numR_lt 1 (textR 1 r).2
    have h4 : (vecR r).1.name = (textR 1 r).1 := rfl
    rw [h4, h2]; unfold Room; omega
theorem val_small (r : Rs) : (valR r).1.text.size < 65536 := by
  unfold valR
  split
  · exact textR_small 2 _
  · show (0 : Nat) < _; omega
theorem flds_ok (r : Rs) : FldsOk (severalR fldR r).1 := by
  refine ⟨?_, manyR_all (V := fun x : Fld => x.name.size ≤ Room ∧ x.val.text.size ≤ Room) (fun r => ?_) _ _⟩
  · unfold severalR; rw [manyR_len]; have := numR_lt 1 r; unfold Room; omega
  · have h1 := textR_small 1 r
    have h3 := val_small (textR 1 r).2
    have h4 : (fldR r).1.name = (textR 1 r).1 := rfl
    have h5 : (fldR r).1.val = (valR (textR 1 r).2).1 := rfl
    rw [h4, h5]; unfold Room; omega
def DecYes (w : World) (a : Pt) (n : Int) (e : Ending) (w' : World) : Prop :=
  ∃ u f, e = .returned (.tuple #[.agg #[.int .i64 a.id, u, f], .int .i64 n, .int .i64 0]) ∧ VecsAt w' u a.vecs ∧ FldsAt w' f a.flds ∧ VecsOk a.vecs ∧ FldsOk a.flds ∧ Below w.heap.size w w'
def DecNo (w : World) (e : Ending) (w' : World) : Prop := e = .returned (.tuple #[.agg #[.int .i64 0, .slice none 0 0, .slice none 0 0], .int .i64 0, .int .i64 52]) ∧ Below w.heap.size w w'
def ptOf (s : ByteArray) : Pt := (ptR s.data.toList).1
def leftOf (s : ByteArray) : Rs := (ptR s.data.toList).2
theorem ptR_eq (l : List UInt8) : ptR l = (⟨i64N (numR 8 ⟨l, false⟩).1, (severalR vecR (numR 8 ⟨l, false⟩).2).1, (severalR fldR (severalR vecR (numR 8 ⟨l, false⟩).2).2).1⟩, (severalR fldR (severalR vecR (numR 8 ⟨l, false⟩).2).2).2) := by
  unfold ptR; rfl
theorem leftOf_le (s : ByteArray) : (leftOf s).rest.length ≤ s.size := by
  have h1 : (numR 8 ⟨s.data.toList, false⟩).2.rest.length ≤ s.data.toList.length := numR_rest 8 ⟨s.data.toList, false⟩
  have h4 : s.data.toList.length = s.size := ln s
  rw [h4] at h1
  unfold leftOf
  rw [ptR_eq]
  generalize (numR 8 ⟨s.data.toList, false⟩).2 = r1 at *
  have h2 := severalR_rest vecR_rest r1
  have h3 := severalR_rest fldR_rest (severalR vecR r1).2
  simp only
  exact Nat.le_trans h3 (Nat.le_trans h2 h1)
def zPt : Obj := .cells #[.int .i64 0, .slice none 0 0, .slice none 0 0] 29
def rdO (s : ByteArray) : Obj := .cells #[.string s, .bool false] 114
/-- Both rows are read, and the point made of them. -/
structure Half (w : World) (s : ByteArray) (R Q : Nat) (u f : Value) (W : World) : Prop where
  row : W.heap[Q]? = some (.cells #[.int .i64 (ptOf s).id, u, f] 29 (0, 0))
  vecs : ∀ W' : World, W.heap.size ≤ W'.heap.size → (∀ k, w.heap.size + 2 ≤ k → k < W.heap.size → W'.heap[k]? = W.heap[k]?) → VecsAt W' u (ptOf s).vecs
  flds : ∀ W' : World, W.heap.size ≤ W'.heap.size → (∀ k, w.heap.size + 2 ≤ k → k < W.heap.size → W'.heap[k]? = W.heap[k]?) → FldsAt W' f (ptOf s).flds
  rd : RdAt R (leftOf s) W
  below : Below w.heap.size w W
  zero : W.heap[w.heap.size]? = some zPt
  hR : R = w.heap.size + 1
  hQ : w.heap.size + 2 ≤ Q
theorem half_made {w W2 w3 w4 : World} {s : ByteArray} {R Q : Nat} {i : Int} {u : Value} {L : List Vec} {f : Value} {F : List Fld} {r3 : Rs} (hi : (ptOf s).id = i) (hL : (ptOf s).vecs = L) (hF : (ptOf s).flds = F) (hr : leftOf s = r3) (hR : R = w.heap.size + 1) (hQ : w.heap.size + 2 ≤ Q)
    (hQ2 : Q < W2.heap.size) (hw2 : W2.heap[Q]? = some (.cells #[.int .i64 i, .slice none 0 0, .slice none 0 0] 29 (0, 0))) (hz : W2.heap[w.heap.size]? = some zPt) (hb : Below w.heap.size w W2)
    (h1 : VRow W2.heap.size w3 u L) (h2 : Kr R W2 w3) (h3 : w4.ownsRow (w3.setCell ⟨Q, 1, none⟩ u).heap.size 56 4 f F.length (fCells F)) (h4 : RdAt R r3 w4) (h5 : Kr R (w3.setCell ⟨Q, 1, none⟩ u) w4) : Half w s R Q u f (w4.setCell ⟨Q, 2, none⟩ f) := by
  have s3 : (w3.setCell ⟨Q, 1, none⟩ u).heap.size = w3.heap.size := by simp [World.setCell]
  have s4 : (w4.setCell ⟨Q, 2, none⟩ f).heap.size = w4.heap.size := by simp [World.setCell]
  have n2 : W2.heap.size ≤ w3.heap.size := h2.size
  have n3 : w3.heap.size ≤ w4.heap.size := by have := h5.size; omega
  have o3 : ∀ k, k ≠ Q → (w3.setCell ⟨Q, 1, none⟩ u).heap[k]? = w3.heap[k]? := fun k hk => heap_setCell_other _ _ _ _ hk
  have o4 : ∀ k, k ≠ Q → (w4.setCell ⟨Q, 2, none⟩ f).heap[k]? = w4.heap[k]? := fun k hk => heap_setCell_other _ _ _ _ hk
  have r3q : w3.heap[Q]? = _ := (h2.block Q hQ2 (by omega)).trans hw2
  have r3q' := setCell_row (k := 1) r3q u
  have r4q : w4.heap[Q]? = _ := (h5.block Q (by omega) (by omega)).trans r3q'
  have r4q' := setCell_row (k := 2) r4q f
  have kept : ∀ k, k < W2.heap.size → k ≠ R → k ≠ Q → (w4.setCell ⟨Q, 2, none⟩ f).heap[k]? = W2.heap[k]? := fun k hk hkR hkQ => by
    rw [o4 k hkQ, h5.block k (by omega) hkR, o3 k hkQ, h2.block k hk hkR]
  refine ⟨?_, ?_, ?_, ?_, ?_, ?_, hR, hQ⟩
  · rw [hi]; exact r4q'
  · intro W' hs' hk'
    rw [hL]
    exact ((h1.kept (w' := w4.setCell ⟨Q, 2, none⟩ f) (by omega) (fun g hg1 hg2 => by rw [o4 g (by omega), h5.block g (by omega) (by omega), o3 g (by omega)])).kept hs' (fun g hg1 hg2 => hk' g (by omega) hg2)).at
  · intro W' hs' hk'
    rw [hF]
    exact own_flds (own_same (own_same h3 (w' := w4.setCell ⟨Q, 2, none⟩ f) (fun g hg => by have h9 := own_lt h3 hg; exact o4 g (by omega))) (fun g hg => by have h9 := own_lt h3 hg; exact hk' g (by omega) (by omega)))
  · rw [hr]; exact (o4 R (by omega)).trans h4
  · refine ⟨?_, ?_, ?_, by have := hb.size; omega, fun k hk => ?_⟩
    · exact (h5.os.trans h2.os).trans hb.os
    · exact (h5.tape.trans h2.tape).trans hb.tape
    · exact (h5.output.trans h2.output).trans hb.output
    · rw [kept k (by have := hb.size; omega) (by omega) (by omega)]; exact hb.block k hk
  · rw [kept _ (by omega) (by omega) (by omega)]; exact hz
/-- Three cells of the result stored. -/
theorem set_res {w W : World} (hz : W.heap[w.heap.size]? = some zPt) (hb : Below w.heap.size w W) (a b c : Value) :
    Below w.heap.size w (((W.setCell ⟨w.heap.size, 0, none⟩ a).setCell ⟨w.heap.size, 1, none⟩ b).setCell ⟨w.heap.size, 2, none⟩ c) ∧
    (∀ k, k ≠ w.heap.size → (((W.setCell ⟨w.heap.size, 0, none⟩ a).setCell ⟨w.heap.size, 1, none⟩ b).setCell ⟨w.heap.size, 2, none⟩ c).heap[k]? = W.heap[k]?) ∧
    (((W.setCell ⟨w.heap.size, 0, none⟩ a).setCell ⟨w.heap.size, 1, none⟩ b).setCell ⟨w.heap.size, 2, none⟩ c).heap.size = W.heap.size ∧
    ((((W.setCell ⟨w.heap.size, 0, none⟩ a).setCell ⟨w.heap.size, 1, none⟩ b).setCell ⟨w.heap.size, 2, none⟩ c).cell? ⟨w.heap.size, 0, none⟩ = some a ∧ (((W.setCell ⟨w.heap.size, 0, none⟩ a).setCell ⟨w.heap.size, 1, none⟩ b).setCell ⟨w.heap.size, 2, none⟩ c).cell? ⟨w.heap.size, 1, none⟩ = some b ∧ (((W.setCell ⟨w.heap.size, 0, none⟩ a).setCell ⟨w.heap.size, 1, none⟩ b).setCell ⟨w.heap.size, 2, none⟩ c).cell? ⟨w.heap.size, 2, none⟩ = some c) := by
  refine ⟨((hb.setCell (p := ⟨w.heap.size, 0, none⟩) (Nat.le_refl _) _).setCell (p := ⟨w.heap.size, 1, none⟩) (Nat.le_refl _) _).setCell (p := ⟨w.heap.size, 2, none⟩) (Nat.le_refl _) _, fun k hk => ?_, by simp [World.setCell], ?_⟩
  · rw [heap_setCell_other _ _ _ _ hk, heap_setCell_other _ _ _ _ hk, heap_setCell_other _ _ _ _ hk]
  · unfold zPt at hz
    exact cells3_of (setCell_row (setCell_row (setCell_row (k := 0) hz a) (k := 1) b) (k := 2) c)
end Go.Proofs.YtokjmgkoifakdaaDoor
namespace Go.Proofs.YtokjmgkoifakdaaDoor
set_option linter.unusedVariables false
open Go Go.RowKit Go.Shelf Pl
def DecP (w : World) (s : ByteArray) (e : Ending) (w' : World) : Prop :=
  (((leftOf s).short = true ∨ ptMay (ptOf s) = false) ∧ DecNo w e w') ∨ ((leftOf s).short = false ∧ ptMay (ptOf s) = true ∧ DecYes w (ptOf s) ((s.size - (leftOf s).rest.length : Nat) : Int) e w')
set_option maxHeartbeats 4000000 in
set_option maxRecDepth 100000 in
theorem decode_any (s : ByteArray) (w : World) (G : Gp w) (hs : s.size ≤ 281474976710656) :
    Calls Tryd.prog 20 #[.string s] w (DecP w s) := by
  obtain ⟨w0, hw0⟩ : ∃ w0, w0 = (w.alloc zPt).alloc (rdO s) := ⟨_, rfl⟩
  have hb0 : Below w.heap.size w w0 := by rw [hw0]; exact (fresh_alloc w _).alloc (by simp) _
  have hz0 : w0.heap[w.heap.size]? = some zPt := by rw [hw0, heap_old _ _ (by simp)]; exact heap_last w _
  have hr0 : RdAt (w.heap.size + 1) ⟨s.data.toList, false⟩ w0 := by
    have h := heap_last (w.alloc zPt) (rdO s)
    rw [show (w.alloc zPt).heap.size = w.heap.size + 1 by simp] at h
    unfold RdAt
    rw [hw0, tx_of]; exact h
  have hsz0 : w0.heap.size = w.heap.size + 2 := by rw [hw0]; simp
  have hgN : gN ≤ w.heap.size + 1 := Nat.le_succ_of_le G.size
  have hlen : s.data.toList.length ≤ 281474976710656 := by rw [ln]; exact hs
  have CN := Lib.hid (rnum_any (w.heap.size + 1) ⟨s.data.toList, false⟩ 8 w0 hr0 hlen (by omega))
  have hl1 := numR_rest 8 ⟨s.data.toList, false⟩
  simp only at hl1
  have CV := Lib.hid (fun (W : World) (h : RdAt (w.heap.size + 1) (numR 8 ⟨s.data.toList, false⟩).2 W) => vecs_read (w.heap.size + 1) (numR 8 ⟨s.data.toList, false⟩).2 W h (Nat.le_trans hl1 hlen))
  have hl2 := severalR_rest vecR_rest (numR 8 ⟨s.data.toList, false⟩).2
  have CF := Lib.hid (fun (W : World) (GW : Gp W) (h : RdAt (w.heap.size + 1) (severalR vecR (numR 8 ⟨s.data.toList, false⟩).2).2 W) => flds_read (w.heap.size + 1) (severalR vecR (numR 8 ⟨s.data.toList, false⟩).2).2 W GW hgN h (Nat.le_trans hl2 (Nat.le_trans hl1 hlen)))
  have HP : Hid ((ptOf s).id = i64N (numR 8 ⟨s.data.toList, false⟩).1 ∧ (ptOf s).vecs = (severalR vecR (numR 8 ⟨s.data.toList, false⟩).2).1 ∧ (ptOf s).flds = (severalR fldR (severalR vecR (numR 8 ⟨s.data.toList, false⟩).2).2).1 ∧ leftOf s = (severalR fldR (severalR vecR (numR 8 ⟨s.data.toList, false⟩).2).2).2) := Lib.hid (by
    unfold ptOf leftOf
    rw [ptR_eq]
    exact ⟨rfl, rfl, rfl, rfl⟩)
  have HOK : Hid (VecsOk (ptOf s).vecs ∧ FldsOk (ptOf s).flds) := Lib.hid (by rw [HP.out.2.1, HP.out.2.2.1]; exact ⟨vecs_ok _, flds_ok _⟩)
  generalize (severalR fldR (severalR vecR (numR 8 ⟨s.data.toList, false⟩).2).2).1 = FL at *
  generalize (severalR fldR (severalR vecR (numR 8 ⟨s.data.toList, false⟩).2).2).2 = r3 at *
  generalize (severalR vecR (numR 8 ⟨s.data.toList, false⟩).2).1 = VL at *
  generalize (severalR vecR (numR 8 ⟨s.data.toList, false⟩).2).2 = r2 at *
  generalize i64N (numR 8 ⟨s.data.toList, false⟩).1 = id0 at *
  generalize (numR 8 ⟨s.data.toList, false⟩).2 = r1 at *
  have HB0 := Lib.hid hb0
  have HZ0 := Lib.hid hz0
  have HR0 := Lib.hid hr0.lt
  have HSZ := Lib.hid hsz0
  have HG := Lib.hid G
  have HGN := Lib.hid hgN
  have HLE := Lib.hid (leftOf_le s)
  have HSS := Lib.hid hs
  have HW0 := Lib.hid hw0
  unfold zPt rdO at hw0
  rw [hw0] at CN
  clear hb0 hz0 hr0 hsz0 hgN hlen hl1 hl2 G hs hw0
  go_enter Tryd.func20, Tryd.ntmps20
  go_wp2_with fail
  refine CN.out.mono ?_
  rintro e w1 ⟨rfl, h1, h2⟩
  have h2' : Kr (w.heap.size + 1) w0 w1 := by rw [HW0.out]; exact h2
  obtain ⟨W2, hW2⟩ : ∃ W2, W2 = w1.alloc (.cells #[.int .i64 id0, .slice none 0 0, .slice none 0 0] 29) := ⟨_, rfl⟩
  have hq : w1.heap.size < W2.heap.size := by rw [hW2]; simp
  have hb2 : Below w1.heap.size w1 W2 := by rw [hW2]; exact fresh_alloc _ _
  have hrow2 : W2.heap[w1.heap.size]? = some (.cells #[.int .i64 id0, .slice none 0 0, .slice none 0 0] 29 (0, 0)) := by rw [hW2]; exact heap_last _ _
  have hbw2 : Below w.heap.size w W2 := (HB0.out.trans (h2'.below (Nat.le_succ _) HB0.out.size)).trans (hb2.mono (Nat.le_trans HB0.out.size h2'.size))
  have hz2 : W2.heap[w.heap.size]? = some zPt := by
    rw [hb2.block _ (by have := h2'.size; have := HSZ.out; omega), h2'.block _ (by have := HSZ.out; omega) (by omega)]; exact HZ0.out
  have CV1 := Lib.hid (CV.out W2 (h1.fresh hb2))
  have HQ := Lib.hid hq
  have HROW2 := Lib.hid hrow2
  have HBW2 := Lib.hid hbw2
  have HZ2 := Lib.hid hz2
  have HQ1 : Hid (w.heap.size + 2 ≤ w1.heap.size) := Lib.hid (by have := h2'.size; have := HSZ.out; omega)
  rw [hW2] at CV1
  have HW2 := Lib.hid hW2
  clear h1 h2 h2' hq hb2 hrow2 hbw2 hz2 CN CV hW2
  go_wp2_with fail
  refine CV1.out.mono ?_
  rintro e w3 ⟨u, rfl, hv, h3, h4⟩
  obtain ⟨p1, c1, rfl⟩ := hv.form
  rw [← HW2.out] at hv h4
  have hrow3 := (h4.block w1.heap.size HQ.out (by have := HQ1.out; omega)).trans HROW2.out
  obtain ⟨d0, d1, d2⟩ := cells3_of hrow3
  have k1 : w3.frozen? ⟨w1.heap.size, 1, none⟩ = false := Lib.frozen_of_heap hrow3 1
  have HV := Lib.hid hv
  have H4 := Lib.hid h4
  have CF1 := Lib.hid (CF.out (w3.setCell ⟨w1.heap.size, 1, none⟩ (.slice p1 VL.length c1)) (HG.out.keep (by have := h4.size; have := HBW2.out.size; simp [World.setCell]; omega) (fun b hb => by
      rw [heap_setCell_other _ _ _ _ (by show b ≠ w1.heap.size; have := HGN.out; have := HQ1.out; omega), h4.block b (by have := HG.out.size; have := HBW2.out.size; omega) (by have := HGN.out; omega)]
      exact HBW2.out.block b (Nat.lt_of_lt_of_le hb HG.out.size))) ((heap_setCell_other _ _ _ _ (by show w.heap.size + 1 ≠ w1.heap.size; have := HQ1.out; omega)).trans h3))
  have hr3' := setCell_row (k := 1) hrow3 (.slice p1 VL.length c1)
  have HR3' := Lib.hid hr3'
  clear hv h3 h4 hrow3 CV1 CF hr3'
  go_wp2_with fail
  refine CF1.out.mono ?_
  rintro e w4 ⟨f, rfl, hf, h5, h6⟩
  obtain ⟨p2, c2, rfl⟩ := own_slice hf
  have hrow4 := (h6.block w1.heap.size (by have := HQ.out; have := H4.out.size; simp [World.setCell]; omega) (by have := HQ1.out; omega)).trans HR3'.out
  obtain ⟨e0, e1, e2⟩ := cells3_of hrow4
  have k2 : w4.frozen? ⟨w1.heap.size, 2, none⟩ = false := Lib.frozen_of_heap hrow4 2
  have HALF := Lib.hid (half_made HP.out.1 HP.out.2.1 HP.out.2.2.1 HP.out.2.2.2 rfl HQ1.out HQ.out HROW2.out HZ2.out HBW2.out HV.out H4.out hf h5 h6)
  have hq3 := cells3_of HALF.out.row
  obtain ⟨q0, q1, q2⟩ := hq3
  have hsh := HALF.out.rd.cells.2
  clear hf h5 h6 hrow4 CF1 d0 d1 d2 k1 HV H4 HR3' HROW2 HZ2 HBW2
  cases hshort : (leftOf s).short with
  | true =>
    rw [hshort] at hsh
    have hzero := HALF.out.zero
    obtain ⟨y1, _, _, y4, y5, y6⟩ := set_res hzero HALF.out.below (.int .i64 0) (.slice none 0 0) (.slice none 0 0)
    have HF : Hid (DecP w s (.returned (.tuple #[.agg #[.int .i64 0, .slice none 0 0, .slice none 0 0], .int .i64 0, .int .i64 52])) _) := Lib.hid (.inl ⟨.inl hshort, rfl, y1⟩)
    unfold zPt at hzero
    obtain ⟨z0, z1, z2⟩ := cells3_of hzero
    have g0 := Lib.frozen_of_heap hzero 0
    have g1 := fun v => Lib.frozen_of_heap (setCell_row (k := 0) hzero v) 1
    have g2 := fun u v => Lib.frozen_of_heap (setCell_row (k := 1) (setCell_row (k := 0) hzero u) v) 2
    clear hzero y1 hshort
    go_wp2_with fail
    refine bodyPost_ret (v := .tuple #[.agg #[.int .i64 0, .slice none 0 0, .slice none 0 0], .int .i64 0, .int .i64 52]) (by simp [results, Tryd.results20, go_sem, y4, y5, y6]) rfl ?_
    exact HF.out
  | false =>
    rw [hshort] at hsh
    have CM := Lib.hid (ptMay_any (ptOf s).id (.slice p1 VL.length c1) (.slice p2 FL.length c2) (ptOf s).vecs (ptOf s).flds _ (HG.out.fresh HALF.out.below) (HALF.out.vecs _ (Nat.le_refl _) (fun _ _ _ => rfl)) (HALF.out.flds _ (Nat.le_refl _) (fun _ _ _ => rfl)) HOK.out.1 HOK.out.2)
    go_wp2_with fail
    refine CM.out.mono ?_
    rintro e w6 ⟨rfl, hb6⟩
    have hzero := (hb6.block w.heap.size (by have := HALF.out.below.size; have := (Array.getElem?_eq_some_iff.1 HALF.out.zero).1; omega)).trans HALF.out.zero
    have hbw := HALF.out.below.trans (hb6.mono HALF.out.below.size)
    have HVF := Lib.hid (fun (W' : World) (h1 : w6.heap.size ≤ W'.heap.size) (h2 : ∀ k, w.heap.size + 2 ≤ k → k < w6.heap.size → W'.heap[k]? = w6.heap[k]?) => And.intro (HALF.out.vecs W' (Nat.le_trans hb6.size h1) (fun k hk1 hk2 => (h2 k hk1 (Nat.lt_of_lt_of_le hk2 hb6.size)).trans (hb6.block k hk2))) (HALF.out.flds W' (Nat.le_trans hb6.size h1) (fun k hk1 hk2 => (h2 k hk1 (Nat.lt_of_lt_of_le hk2 hb6.size)).trans (hb6.block k hk2))))
    have hrow6 := (hb6.block _ (Array.getElem?_eq_some_iff.1 HALF.out.row).1).trans HALF.out.row
    have hrd6 := HALF.out.rd.fresh hb6
    clear hb6 CM q0 q1 q2 hsh
    cases hmay : ptMay (ptOf s) with
    | false =>
      obtain ⟨y1, _, _, y4, y5, y6⟩ := set_res hzero hbw (.int .i64 0) (.slice none 0 0) (.slice none 0 0)
      have HF : Hid (DecP w s (.returned (.tuple #[.agg #[.int .i64 0, .slice none 0 0, .slice none 0 0], .int .i64 0, .int .i64 52])) _) := Lib.hid (.inl ⟨.inr hmay, rfl, y1⟩)
      unfold zPt at hzero
      obtain ⟨z0, z1, z2⟩ := cells3_of hzero
      have g0 := Lib.frozen_of_heap hzero 0
      have g1 := fun v => Lib.frozen_of_heap (setCell_row (k := 0) hzero v) 1
      have g2 := fun u v => Lib.frozen_of_heap (setCell_row (k := 1) (setCell_row (k := 0) hzero u) v) 2
      clear hzero y1 hshort hmay hbw hrow6 hrd6
      go_wp2_with fail
      refine bodyPost_ret (v := .tuple #[.agg #[.int .i64 0, .slice none 0 0, .slice none 0 0], .int .i64 0, .int .i64 52]) (by simp [results, Tryd.results20, go_sem, y4, y5, y6]) rfl ?_
      exact HF.out
    | true =>
      obtain ⟨q0, q1, q2⟩ := cells3_of hrow6
      have hs0 := hrd6.cells.1
      have hts : (tx (leftOf s).rest).size = (leftOf s).rest.length := tx_size _
      obtain ⟨tl, htl⟩ : ∃ tl, tl = tx (leftOf s).rest := ⟨_, rfl⟩
      rw [← htl] at hs0 hts
      obtain ⟨N, hN⟩ : ∃ N : Nat, N = s.size - (leftOf s).rest.length := ⟨_, rfl⟩
      have hsub : IntKind.i64.wrap ((s.size : Int) - (tl.size : Int)) = (N : Int) := by
        have := HLE.out
        have := HSS.out
        rw [hts, show (s.size : Int) - ((leftOf s).rest.length : Int) = (N : Int) by omega]
        exact IntWalk.i64_in _ (by omega)
      obtain ⟨y1, y2, y3, y4, y5, y6⟩ := set_res (w := w) (W := w6) hzero hbw (.int .i64 (ptOf s).id) (.slice p1 VL.length c1) (.slice p2 FL.length c2)
      obtain ⟨w7, hw7⟩ : ∃ w7, w7 = (((w6.setCell ⟨w.heap.size, 0, none⟩ (.int .i64 (ptOf s).id)).setCell ⟨w.heap.size, 1, none⟩ (.slice p1 VL.length c1)).setCell ⟨w.heap.size, 2, none⟩ (.slice p2 FL.length c2)).drew := ⟨_, rfl⟩
      have HF : Hid (DecP w s (.returned (.tuple #[.agg #[.int .i64 (ptOf s).id, .slice p1 VL.length c1, .slice p2 FL.length c2], .int .i64 (N : Int), .int .i64 0])) w7) := Lib.hid (.inr ⟨hshort, hmay, _, _, by rw [← hN], (HVF.out w7 (by rw [hw7]; exact Nat.le_of_eq y3.symm) (fun k hk1 hk2 => by rw [hw7]; exact y2 k (by omega))).1, (HVF.out w7 (by rw [hw7]; exact Nat.le_of_eq y3.symm) (fun k hk1 hk2 => by rw [hw7]; exact y2 k (by omega))).2, HOK.out.1, HOK.out.2, by rw [hw7]; exact y1.drew⟩)
      have v4 : w7.cell? ⟨w.heap.size, 0, none⟩ = some (.int .i64 (ptOf s).id) := by rw [hw7]; exact y4
      have v5 : w7.cell? ⟨w.heap.size, 1, none⟩ = some (.slice p1 VL.length c1) := by rw [hw7]; exact y5
      have v6 : w7.cell? ⟨w.heap.size, 2, none⟩ = some (.slice p2 FL.length c2) := by rw [hw7]; exact y6
      have HW7 := Lib.hid hw7
      unfold zPt at hzero
      obtain ⟨z0, z1, z2⟩ := cells3_of hzero
      have g0 := Lib.frozen_of_heap hzero 0
      have g1 := fun v => Lib.frozen_of_heap (setCell_row (k := 0) hzero v) 1
      have g2 := fun u v => Lib.frozen_of_heap (setCell_row (k := 1) (setCell_row (k := 0) hzero u) v) 2
      clear hzero y1 y2 y3 y4 y5 y6 hw7 hshort hmay hbw hrow6 hrd6 hts htl hN
      go_wp2_with fail
      go_region
      rw [← HW7.out]
      go_wp2_with fail
      refine bodyPost_ret (v := .tuple #[.agg #[.int .i64 (ptOf s).id, .slice p1 VL.length c1, .slice p2 FL.length c2], .int .i64 (N : Int), .int .i64 0]) (by simp [results, Tryd.results20, go_sem, v4, v5, v6]) rfl ?_
      exact HF.out
end Go.Proofs.YtokjmgkoifakdaaDoor
namespace Go.Proofs.YtokjmgkoifakdaaDoor
set_option linter.unusedVariables false
open Go Go.RowKit Go.Shelf Pl
/-- A point in memory. -/
def PtIn (w : World) (p : Value) (a : Pt) : Prop :=
  ∃ u x, p = .agg #[.int .i64 a.id, u, x] ∧ VecsAt w u a.vecs ∧ FldsAt w x a.flds ∧ VecsOk a.vecs ∧ FldsOk a.flds
theorem PtIn.below {w w' : World} {p : Value} {a : Pt} (h : PtIn w p a) (g : Below w.heap.size w w') : PtIn w' p a := by
  obtain ⟨u, x, rfl, h1, h2, h3, h4⟩ := h
  exact ⟨u, x, rfl, h1.below g, h2.below g, h3, h4⟩
def EncV (a : Pt) : Value := if ptMay a then .tuple #[.string ⟨(bPt a).toArray⟩, .int .i64 0] else notMay
theorem enc_in (W : World) (G : Gp W) (p : Value) (a : Pt) (h : PtIn W p a) :
    Calls Tryd.prog 18 #[p] W fun e w' => e = .returned (EncV a) ∧ Below W.heap.size W w' := by
  obtain ⟨u, x, rfl, h1, h2, h3, h4⟩ := h
  unfold EncV
  cases hm : ptMay a
  · rw [if_neg (by simp)]; exact encode_no a.id u x a.vecs a.flds W G h1 h2 h3 h4 hm
  · rw [if_pos rfl]; exact encode_yes a.id u x a.vecs a.flds W G h1 h2 h3 h4 hm
end Go.Proofs.YtokjmgkoifakdaaDoor
