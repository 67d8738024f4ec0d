/- The bytes of a point, as a plain function, and how many they are. Conditions: those that each theorem names. -/
import Derived.Test.YtfppemgagifmpaaDoorPlM
namespace Go.Proofs.YtfppemgagifmpaaDoor
set_option linter.unusedVariables false
open Go Go.RowKit Go.Shelf Pl
def u64N (n : Int) : Nat := (IntKind.u64.wrap n).toNat
def bVal (v : Val) : List UInt8 := if v.kind = 2 then fixL 1 2 ++ fixL 2 v.text.size ++ v.text.data.toList else fixL 1 v.kind.toNat ++ fixL (szT v.kind.toNat).1.toNat (u64N v.n)
def bInts (L : List Int) : List UInt8 := L.flatMap fun n => fixL 2 (n + 32768).toNat
def bVec (x : Vec) : List UInt8 := fixL 1 x.name.size ++ x.name.data.toList ++ fixL 1 x.v.length ++ bInts x.v
def bFld (x : Fld) : List UInt8 := fixL 1 x.name.size ++ x.name.data.toList ++ bVal x.val
def bPt (p : Pt) : List UInt8 := fixL 8 p.id.toNat ++ fixL 1 p.vecs.length ++ p.vecs.flatMap bVec ++ fixL 1 p.flds.length ++ p.flds.flatMap bFld
theorem rises_all : ∀ (ns : List Nm) (la : Nm), rises la ns = true → ∀ x ∈ ns, isName x = true
  | [], _, _, x, hx => by simp at hx
  | y :: r, la, h, x, hx => by
    unfold rises at h
    simp only [Bool.and_eq_true] at h
    rcases List.mem_cons.1 hx with rfl | hx
    · exact h.1
    · exact rises_all r y h.2.2 x hx
theorem name_size {x : Nm} (h : isName x = true) : x.size ≤ 32 := by
  unfold isName at h
  split at h
  · cases h
  · simp only [Bool.and_eq_true, decide_eq_true_eq] at h
    exact h.1
theorem outl_all {ns : List Nm} {a b : Nat} (h : outl ns a b = true) : ns.length ≤ b ∧ (∀ x ∈ ns, x.size ≤ 32) ∧ a ≤ ns.length := by
  unfold outl at h
  simp only [Bool.and_eq_true, decide_eq_true_eq] at h
  exact ⟨by omega, fun x hx => name_size (rises_all _ _ h.2.2 x hx), by omega⟩
structure PtIs (p : Pt) : Prop where
  id1 : 1 ≤ p.id
  id2 : p.id ≤ maxId
  nv : p.vecs.length ≤ 4
  nv1 : 1 ≤ p.vecs.length
  nf : p.flds.length ≤ 16
  vn : ∀ x ∈ p.vecs, x.name.size ≤ 32
  fn : ∀ x ∈ p.flds, x.name.size ≤ 32
  vv : ∀ x ∈ p.vecs, 1 ≤ x.v.length ∧ x.v.length ≤ 64 ∧ ∀ n ∈ x.v, -32768 ≤ n ∧ n ≤ 32767
  fv : ∀ x ∈ p.flds, valB x.val = true
theorem ptIs {p : Pt} (h : ptMay p = true) : PtIs p := by
  unfold ptMay ptOutl idB at h
  simp only [Bool.and_eq_true, decide_eq_true_eq, List.all_eq_true] at h
  obtain ⟨⟨⟨h1, h2⟩, h3, h4⟩, h5, h6⟩ := h
  have a3 := outl_all h3
  have a4 := outl_all h4
  unfold vNames at a3
  unfold fNames at a4
  rw [List.length_map] at a3 a4
  refine ⟨h1, h2, a3.1, a3.2.2, a4.1, fun x hx => a3.2.1 _ (List.mem_map.2 ⟨x, hx, rfl⟩), fun x hx => a4.2.1 _ (List.mem_map.2 ⟨x, hx, rfl⟩), fun x hx => ?_, h6⟩
  have h := h5 x hx
  unfold vecB partB at h
  simp only [Bool.and_eq_true, decide_eq_true_eq, List.all_eq_true] at h
  exact ⟨by omega, by omega, fun n hn => h.2.2 n hn⟩
theorem flat_le {α} (f : α → List UInt8) (M : Nat) : ∀ (L : List α), (∀ x ∈ L, (f x).length ≤ M) → (L.flatMap f).length ≤ L.length * M
  | [], _ => by simp
  | x :: r, h => by
    have h1 := h x (List.mem_cons_self ..)
    have h2 := flat_le f M r fun y hy => h y (List.mem_cons_of_mem _ hy)
    simp only [List.flatMap_cons, List.length_append, List.length_cons, Nat.add_mul, Nat.one_mul]
    omega
theorem bInts_len (L : List Int) : (bInts L).length = L.length * 2 := by
  unfold bInts
  induction L with
  | nil => rfl
  | cons x r ih => rw [List.flatMap_cons, List.length_append, ih, fixL_length, List.length_cons]; omega
theorem szT_le (k : Nat) : (szT k).1.toNat ≤ 8 := by
  unfold szT
  split <;> decide
theorem bVal_len {v : Val} (h : valB v = true) : (bVal v).length ≤ 300 := by
  unfold valB at h
  unfold bVal
  split at h
  · rename_i hk
    simp only [Bool.and_eq_true, decide_eq_true_eq] at h
    have ht := szT_text v.kind.toNat
    split
    · simp only [List.length_append, fixL_length, ← Lib.size_eq]
      omega
    · simp only [List.length_append, fixL_length]
      have := szT_le v.kind.toNat
      omega
  · cases h
theorem bVec_len {x : Vec} (h : x.name.size ≤ 32) (h2 : x.v.length ≤ 64) : (bVec x).length ≤ 170 := by
  unfold bVec
  simp only [List.length_append, fixL_length, ← Lib.size_eq, bInts_len]
  omega
theorem bFld_len {x : Fld} (h : x.name.size ≤ 32) (h2 : valB x.val = true) : (bFld x).length ≤ 340 := by
  unfold bFld
  simp only [List.length_append, fixL_length, ← Lib.size_eq]
  have := bVal_len h2
  omega
/-- What stands ahead of the k-th vector, of the k-th field. -/
def preV (p : Pt) (k : Nat) : List UInt8 := fixL 8 p.id.toNat ++ fixL 1 p.vecs.length ++ (p.vecs.take k).flatMap bVec
def preF (p : Pt) (k : Nat) : List UInt8 := fixL 8 p.id.toNat ++ fixL 1 p.vecs.length ++ p.vecs.flatMap bVec ++ fixL 1 p.flds.length ++ (p.flds.take k).flatMap bFld
theorem preV_len {p : Pt} (h : PtIs p) (k : Nat) : (preV p k).length ≤ 1000 := by
  unfold preV
  simp only [List.length_append, fixL_length]
  have h1 := flat_le bVec 170 (p.vecs.take k) fun x hx => bVec_len (h.vn x (List.mem_of_mem_take hx)) (h.vv x (List.mem_of_mem_take hx)).2.1
  have h2 : (p.vecs.take k).length ≤ 4 := by rw [List.length_take]; have := h.nv; omega
  have h3 : (p.vecs.take k).length * 170 ≤ 4 * 170 := Nat.mul_le_mul_right _ h2
  omega
theorem preF_len {p : Pt} (h : PtIs p) (k : Nat) : (preF p k).length ≤ 8000 := by
  unfold preF
  simp only [List.length_append, fixL_length]
  have h0 := preV_len h p.vecs.length
  unfold preV at h0
  rw [List.take_length] at h0
  simp only [List.length_append, fixL_length] at h0
  have h1 := flat_le bFld 340 (p.flds.take k) fun x hx => bFld_len (h.fn x (List.mem_of_mem_take hx)) (h.fv x (List.mem_of_mem_take hx))
  have h2 : (p.flds.take k).length ≤ 16 := by rw [List.length_take]; have := h.nf; omega
  have h3 : (p.flds.take k).length * 340 ≤ 16 * 340 := Nat.mul_le_mul_right _ h2
  omega
theorem preV_next {p : Pt} {k : Nat} {x : Vec} (h : p.vecs[k]? = some x) : preV p (k + 1) = preV p k ++ bVec x := by
  unfold preV
  rw [List.take_add_one, h]
  simp [List.flatMap_append]
theorem preF_next {p : Pt} {k : Nat} {x : Fld} (h : p.flds[k]? = some x) : preF p (k + 1) = preF p k ++ bFld x := by
  unfold preF
  rw [List.take_add_one, h]
  simp [List.flatMap_append]
theorem preF_all (p : Pt) : preF p p.flds.length = bPt p := by
  unfold preF bPt
  rw [List.take_length]
theorem preV_all (p : Pt) : preV p p.vecs.length ++ fixL 1 p.flds.length = preF p 0 := by
  unfold preF preV
  rw [List.take_length]
  simp
theorem bInts_next {L : List Int} {k : Nat} {n : Int} (h : L[k]? = some n) : bInts (L.take (k + 1)) = bInts (L.take k) ++ fixL 2 (n + 32768).toNat := by
  unfold bInts
  rw [List.take_add_one, h]
  simp [List.flatMap_append]
end Go.Proofs.YtfppemgagifmpaaDoor
