/- payload's Get. Conditions: those that each theorem names. -/
import Derived.Test.YtfppemgagifmpaaDoorPlGt
namespace Go.Proofs.YtfppemgagifmpaaDoor
set_option linter.unusedVariables false
open Go Go.RowKit Go.Shelf Pl
/-- The place of the first field of a name, behind k; -1: there is none. -/
def idxL (L : List Fld) (s : Nm) (k : Nat) : Int :=
  match (L.drop k).findIdx? (fun x => x.name.toList == s.toList) with
    | some i => ((k + i : Nat) : Int)
    | none => -1
theorem idx_hit {L : List Fld} {k : Nat} {x : Fld} {s : Nm} (hx : L[k]? = some x) (e : (x.name.toList == s.toList) = true) : idxL L s k = k := by
  have hk : k < L.length := (List.getElem?_eq_some_iff.1 hx).1
  have e2 := (List.getElem?_eq_some_iff.1 hx).2
  unfold idxL
  rw [List.drop_eq_getElem_cons hk, e2, List.findIdx?_cons, e]
  rfl
theorem idx_miss {L : List Fld} {k : Nat} {x : Fld} {s : Nm} (hx : L[k]? = some x) (e : (x.name.toList == s.toList) = false) : idxL L s k = idxL L s (k + 1) := by
  have hk : k < L.length := (List.getElem?_eq_some_iff.1 hx).1
  have e2 := (List.getElem?_eq_some_iff.1 hx).2
  unfold idxL
  rw [List.drop_eq_getElem_cons hk, e2, List.findIdx?_cons, e]
  cases (L.drop (k + 1)).findIdx? (fun x => x.name.toList == s.toList) with
  | none => rfl
  | some i =>
    show ((k + (i + 1) : Nat) : Int) = ((k + 1 + i : Nat) : Int)
    omega
theorem setCell_at {w : World} {g k : Nat} {cs : Array Value} {t : TypeId} {m : Nat × Nat} (h : w.heap[g]? = some (.cells cs t m)) (v : Value) : (w.setCell ⟨g, k, none⟩ v).heap[g]? = some (.cells (cs.setIfInBounds k v) t m) := by
  simp [World.setCell, h, Array.getElem?_modify]
theorem set3 {w0 w : World} {g : Nat} {a b c : Value} {T : TypeId} (h : w.heap[g]? = some (.cells #[a, b, c] T (0, 0))) (hb : Below w0.heap.size w0 w) (hg : w0.heap.size ≤ g) (x y z : Value) :
    ((((w.setCell ⟨g, 0, none⟩ x).setCell ⟨g, 1, none⟩ y).setCell ⟨g, 2, none⟩ z).cell? ⟨g, 0, none⟩ = some x ∧ (((w.setCell ⟨g, 0, none⟩ x).setCell ⟨g, 1, none⟩ y).setCell ⟨g, 2, none⟩ z).cell? ⟨g, 1, none⟩ = some y ∧
      (((w.setCell ⟨g, 0, none⟩ x).setCell ⟨g, 1, none⟩ y).setCell ⟨g, 2, none⟩ z).cell? ⟨g, 2, none⟩ = some z) ∧ Below w0.heap.size w0 (((w.setCell ⟨g, 0, none⟩ x).setCell ⟨g, 1, none⟩ y).setCell ⟨g, 2, none⟩ z) :=
  ⟨cells3_of (setCell_at (setCell_at (setCell_at h x) y) z), ((hb.setCell (p := ⟨g, 0, none⟩) hg _).setCell (p := ⟨g, 1, none⟩) hg _).setCell (p := ⟨g, 2, none⟩) hg _⟩
theorem idx_get (L : List Fld) (s : Nm) : ∀ d k, k + d = L.length → (idxL L s k = -1 ∧ getL (L.drop k) s = none) ∨ ∃ (j : Nat) (h : j < L.length), idxL L s k = j ∧ getL (L.drop k) s = some (L[j]).val
  | 0, k, h => .inl ⟨by unfold idxL; rw [List.drop_of_length_le (by omega)]; rfl, by rw [List.drop_of_length_le (by omega)]; rfl⟩
  | d + 1, k, h => by
    have hk : k < L.length := by omega
    have hx : L[k]? = some L[k] := List.getElem?_eq_getElem hk
    cases hb : (L[k]).name.toList == s.toList with
    | true => exact .inr ⟨k, hk, idx_hit hx hb, getL_hit hx hb⟩
    | false =>
      rw [idx_miss hx hb, getL_miss hx hb]
      exact idx_get L s d (k + 1) (by omega)
end Go.Proofs.YtfppemgagifmpaaDoor
