/- Rows of texts; what a disk's names are. Conditions: those that each theorem names. -/
import Derived.Test.YtkbdokakoapooaaGreatDoorRfBoth
namespace Go.Proofs.YtkbdokakoapooaaGreatDoor
set_option linter.unusedVariables false
open Go.RowKit Dk
/-- A row of texts that one may read. -/
def TxR (w : World) (v : Value) (L : List Nm) : Prop :=
  (L = [] ∧ ∃ p c, v = .slice p 0 c) ∨ ∃ g c, v = .slice (some ⟨g, 0, none⟩) L.length c ∧ g < w.heap.size ∧ ∀ W : World, W.heap[g]? = w.heap[g]? → ∀ j (h : j < L.length), W.cell? ⟨g, j, none⟩ = some (.string L[j])
theorem TxR.below {w w' : World} {v : Value} {L : List Nm} (h : TxR w v L) (b : Below w.heap.size w w') : TxR w' v L := by
  rcases h with h | ⟨g, c, rfl, hg, hc⟩
  · exact .inl h
  · exact .inr ⟨g, c, rfl, Nat.lt_of_lt_of_le hg b.size, fun W hW => hc W (hW.trans (b.block g hg))⟩
theorem TxR.form {w : World} {v : Value} {L : List Nm} (h : TxR w v L) : ∃ p c, v = .slice p L.length c := by
  rcases h with ⟨rfl, p, c, rfl⟩ | ⟨g, c, rfl, hg, hc⟩
  · exact ⟨p, c, rfl⟩
  · exact ⟨_, c, rfl⟩
theorem TxR.cell {w : World} {p : Option Addr} {n c : Nat} {L : List Nm} (h : TxR w (.slice p n c) L) {j : Nat} (hj : j < L.length) : ∃ g, p = some ⟨g, 0, none⟩ ∧ w.cell? ⟨g, j, none⟩ = some (.string L[j]) := by
  rcases h with ⟨rfl, _⟩ | ⟨g, c', e, hg, hc⟩
  · cases hj
  · injection e with e1 e2 e3
    exact ⟨g, e1, hc w rfl j hj⟩
theorem txR_of {w : World} {base : Nat} {v : Value} {L : List Nm} (h : w.ownsRow base 9 1 v L.length (L.map fun s => .string s)) : TxR w v L := by
  rcases h.2 with ⟨rfl, h0⟩ | ⟨g, cap, cur, rfl, hb, hg, h1, h2, h3, h4⟩
  · exact .inl ⟨List.length_eq_zero_iff.mp h0, none, 0, rfl⟩
  · refine .inr ⟨g, cap, rfl, (Array.getElem?_eq_some_iff.1 hg).1, fun W hW j hj => ?_⟩
    have hw := hW.trans hg
    have e : cur[j]? = some (.string L[j]) := by
      have : (L.map fun s => Value.string s)[j]? = some (.string L[j]) := by simp [hj]
      rw [← this, ← h4, List.getElem?_take, if_pos (by omega), Array.getElem?_toList]
    simp [World.cell?, hw, e]
theorem tx_cells (L : List Nm) : txCells L = L.map fun s => .string s := by
  unfold txCells
  induction L with
  | nil => rfl
  | cons x r ih => rw [List.flatMap_cons, ih]; rfl
section
variable {w0 : World} {A B : Nat} {D : DSt} {M : RSt} {k : Nat} {φ : Nat → Nat}
variable {w : World}
theorem Two.sizes {Y : Nat → Prop} (h : Two w0 A B Y D M w) : ∀ s ∈ D.names.map (fun p => p.1), s.size ≤ maxLen := by
  obtain ⟨X, h1, _, _⟩ := h
  intro s hs
  obtain ⟨p, hp, rfl⟩ := List.mem_map.1 hs
  exact (h1.ok.named p hp).1
theorem Two.made5 {Y : Nat → Prop} (h : Two w0 A B Y D M w) : w.cell? ⟨B, 5, none⟩ = some (.int .i64 M.made) := by
  obtain ⟨X, _, ⟨fv, nv, lv, ov, pv, cs, h⟩, _⟩ := h
  exact h.cells.2.2.2
theorem text_same (s : ByteArray) : (!(s.toList == s.toList)) = false := by simp
end
end Go.Proofs.YtkbdokakoapooaaGreatDoor
