/- Rows of whole numbers in memory: whoever's they are, and one's own: appends, cells, stores. Conditions: those that each theorem names. -/
import Derived.Test.YtioidkbpjkcjeaaGreatDoorShelf
import Derived.Test.YtioidkbpjkcjeaaGreatDoorGaB
import Derived.WalkKit
import Derived.WalkSpells
import Derived.WalkLawsBesides
import Derived.Laws.Rows
import Derived.Lib.Hide
import Derived.OwnWalk
import Derived.Maps.AppendAt
namespace Go.Proofs.YtioidkbpjkcjeaaGreatDoor
set_option linter.unusedVariables false
open Go Go.RowKit
theorem wrap_s {n k : Nat} (h : n ≤ maxLen) (hk : k < n) : wrap64 ((k : Int) + 1) = ((k + 1 : Nat) : Int) := by
  unfold maxLen at h; unfold wrap64; omega
theorem int_less {n k : Nat} (h : k < n) : n - (intOf (.int .i64 ((k + 1 : Nat) : Int))).toNat < n - (intOf (.int .i64 (k : Int))).toNat := by
  simp only [intOf, Int.toNat_natCast]; omega
theorem all_no' {α} {L : List α} {p : α → Bool} {k : Nat} {c : α} (h : L[k]? = some c) (hp : p c = false) : L.all p = false := by
  rw [← Bool.not_eq_true, List.all_eq_true]
  intro h'
  rw [h' c (List.mem_of_getElem? h)] at hp
  cases hp
theorem all_next' {α} {L : List α} {p : α → Bool} {k : Nat} {c : α} (h : L[k]? = some c) (ha : (L.take k).all p = true) (hp : p c = true) : (L.take (k + 1)).all p = true := by
  rw [List.take_add_one, h, List.all_append, ha]; simp [hp]
/-- A row of whole numbers of one kind. -/
def KAt (K : IntKind) (w : World) (v : Value) (L : List Int) : Prop :=
  (L = [] ∧ ∃ p c, v = .slice p 0 c) ∨ ∃ g off c, v = .slice (some ⟨g, off, none⟩) L.length c ∧ g < w.heap.size ∧
    ∀ W : World, W.heap[g]? = w.heap[g]? → ∀ j (h : j < L.length), W.cell? ⟨g, off + j, none⟩ = some (.int K L[j])
theorem KAt.below {K : IntKind} {w w' : World} {v : Value} {L : List Int} (h : KAt K w v L) (g : Below w.heap.size w w') : KAt K w' v L := by
  rcases h with h | ⟨b, off, c, rfl, hb, hc⟩
  · exact .inl h
  · exact .inr ⟨b, off, c, rfl, Nat.lt_of_lt_of_le hb g.size, fun W hW => hc W (hW.trans (g.block b hb))⟩
theorem KAt.form {K : IntKind} {w : World} {v : Value} {L : List Int} (h : KAt K w v L) : ∃ p c, v = .slice p L.length c := by
  rcases h with ⟨rfl, p, c, rfl⟩ | ⟨g, off, c, rfl, hg, _⟩
  · exact ⟨p, c, rfl⟩
  · exact ⟨_, c, rfl⟩
def ints (L : List Int) : List Value := L.map fun n => .int .i64 n
theorem ints_length (L : List Int) : (ints L).length = L.length := by simp [ints]
theorem infoI : (Tryz.prog.info? 3).map (fun i => (i.zero, i.size, i.bytes)) = some (some (.int .i64 0), 1, 8) := by kernel_rfl
abbrev Own (w : World) (base : Nat) (v : Value) (L : List Int) : Prop := w.ownsRow base 3 1 v L.length (ints L)
theorem Own.block {w : World} {base : Nat} {v : Value} {L : List Int} (h : Own w base v L) (g : Nat) (hg : v.ownBlock = some g) : base ≤ g ∧ g < w.heap.size := by
  rcases h.2 with ⟨rfl, h0⟩ | ⟨k, cap, cur, rfl, hb, hk, _⟩
  · cases hg
  · simp [Value.ownBlock] at hg
    subst hg
    refine ⟨hb, ?_⟩
    rcases Nat.lt_or_ge k w.heap.size with c | c
    · exact c
    · rw [Array.getElem?_eq_none c] at hk; cases hk
theorem below_new (w : World) (o : Obj) : Below w.heap.size w (w.alloc o) := (Below.refl _ _).alloc (Nat.le_refl _) o
/-- An own row's cell, and the row behind a store into it. -/
theorem own_cell {w : World} {base g n cap : Nat} {L : List Int} (h : Own w base (.slice (some ⟨g, 0, none⟩) n cap) L) (k : Nat) (x : Int) (hx : L[k]? = some x) :
    w.cell? ⟨g, k, none⟩ = some (.int .i64 x) ∧ w.frozen? ⟨g, k, none⟩ = false ∧ ∀ y : Int, Own (w.setCell ⟨g, k, none⟩ (.int .i64 y)) base (.slice (some ⟨g, 0, none⟩) n cap) (L.set k y) := by
  have hk : k < L.length := by
    rcases Nat.lt_or_ge k L.length with c | c
    · exact c
    · rw [List.getElem?_eq_none c] at hx; cases hx
  rcases h.2 with ⟨h0, _⟩ | ⟨g2, cap2, cur, he, hb, hg, h1, h2, h3, h4⟩
  · cases h0
  · injection he with e1 e2 e3
    injection e1 with e1
    injection e1 with e1
    subst e1 e2 e3
    refine ⟨?_, frozen_of_row _ _ _ _ _ hg, fun y => ⟨by simp [ints], .inr ⟨g, cap, cur.setIfInBounds k (.int .i64 y), by simp, hb, heap_setCell_same _ _ _ _ _ _ hg, by simpa using h1, h2, by simpa using h3, ?_⟩⟩⟩
    · rw [cell_of_row _ _ _ _ _ _ hg]
      have e : (cur.toList.take (L.length * 1))[k]? = (ints L)[k]? := by rw [h4]
      rw [List.getElem?_take, if_pos (by omega), Array.getElem?_toList] at e
      rw [e]
      simp [ints, hx]
    · rw [List.length_set, Array.toList_setIfInBounds, List.take_set, h4]
      simp [ints]
theorem own_form {w : World} {base : Nat} {v : Value} {L : List Int} (h : Own w base v L) (h0 : 1 ≤ L.length) : ∃ g cap, v = .slice (some ⟨g, 0, none⟩) L.length cap ∧ base ≤ g ∧ g < w.heap.size := by
  rcases h.2 with ⟨_, h1⟩ | ⟨g, cap, cur, rfl, hb, hg, _⟩
  · omega
  · refine ⟨g, cap, rfl, hb, ?_⟩
    rcases Nat.lt_or_ge g w.heap.size with c | c
    · exact c
    · rw [Array.getElem?_eq_none c] at hg; cases hg
theorem own_below {w w' : World} {base : Nat} {v : Value} {L : List Int} (h : Own w base v L) (hb : Below w.heap.size w w') : Own w' base v L := by
  refine ⟨h.1, ?_⟩
  rcases h.2 with h0 | ⟨g, cap, cur, rfl, h1, hg, h2⟩
  · exact .inl h0
  · have hlt : g < w.heap.size := by
      rcases Nat.lt_or_ge g w.heap.size with c | c
      · exact c
      · rw [Array.getElem?_eq_none c] at hg; cases hg
    exact .inr ⟨g, cap, cur, rfl, h1, (hb.block g hlt).trans hg, h2⟩
theorem own_base {w : World} {base b2 : Nat} {v : Value} {L : List Int} (h : Own w base v L) (hb : b2 ≤ base) : Own w b2 v L := by
  refine ⟨h.1, ?_⟩
  rcases h.2 with h0 | ⟨g, cap, cur, rfl, h1, h2⟩
  · exact .inl h0
  · exact .inr ⟨g, cap, cur, rfl, Nat.le_trans hb h1, h2⟩
theorem own_set_other {w : World} {base : Nat} {v : Value} {L : List Int} (h : Own w base v L) (g k : Nat) (x : Value) (hne : v.ownBlock ≠ some g) : Own (w.setCell ⟨g, k, none⟩ x) base v L := by
  refine ⟨h.1, ?_⟩
  rcases h.2 with h0 | ⟨g2, cap, cur, rfl, hb, hg, h1⟩
  · exact .inl h0
  · refine .inr ⟨g2, cap, cur, rfl, hb, ?_, h1⟩
    rw [heap_setCell_other _ _ _ _ (by intro e; apply hne; simp [Value.ownBlock]; simpa using e)]
    exact hg
end Go.Proofs.YtioidkbpjkcjeaaGreatDoor
