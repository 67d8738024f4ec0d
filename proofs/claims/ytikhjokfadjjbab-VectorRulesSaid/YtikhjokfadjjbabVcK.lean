/- Rows of one's own that are written in place, for the law VectorRules. Conditions: those that each theorem names. -/
import Derived.Test.YtikhjokfadjjbabVcJ
namespace Go.Proofs.Ytikhjokfadjjbab
set_option linter.unusedVariables false
open Go Go.RowKit Vc
/-- The numbers of L, the first k of them turned by f. -/
def mixL (f : Int → Int) (L : List Int) (k : Nat) : List Int := (L.take k).map f ++ L.drop k
theorem mixL_zero (f : Int → Int) (L : List Int) : mixL f L 0 = L := by simp [mixL]
theorem mixL_all (f : Int → Int) (L : List Int) (k : Nat) (h : L.length ≤ k) : mixL f L k = L.map f := by simp [mixL, List.take_of_length_le h, List.drop_of_length_le h]
theorem mixL_length (f : Int → Int) (L : List Int) (k : Nat) (h : k ≤ L.length) : (mixL f L k).length = L.length := by simp [mixL]; omega
theorem mixL_at (f : Int → Int) (L : List Int) (k : Nat) (h : k < L.length) : (mixL f L k)[k]? = some L[k] := by
  unfold mixL
  rw [List.getElem?_append_right (by simp; omega)]
  simp [show min k L.length = k by omega]
theorem mixL_set (f : Int → Int) (L : List Int) (k : Nat) (h : k < L.length) : (mixL f L k).set k (f L[k]) = mixL f L (k + 1) := by
  unfold mixL
  have e1 : ((L.take k).map f).length = k := by simp; omega
  rw [List.set_append_right _ _ (by omega), e1, Nat.sub_self, List.drop_eq_getElem_cons h, List.set_cons_zero, List.take_add_one, List.getElem?_eq_getElem h]
  simp only [Option.toList_some, List.map_append, List.map_cons, List.map_nil, List.append_assoc, List.cons_append, List.nil_append]
/-- An own row's cell, and the row behind a store into it. -/
theorem own_cell {w : World} {base g n cap : Nat} {L : List Int} (h : Own w base (.slice (some ⟨g, 0, none⟩) n cap) L) (k : Nat) (x : Int) (hx : L[k]? = some x) :
    w.cell? ⟨g, k, none⟩ = some (.int .i64 x) ∧ w.frozen? ⟨g, k, none⟩ = false ∧ ∀ y : Int, Own (w.setCell ⟨g, k, none⟩ (.int .i64 y)) base (.slice (some ⟨g, 0, none⟩) n cap) (L.set k y) := by
  have hk : k < L.length := by
    rcases Nat.lt_or_ge k L.length with c | c
    · exact c
    · rw [List.getElem?_eq_none c] at hx; cases hx
  rcases h.2 with ⟨h0, _⟩ | ⟨g2, cap2, cur, he, hb, hg, h1, h2, h3, h4⟩
  · cases h0
  · injection he with e1 e2 e3
    injection e1 with e1
    injection e1 with e1
    subst e1 e2 e3
    refine ⟨?_, frozen_of_row _ _ _ _ _ hg, fun y => ⟨by simp [ints], .inr ⟨g, cap, cur.setIfInBounds k (.int .i64 y), by simp, hb, heap_setCell_same _ _ _ _ _ _ hg, by simpa using h1, h2, by simpa using h3, ?_⟩⟩⟩
    · rw [cell_of_row _ _ _ _ _ _ hg]
      have e : (cur.toList.take (L.length * 1))[k]? = (ints L)[k]? := by rw [h4]
      rw [List.getElem?_take, if_pos (by omega), Array.getElem?_toList] at e
      rw [e]
      simp [ints, hx]
    · rw [List.length_set, Array.toList_setIfInBounds, List.take_set, h4]
      simp [ints]
theorem own_form {w : World} {base : Nat} {v : Value} {L : List Int} (h : Own w base v L) (h0 : 1 ≤ L.length) : ∃ g cap, v = .slice (some ⟨g, 0, none⟩) L.length cap ∧ base ≤ g ∧ g < w.heap.size := by
  rcases h.2 with ⟨_, h1⟩ | ⟨g, cap, cur, rfl, hb, hg, _⟩
  · omega
  · refine ⟨g, cap, rfl, hb, ?_⟩
    rcases Nat.lt_or_ge g w.heap.size with c | c
    · exact c
    · rw [Array.getElem?_eq_none c] at hg; cases hg
theorem own_below {w w' : World} {base : Nat} {v : Value} {L : List Int} (h : Own w base v L) (hb : Below w.heap.size w w') : Own w' base v L := by
  refine ⟨h.1, ?_⟩
  rcases h.2 with h0 | ⟨g, cap, cur, rfl, h1, hg, h2⟩
  · exact .inl h0
  · have hlt : g < w.heap.size := by
      rcases Nat.lt_or_ge g w.heap.size with c | c
      · exact c
      · rw [Array.getElem?_eq_none c] at hg; cases hg
    exact .inr ⟨g, cap, cur, rfl, h1, (hb.block g hlt).trans hg, h2⟩
theorem own_base {w : World} {base b2 : Nat} {v : Value} {L : List Int} (h : Own w base v L) (hb : b2 ≤ base) : Own w b2 v L := by
  refine ⟨h.1, ?_⟩
  rcases h.2 with h0 | ⟨g, cap, cur, rfl, h1, h2⟩
  · exact .inl h0
  · exact .inr ⟨g, cap, cur, rfl, Nat.le_trans hb h1, h2⟩
def capX (x : Int) : Int := max (-32000) (min x 32000)
theorem vec_map {L : List Int} {f : Int → Int} (h1 : 1 ≤ L.length) (h2 : L.length ≤ 64) (hf : ∀ x ∈ L, -32768 ≤ f x ∧ f x ≤ 32767) : vecB (L.map f) = true := by
  simp only [vecB, List.length_map, Bool.and_eq_true, decide_eq_true_eq, List.all_eq_true, List.mem_map]
  refine ⟨⟨h1, h2⟩, ?_⟩
  rintro _ ⟨x, hx, rfl⟩
  exact partB_is.mpr (hf x hx)
theorem cap_bd (x : Int) : -32000 ≤ capX x ∧ capX x ≤ 32000 := by unfold capX; omega
theorem own_set_other {w : World} {base : Nat} {v : Value} {L : List Int} (h : Own w base v L) (g k : Nat) (x : Value) (hne : v.ownBlock ≠ some g) : Own (w.setCell ⟨g, k, none⟩ x) base v L := by
  refine ⟨h.1, ?_⟩
  rcases h.2 with h0 | ⟨g2, cap, cur, rfl, hb, hg, h1⟩
  · exact .inl h0
  · refine .inr ⟨g2, cap, cur, rfl, hb, ?_, h1⟩
    rw [heap_setCell_other _ _ _ _ (by intro e; apply hne; simp [Value.ownBlock]; simpa using e)]
    exact hg
/-- A round of turning two own rows that lie apart. -/
theorem two_set {w : World} {base g1 g2 n c1 c2 : Nat} {K L : List Int} (h1 : Own w base (.slice (some ⟨g1, 0, none⟩) n c1) K) (h2 : Own w base (.slice (some ⟨g2, 0, none⟩) n c2) L) (hne : g1 ≠ g2) (k : Nat) (x y X Y : Int) (hx : K[k]? = some x) (hy : L[k]? = some y) :
    w.cell? ⟨g1, k, none⟩ = some (.int .i64 x) ∧ w.frozen? ⟨g1, k, none⟩ = false ∧ (w.setCell ⟨g1, k, none⟩ (.int .i64 X)).cell? ⟨g2, k, none⟩ = some (.int .i64 y) ∧ (w.setCell ⟨g1, k, none⟩ (.int .i64 X)).frozen? ⟨g2, k, none⟩ = false ∧
      Own ((w.setCell ⟨g1, k, none⟩ (.int .i64 X)).setCell ⟨g2, k, none⟩ (.int .i64 Y)) base (.slice (some ⟨g1, 0, none⟩) n c1) (K.set k X) ∧
      Own ((w.setCell ⟨g1, k, none⟩ (.int .i64 X)).setCell ⟨g2, k, none⟩ (.int .i64 Y)) base (.slice (some ⟨g2, 0, none⟩) n c2) (L.set k Y) := by
  obtain ⟨a1, a2, a3⟩ := own_cell h1 k x hx
  have h2' := own_set_other h2 g1 k (.int .i64 X) (by simp [Value.ownBlock]; exact fun e => hne e.symm)
  obtain ⟨b1, b2, b3⟩ := own_cell h2' k y hy
  exact ⟨a1, a2, b1, b2, own_set_other (a3 X) g2 k _ (by simp [Value.ownBlock]; exact hne), b3 Y⟩
end Go.Proofs.Ytikhjokfadjjbab
