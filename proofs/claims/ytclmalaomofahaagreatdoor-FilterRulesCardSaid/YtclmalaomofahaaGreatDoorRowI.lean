/- Rows of whole numbers in memory: whoever's they are, and one's own: appends, cells, stores. Conditions: those that each theorem names. -/
import Derived.Test.YtclmalaomofahaaGreatDoorShelf
import Derived.Test.YtclmalaomofahaaGreatDoorRun
import Derived.WalkKit
import Derived.WalkSpells
import Derived.WalkLawsBesides
import Derived.Laws.Rows
import Derived.Lib.Hide
import Derived.OwnWalk
import Derived.Maps.AppendAt
namespace Go.Proofs.YtclmalaomofahaaGreatDoor
set_option linter.unusedVariables false
open Go Go.RowKit
theorem wrap_s {n k : Nat} (h : n ≤ maxLen) (hk : k < n) : wrap64 ((k : Int) + 1) = ((k + 1 : Nat) : Int) := by
  unfold maxLen at h; unfold wrap64; omega
theorem int_less {n k : Nat} (h : k < n) : n - (intOf (.int .i64 ((k + 1 : Nat) : Int))).toNat < n - (intOf (.int .i64 (k : Int))).toNat := by
  simp only [intOf, Int.toNat_natCast]; omega
theorem all_no' {α} {L : List α} {p : α → Bool} {k : Nat} {c : α} (h : L[k]? = some c) (hp : p c = false) : L.all p = false := by
  rw [← Bool.not_eq_true, List.all_eq_true]
  intro h'
  rw [h' c (List.mem_of_getElem? h)] at hp
  cases hp
theorem all_next' {α} {L : List α} {p : α → Bool} {k : Nat} {c : α} (h : L[k]? = some c) (ha : (L.take k).all p = true) (hp : p c = true) : (L.take (k + 1)).all p = true := by
  rw [List.take_add_one, h, List.all_append, ha]; simp [hp]
/-- A row of whole numbers of one kind. -/
def KAt (K : IntKind) (w : World) (v : Value) (L : List Int) : Prop :=
  (L = [] ∧ ∃ p c, v = .slice p 0 c) ∨ ∃ g off c, v = .slice (some ⟨g, off, none⟩) L.length c ∧ g < w.heap.size ∧
    ∀ W : World, W.heap[g]? = w.heap[g]? → ∀ j (h : j < L.length), W.cell? ⟨g, off + j, none⟩ = some (.int K L[j])
abbrev IntsAt (w : World) (v : Value) (L : List Int) : Prop := KAt .i64 w v L
theorem KAt.below {K : IntKind} {w w' : World} {v : Value} {L : List Int} (h : KAt K w v L) (g : Below w.heap.size w w') : KAt K w' v L := by
  rcases h with h | ⟨b, off, c, rfl, hb, hc⟩
  · exact .inl h
  · exact .inr ⟨b, off, c, rfl, Nat.lt_of_lt_of_le hb g.size, fun W hW => hc W (hW.trans (g.block b hb))⟩
theorem KAt.form {K : IntKind} {w : World} {v : Value} {L : List Int} (h : KAt K w v L) : ∃ p c, v = .slice p L.length c := by
  rcases h with ⟨rfl, p, c, rfl⟩ | ⟨g, off, c, rfl, hg, _⟩
  · exact ⟨p, c, rfl⟩
  · exact ⟨_, c, rfl⟩
def ints (L : List Int) : List Value := L.map fun n => .int .i64 n
theorem ints_length (L : List Int) : (ints L).length = L.length := by simp [ints]
theorem infoI : (Tryz.prog.info? 3).map (fun i => (i.zero, i.size, i.bytes)) = some (some (.int .i64 0), 1, 8) := by kernel_rfl
abbrev Own (w : World) (base : Nat) (v : Value) (L : List Int) : Prop := w.ownsRow base 3 1 v L.length (ints L)
theorem Own.at {w : World} {base : Nat} {v : Value} {L : List Int} (h : Own w base v L) : IntsAt w v L := by
  rcases h.2 with ⟨rfl, h0⟩ | ⟨g, cap, cur, rfl, hb, hg, h1, h2, h3, h4⟩
  · exact .inl ⟨List.length_eq_zero_iff.mp h0, none, 0, rfl⟩
  · refine .inr ⟨g, 0, cap, rfl, ?_, fun W hW j hj => ?_⟩
    · rcases Nat.lt_or_ge g w.heap.size with c | c
      · exact c
      · rw [Array.getElem?_eq_none c] at hg; cases hg
    · rw [cell_of_row _ _ _ _ _ _ (hW.trans hg), Nat.zero_add]
      have hj1 : j < L.length * 1 := by omega
      have e : (cur.toList.take (L.length * 1))[j]? = (ints L)[j]? := by rw [h4]
      rw [List.getElem?_take, if_pos hj1] at e
      rw [Array.getElem?_toList] at e
      rw [e]
      simp [ints, hj]
theorem Own.block {w : World} {base : Nat} {v : Value} {L : List Int} (h : Own w base v L) (g : Nat) (hg : v.ownBlock = some g) : base ≤ g ∧ g < w.heap.size := by
  rcases h.2 with ⟨rfl, h0⟩ | ⟨k, cap, cur, rfl, hb, hk, _⟩
  · cases hg
  · simp [Value.ownBlock] at hg
    subst hg
    refine ⟨hb, ?_⟩
    rcases Nat.lt_or_ge k w.heap.size with c | c
    · exact c
    · rw [Array.getElem?_eq_none c] at hk; cases hk
/-- A row behind an own one. -/
theorem append_ints {w : World} {base : Nat} {v src : Value} {A B : List Int} (hown : Own w base v A) (hs : IntsAt w src B) (hb : (A.length + B.length) * 8 ≤ 140737488355328) (hbase : base ≤ w.heap.size) :
    ∃ v' w', (∀ ty, (Builtin.append_ #[38, 38] ty #[v, src]).run Tryz.prog w = .ok v' w') ∧ Own w' base v' (A ++ B) ∧ w.grownBy w' v.ownBlock := by
  obtain ⟨i0, hi, hz0, hz1, hz2⟩ := info_parts infoI
  have hfrom : ∀ (ad : Addr) (c : Nat), (∀ j u, (ints B)[j]? = some u → w.cell? (ad.add j) = some u) → ∃ v' w', (∀ ty, (Builtin.append_ #[38, 38] ty #[v, .slice (some ad) B.length c]).run Tryz.prog w = .ok v' w') ∧ Own w' base v' (A ++ B) ∧ w.grownBy w' v.ownBlock := by
    intro ad c hc
    obtain ⟨v', w', hr, h2, h3, _⟩ := run_append_own_at (P := Tryz.prog) w base 38 38 3 i0 _ 1 8 Tryz.underlying38 hi hz0 hz1 hz2 rfl (by decide) v A.length (ints A) hown ad B.length c (ints B) (by rw [ints_length]; omega) hc
      (fun u hu => by
        simp only [ints, List.mem_map] at hu
        obtain ⟨n, _, rfl⟩ := hu
        rfl) (by unfold maxLen; omega) (by omega) hbase
    have e : ints (A ++ B) = ints A ++ ints B := by simp [ints]
    exact ⟨v', w', fun _ => hr, by unfold Own; rw [e, List.length_append]; exact h2, h3⟩
  rcases hs with ⟨rfl, q, c, rfl⟩ | ⟨g, off, c, rfl, hg, hc⟩
  · cases q with
    | none =>
      refine ⟨v, w, fun ty => ?_, by simpa using hown, ⟨rfl, rfl, rfl, Nat.le_refl _, fun _ _ _ => rfl⟩⟩
      have ht := Tryz.underlying38
      rcases hown.2 with ⟨rfl, h0⟩ | ⟨g, cap, cur, rfl, _, hg, h1, _⟩
      · simp [Builtin.append_, run_underlying ht, sizeOf, typeInfo, hi, Builtin.lenOf, Builtin.firstCells]
      · simp [Builtin.append_, run_underlying ht, sizeOf, typeInfo, hi, Builtin.lenOf, Builtin.firstCells, storeCells, h1]
    | some ad => exact hfrom ad c (fun j u hj => by simp [ints] at hj)
  · refine hfrom ⟨g, off, none⟩ c (fun j u hj => ?_)
    have hjl : j < B.length := by
      rcases Nat.lt_or_ge j B.length with c | c
      · exact c
      · rw [List.getElem?_eq_none (by rw [ints_length]; exact c)] at hj; cases hj
    have h1 := hc w rfl j hjl
    have ha : (⟨g, off, none⟩ : Addr).add j = ⟨g, off + j, none⟩ := by unfold Addr.add; split <;> simp_all
    rw [ha, h1]
    simp [ints, hjl] at hj
    rw [hj]
/-- A new block's row. -/
theorem new_ints (w : World) (L : List Int) (n : Nat) (hn : L.length = n) : IntsAt (w.alloc (.cells (ints L).toArray 3)) (.slice (some ⟨w.heap.size, 0, none⟩) n n) L := by
  subst hn
  refine .inr ⟨w.heap.size, 0, L.length, rfl, by simp, fun W hW j hj => ?_⟩
  rw [cell_of_row _ _ _ _ _ _ (hW.trans (heap_alloc_new _ _)), Nat.zero_add]
  simp [ints, hj]
theorem below_new (w : World) (o : Obj) : Below w.heap.size w (w.alloc o) := (Below.refl _ _).alloc (Nat.le_refl _) o
theorem two_new (w : World) (K L : List Int) (k n : Nat) (hk : K.length = k) (hn : L.length = n) :
    IntsAt ((w.alloc (.cells (ints K).toArray 3)).alloc (.cells (ints L).toArray 3)) (.slice (some ⟨w.heap.size, 0, none⟩) k k) K ∧
    IntsAt ((w.alloc (.cells (ints K).toArray 3)).alloc (.cells (ints L).toArray 3)) (.slice (some ⟨w.heap.size + 1, 0, none⟩) n n) L ∧
    Below w.heap.size w ((w.alloc (.cells (ints K).toArray 3)).alloc (.cells (ints L).toArray 3)) := by
  have e : (w.alloc (.cells (ints K).toArray 3)).heap.size = w.heap.size + 1 := by simp
  refine ⟨(new_ints w K k hk).below (below_new _ _), ?_, (below_new w _).alloc (by simp) _⟩
  have h := new_ints (w.alloc (.cells (ints K).toArray 3)) L n hn
  rw [e] at h
  exact h
/-- An own row's cell, and the row behind a store into it. -/
theorem own_cell {w : World} {base g n cap : Nat} {L : List Int} (h : Own w base (.slice (some ⟨g, 0, none⟩) n cap) L) (k : Nat) (x : Int) (hx : L[k]? = some x) :
    w.cell? ⟨g, k, none⟩ = some (.int .i64 x) ∧ w.frozen? ⟨g, k, none⟩ = false ∧ ∀ y : Int, Own (w.setCell ⟨g, k, none⟩ (.int .i64 y)) base (.slice (some ⟨g, 0, none⟩) n cap) (L.set k y) := by
  have hk : k < L.length := by
    rcases Nat.lt_or_ge k L.length with c | c
    · exact c
    · rw [List.getElem?_eq_none c] at hx; cases hx
  rcases h.2 with ⟨h0, _⟩ | ⟨g2, cap2, cur, he, hb, hg, h1, h2, h3, h4⟩
  · cases h0
  · injection he with e1 e2 e3
    injection e1 with e1
    injection e1 with e1
    subst e1 e2 e3
    refine ⟨?_, frozen_of_row _ _ _ _ _ hg, fun y => ⟨by simp [ints], .inr ⟨g, cap, cur.setIfInBounds k (.int .i64 y), by simp, hb, heap_setCell_same _ _ _ _ _ _ hg, by simpa using h1, h2, by simpa using h3, ?_⟩⟩⟩
    · rw [cell_of_row _ _ _ _ _ _ hg]
      have e : (cur.toList.take (L.length * 1))[k]? = (ints L)[k]? := by rw [h4]
      rw [List.getElem?_take, if_pos (by omega), Array.getElem?_toList] at e
      rw [e]
      simp [ints, hx]
    · rw [List.length_set, Array.toList_setIfInBounds, List.take_set, h4]
      simp [ints]
theorem own_form {w : World} {base : Nat} {v : Value} {L : List Int} (h : Own w base v L) (h0 : 1 ≤ L.length) : ∃ g cap, v = .slice (some ⟨g, 0, none⟩) L.length cap ∧ base ≤ g ∧ g < w.heap.size := by
  rcases h.2 with ⟨_, h1⟩ | ⟨g, cap, cur, rfl, hb, hg, _⟩
  · omega
  · refine ⟨g, cap, rfl, hb, ?_⟩
    rcases Nat.lt_or_ge g w.heap.size with c | c
    · exact c
    · rw [Array.getElem?_eq_none c] at hg; cases hg
theorem own_below {w w' : World} {base : Nat} {v : Value} {L : List Int} (h : Own w base v L) (hb : Below w.heap.size w w') : Own w' base v L := by
  refine ⟨h.1, ?_⟩
  rcases h.2 with h0 | ⟨g, cap, cur, rfl, h1, hg, h2⟩
  · exact .inl h0
  · have hlt : g < w.heap.size := by
      rcases Nat.lt_or_ge g w.heap.size with c | c
      · exact c
      · rw [Array.getElem?_eq_none c] at hg; cases hg
    exact .inr ⟨g, cap, cur, rfl, h1, (hb.block g hlt).trans hg, h2⟩
theorem own_base {w : World} {base b2 : Nat} {v : Value} {L : List Int} (h : Own w base v L) (hb : b2 ≤ base) : Own w b2 v L := by
  refine ⟨h.1, ?_⟩
  rcases h.2 with h0 | ⟨g, cap, cur, rfl, h1, h2⟩
  · exact .inl h0
  · exact .inr ⟨g, cap, cur, rfl, Nat.le_trans hb h1, h2⟩
theorem own_set_other {w : World} {base : Nat} {v : Value} {L : List Int} (h : Own w base v L) (g k : Nat) (x : Value) (hne : v.ownBlock ≠ some g) : Own (w.setCell ⟨g, k, none⟩ x) base v L := by
  refine ⟨h.1, ?_⟩
  rcases h.2 with h0 | ⟨g2, cap, cur, rfl, hb, hg, h1⟩
  · exact .inl h0
  · refine .inr ⟨g2, cap, cur, rfl, hb, ?_, h1⟩
    rw [heap_setCell_other _ _ _ _ (by intro e; apply hne; simp [Value.ownBlock]; simpa using e)]
    exact hg
end Go.Proofs.YtclmalaomofahaaGreatDoor
