/- A copy's first vector cut, its first field turned, in memory. Conditions: those that each theorem names. -/
import Derived.Test.YtfppemgagifmpaaDoorPlCp
import Derived.Test.YtfppemgagifmpaaDoorPlKz
namespace Go.Proofs.YtfppemgagifmpaaDoor
set_option linter.unusedVariables false
open Go Go.RowKit Go.Shelf Pl
theorem IntsAt.take {w : World} {p : Option Addr} {n c j : Nat} {L : List Int} (h : IntsAt w (.slice p n c) L) (hj : j ≤ L.length) : IntsAt w (.slice p j c) (L.take j) := by
  have hl : (L.take j).length = j := by rw [List.length_take]; omega
  rcases Nat.eq_zero_or_pos j with h0 | h0
  · subst h0
    exact .inl ⟨by simp, p, c, rfl⟩
  · rcases h with ⟨rfl, _⟩ | ⟨g, off, c2, hs, hg, hc⟩
    · simp at hj; omega
    · injection hs with e1 e2 e3
      subst e1 e3
      refine .inr ⟨g, off, c, by rw [hl], hg, fun W hW i hi => ?_⟩
      rw [hl] at hi
      rw [hc W hW i (by omega), List.getElem_take]
theorem ints_own {w : World} {v : Value} {L : List Int} (h : IntsAt w v L) (hn : L ≠ []) : ∃ g off c, v = .slice (some ⟨g, off, none⟩) L.length c ∧ g < w.heap.size := by
  rcases h with ⟨h0, _⟩ | ⟨g, off, c, rfl, hg, _⟩
  · exact absurd h0 hn
  · exact ⟨g, off, c, rfl, hg⟩
theorem size_set (w : World) (a : Addr) (v : Value) : (w.setCell a v).heap.size = w.heap.size := by simp [World.setCell]
/-- The first vector of a row of one's own, with another row of numbers. -/
theorem own_first {w : World} {base : Nat} {u : Value} {x : Vec} {r : List Vec} (h : VecsOwn w base u (x :: r)) :
    ∃ (g c : Nat) (p : Option Addr) (cc : Nat), u = .slice (some ⟨g, 0, none⟩) (r.length + 1) c ∧ base ≤ g ∧ g < w.heap.size ∧ w.cell? ⟨g, 1, none⟩ = some (.slice p x.v.length cc) ∧ w.frozen? ⟨g, 1, none⟩ = false ∧ x.v.length ≤ cc ∧
      ∀ j, j ≤ x.v.length → VecsAt (w.setCell ⟨g, 1, none⟩ (.slice p j cc)) u (⟨x.name, x.v.take j⟩ :: r) := by
  rcases h with ⟨h0, _⟩ | ⟨g, c, S, cs, t, rfl, hb, hg, hc, h1, h2⟩
  · cases h0
  · obtain ⟨p, cc, hs, -⟩ := (h2 0 (by simp)).1.form
    simp only [List.getElem_cons_zero] at hs
    have c1 : cs[0 * 2 + 1]? = some (S 0) := (h1 0 (by simp)).2
    rw [hs] at c1
    refine ⟨g, c, p, cc, by simp, hb, hg, by rw [Lib.cell_of_heap hc]; exact c1, Lib.frozen_of_heap hc 1, (h2 0 (by simp)).2.2 _ _ _ hs, fun j hj => ?_⟩
    have hx : (w.setCell ⟨g, 1, none⟩ (.slice p j cc)).heap[g]? = some (.cells (cs.setIfInBounds 1 (.slice p j cc)) t (0, 0)) := setCell_at hc _
    refine .inr ⟨g, 0, c, fun i => if i = 0 then .slice p j cc else S i, by simp, by rw [size_set]; exact hg, fun W hW i hi => ?_, fun i hi => ?_⟩
    · have hw := hW.trans hx
      rw [Nat.zero_add, Lib.cell_of_heap hw, Lib.cell_of_heap hw]
      rcases Nat.eq_zero_or_pos i with h0 | h0
      · subst h0
        have e0 := (h1 0 (by simp)).1
        simp only [List.getElem_cons_zero] at e0 ⊢
        refine ⟨?_, ?_⟩
        · rw [Array.getElem?_setIfInBounds_ne (by decide)]; exact e0
        · rw [if_true, show 0 * 2 + 1 = 1 by rfl]
          have hlt : 1 < cs.size := (Array.getElem?_eq_some_iff.1 c1).1
          rw [Array.getElem?_setIfInBounds_self_of_lt hlt]
      · have hi' : i < (x :: r).length := by simpa using hi
        obtain ⟨e0, e1⟩ := h1 i hi'
        have he : (⟨x.name, x.v.take j⟩ :: r : List Vec)[i] = (x :: r)[i] := by
          obtain ⟨m, rfl⟩ : ∃ m, i = m + 1 := ⟨i - 1, by omega⟩
          simp
        rw [he, Array.getElem?_setIfInBounds_ne (by omega), Array.getElem?_setIfInBounds_ne (by omega)]
        refine ⟨e0, ?_⟩
        show cs[i * 2 + 1]? = some (if i = 0 then Value.slice p j cc else S i)
        rw [if_neg (by omega)]
        exact e1
    · rcases Nat.eq_zero_or_pos i with h0 | h0
      · subst h0
        obtain ⟨i1, i2, -⟩ := h2 0 (by simp)
        simp only [List.getElem_cons_zero] at i1 i2 ⊢
        rw [if_true]
        rw [hs] at i1 i2
        refine (i1.take hj).moved (by rw [size_set]; exact Nat.le_refl _) fun hn k hk => heap_setCell_other _ _ _ _ ?_
        have hne : x.v ≠ [] := fun e => by rw [e] at hn; simp at hn
        have hk2 : (Value.slice p x.v.length cc).ownBlock = some k := by
          cases p with
          | none => cases hk
          | some a => exact hk
        exact (i2 hne k hk2).2
      · have hi' : i < (x :: r).length := by simpa using hi
        obtain ⟨i1, i2, -⟩ := h2 i hi'
        have he : (⟨x.name, x.v.take j⟩ :: r : List Vec)[i] = (x :: r)[i] := by
          obtain ⟨m, rfl⟩ : ∃ m, i = m + 1 := ⟨i - 1, by omega⟩
          simp
        rw [he]
        show IntsAt _ (if i = 0 then Value.slice p j cc else S i) _
        rw [if_neg (by omega)]
        refine i1.moved (by rw [size_set]; exact Nat.le_refl _) fun hn k hk => heap_setCell_other _ _ _ _ ?_
        exact (i2 hn k hk).2
/-- The first field of a row of one's own, with another value. -/
theorem own_field {w : World} {x2 : Value} {f : Fld} {fs : List Fld} (h : FldsOwn w x2 (f :: fs)) :
    ∃ (g c : Nat), x2 = .slice (some ⟨g, 0, none⟩) (fs.length + 1) c ∧ g < w.heap.size ∧ (∀ i, w.frozen? ⟨g, i, none⟩ = false) ∧ (w.cell? ⟨g, 1, none⟩ = some (.int .i64 f.val.kind) ∧ w.cell? ⟨g, 2, none⟩ = some (.int .i64 f.val.n) ∧ w.cell? ⟨g, 3, none⟩ = some (.string f.val.text)) ∧
      ∀ v : Val, FldsAt (((w.setCell ⟨g, 1, none⟩ (.int .i64 v.kind)).setCell ⟨g, 2, none⟩ (.int .i64 v.n)).setCell ⟨g, 3, none⟩ (.string v.text)) x2 (⟨f.name, v⟩ :: fs) := by
  rcases h with ⟨h0, _⟩ | ⟨g, c, cs, t, rfl, hg, hc, h1⟩
  · cases h0
  · obtain ⟨e0, e1, e2, e3⟩ := h1 0 (by simp)
    simp only [List.getElem_cons_zero] at e0 e1 e2 e3
    refine ⟨g, c, by simp, hg, fun i => Lib.frozen_of_heap hc i, ⟨by rw [Lib.cell_of_heap hc]; exact e1, by rw [Lib.cell_of_heap hc]; exact e2, by rw [Lib.cell_of_heap hc]; exact e3⟩, fun v => ?_⟩
    have hx := setCell_at (setCell_at (setCell_at (k := 1) hc (.int .i64 v.kind)) (k := 2) (.int .i64 v.n)) (k := 3) (.string v.text)
    refine .inr ⟨g, 0, c, by simp, by rw [size_set, size_set, size_set]; exact hg, fun W hW i hi => ?_⟩
    have hw := hW.trans hx
    have l3 : 3 < cs.size := (Array.getElem?_eq_some_iff.1 e3).1
    rw [Nat.zero_add, Lib.cell_of_heap hw, Lib.cell_of_heap hw, Lib.cell_of_heap hw, Lib.cell_of_heap hw]
    rcases Nat.eq_zero_or_pos i with h0 | h0
    · subst h0
      simp only [List.getElem_cons_zero]
      have e0' : cs[0]? = some (.string f.name) := e0
      refine ⟨?_, ?_, ?_, ?_⟩
      · rw [Array.getElem?_setIfInBounds_ne (by decide), Array.getElem?_setIfInBounds_ne (by decide), Array.getElem?_setIfInBounds_ne (by decide)]; exact e0'
      · rw [Array.getElem?_setIfInBounds_ne (by decide), Array.getElem?_setIfInBounds_ne (by decide), show 0 * 4 + 1 = 1 by rfl, Array.getElem?_setIfInBounds_self_of_lt (by omega)]
      · rw [Array.getElem?_setIfInBounds_ne (by decide), show 0 * 4 + 2 = 2 by rfl, Array.getElem?_setIfInBounds_self_of_lt (by rw [Array.size_setIfInBounds]; omega)]
      · rw [show 0 * 4 + 3 = 3 by rfl, Array.getElem?_setIfInBounds_self_of_lt (by rw [Array.size_setIfInBounds, Array.size_setIfInBounds]; omega)]
    · have hi' : i < (f :: fs).length := by simpa using hi
      have he : (⟨f.name, v⟩ :: fs : List Fld)[i] = (f :: fs)[i] := by
        obtain ⟨m, rfl⟩ : ∃ m, i = m + 1 := ⟨i - 1, by omega⟩
        simp
      rw [he]
      have q : ∀ d, d < 4 → ((((cs.setIfInBounds 1 (.int .i64 v.kind)).setIfInBounds 2 (.int .i64 v.n)).setIfInBounds 3 (.string v.text)))[i * 4 + d]? = cs[i * 4 + d]? := fun d _ => by
        rw [Array.getElem?_setIfInBounds_ne (by omega), Array.getElem?_setIfInBounds_ne (by omega), Array.getElem?_setIfInBounds_ne (by omega)]
      have q0 := q 0 (by omega)
      rw [Nat.add_zero] at q0
      rw [q0, q 1 (by omega), q 2 (by omega), q 3 (by omega)]
      exact h1 i hi'
theorem cell_later {w : World} {b i : Nat} {v : Value} (h : w.cell? ⟨b, i, none⟩ = some v) : ∀ o, (w.alloc o).cell? ⟨b, i, none⟩ = some v := fun o => by
  have hb := World.block_lt_of_cell? w _ h
  rw [← h]; exact World.cell?_of_block (w := w) (a := ⟨b, i, none⟩) (Below.heap_alloc _ _ _ hb)
theorem set_below {w1 W : World} {g k : Nat} {v : Value} (h : Below w1.heap.size w1 W) (hg : w1.heap.size ≤ g) : Below w1.heap.size w1 (W.setCell ⟨g, k, none⟩ v) := h.setCell (p := ⟨g, k, none⟩) hg _
/-- A copy with its first vector cut. -/
theorem cut_copy {w1 W2 : World} {m : Nat} {u2 x2 : Value} {x : Vec} {r : List Vec} {fs : List Fld} (h1 : VecsOwn W2 m u2 (x :: r)) (h2 : FldsOwn W2 x2 fs) (hm : w1.heap.size ≤ m) (h3 : ∀ g, x2.ownBlock = some g → fs ≠ [] → w1.heap.size ≤ g ∧ g < m) (hb : Below w1.heap.size w1 W2) :
    ∃ (g c : Nat) (p : Option Addr) (cc : Nat), u2 = .slice (some ⟨g, 0, none⟩) (r.length + 1) c ∧ g < W2.heap.size ∧ W2.cell? ⟨g, 1, none⟩ = some (.slice p x.v.length cc) ∧ W2.frozen? ⟨g, 1, none⟩ = false ∧ x.v.length ≤ cc ∧
      ∀ j, j ≤ x.v.length → Below w1.heap.size w1 (W2.setCell ⟨g, 1, none⟩ (.slice p j cc)) ∧ VecsAt (W2.setCell ⟨g, 1, none⟩ (.slice p j cc)) u2 (⟨x.name, x.v.take j⟩ :: r) ∧ FldsAt (W2.setCell ⟨g, 1, none⟩ (.slice p j cc)) x2 fs := by
  obtain ⟨g, c, p, cc, rfl, k1, k2, k3, k4, k6, k5⟩ := own_first h1
  refine ⟨g, c, p, cc, rfl, k2, k3, k4, k6, fun j hj => ⟨set_below hb (by omega), k5 j hj, ?_⟩⟩
  exact (h2.moved (by rw [size_set]; exact Nat.le_refl _) fun hn k hk => heap_setCell_other _ _ _ _ (by have := (h3 k hk hn).2; show k ≠ g; omega)).at
/-- A copy with its first field turned. -/
theorem turn_copy {w1 W2 : World} {m : Nat} {u2 x2 : Value} {vs : List Vec} {f : Fld} {fs : List Fld} (h1 : VecsOwn W2 m u2 vs) (h2 : FldsOwn W2 x2 (f :: fs)) (h3 : ∀ g, x2.ownBlock = some g → f :: fs ≠ [] → w1.heap.size ≤ g ∧ g < m) (hb : Below w1.heap.size w1 W2) :
    ∃ (g c : Nat), x2 = .slice (some ⟨g, 0, none⟩) (fs.length + 1) c ∧ g < W2.heap.size ∧ (W2.frozen? ⟨g, 1, none⟩ = false ∧ W2.frozen? ⟨g, 2, none⟩ = false ∧ W2.frozen? ⟨g, 3, none⟩ = false) ∧
      (W2.cell? ⟨g, 1, none⟩ = some (.int .i64 f.val.kind) ∧ W2.cell? ⟨g, 2, none⟩ = some (.int .i64 f.val.n) ∧ W2.cell? ⟨g, 3, none⟩ = some (.string f.val.text)) ∧
      ∀ v : Val, Below w1.heap.size w1 (((W2.setCell ⟨g, 1, none⟩ (.int .i64 v.kind)).setCell ⟨g, 2, none⟩ (.int .i64 v.n)).setCell ⟨g, 3, none⟩ (.string v.text)) ∧ VecsAt (((W2.setCell ⟨g, 1, none⟩ (.int .i64 v.kind)).setCell ⟨g, 2, none⟩ (.int .i64 v.n)).setCell ⟨g, 3, none⟩ (.string v.text)) u2 vs ∧
        FldsAt (((W2.setCell ⟨g, 1, none⟩ (.int .i64 v.kind)).setCell ⟨g, 2, none⟩ (.int .i64 v.n)).setCell ⟨g, 3, none⟩ (.string v.text)) x2 (⟨f.name, v⟩ :: fs) := by
  obtain ⟨g, c, rfl, k1, k2, k3, k4⟩ := own_field h2
  obtain ⟨b1, b2⟩ := h3 g rfl (by simp)
  refine ⟨g, c, rfl, k1, ⟨k2 1, k2 2, k2 3⟩, k3, fun v => ⟨set_below (set_below (set_below hb b1) b1) b1, ?_, k4 v⟩⟩
  refine (h1.kept (by rw [size_set, size_set, size_set]; exact Nat.le_refl _) fun k hk _ => ?_).at
  rw [heap_setCell_other _ _ _ _ (show k ≠ g by omega), heap_setCell_other _ _ _ _ (show k ≠ g by omega), heap_setCell_other _ _ _ _ (show k ≠ g by omega)]
end Go.Proofs.YtfppemgagifmpaaDoor
