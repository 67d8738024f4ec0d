/- Writes into the law's own copy of a row of points; into rows of one's own of ids and of values. Conditions: those that each theorem names. -/
import Derived.Test.YtkmfkgjkgnlfnaaWdTw
namespace Go.Proofs.Ytkmfkgjkgnlfnaa
set_option linter.unusedVariables false
namespace Wd
open Go Go.RowKit Go.Shelf Go.Sort Go.Maps Pq Pq.Pl Rk Ids
/-- Block g has at least n cells, which may be written. -/
def Rect (W : World) (g n : Nat) : Prop := ∃ cs t, W.heap[g]? = some (.cells cs t (0, 0)) ∧ n ≤ cs.size
theorem Rect.lt {W : World} {g n : Nat} (h : Rect W g n) : g < W.heap.size := by obtain ⟨cs, t, h, _⟩ := h; exact Rk.lt_of_block h
theorem Rect.le {W : World} {g n n' : Nat} (h : Rect W g n) (hn : n' ≤ n) : Rect W g n' := by obtain ⟨cs, t, h, h2⟩ := h; exact ⟨cs, t, h, by omega⟩
theorem Rect.cell {W : World} {g n : Nat} (h : Rect W g n) {i : Nat} (hi : i < n) : ∃ v, W.cell? ⟨g, i, none⟩ = some v := by
  obtain ⟨cs, t, h, h2⟩ := h
  exact ⟨cs[i]'(by omega), by rw [Lib.cell_of_heap h, Array.getElem?_eq_getElem (by omega)]⟩
theorem Rect.soft {W : World} {g n : Nat} (h : Rect W g n) (i : Nat) : W.frozen? ⟨g, i, none⟩ = false := by
  obtain ⟨cs, t, h, h2⟩ := h
  exact Lib.frozen_of_heap h i
theorem set_ne {W : World} {g i : Nat} {v : Value} {b : Nat} (h : b ≠ g) : (W.setCell ⟨g, i, none⟩ v).heap[b]? = W.heap[b]? := Below.heap_setCell _ _ _ _ h
theorem Rect.set {W : World} {g n : Nat} (h : Rect W g n) (g' i : Nat) (v : Value) : Rect (W.setCell ⟨g', i, none⟩ v) g n := by
  obtain ⟨cs, t, h, h2⟩ := h
  by_cases e : g = g'
  · subst e
    exact ⟨_, t, setCell_at (k := i) h v, by simpa using h2⟩
  · exact ⟨cs, t, (set_ne e).trans h, h2⟩
theorem cell_set {W : World} {g i : Nat} {u : Value} (h : W.cell? ⟨g, i, none⟩ = some u) {g' i' : Nat} (v : Value) (hne : g ≠ g' ∨ i ≠ i') {n : Nat} (hr : Rect W g n) : (W.setCell ⟨g', i', none⟩ v).cell? ⟨g, i, none⟩ = some u := by
  obtain ⟨cs, t, h1, h2⟩ := hr
  rw [Lib.cell_of_heap h1] at h
  by_cases e : g = g'
  · subst e
    have hi : i ≠ i' := by rcases hne with c | c; exact absurd rfl c; exact c
    rw [Lib.cell_of_heap (setCell_at (k := i') h1 v)]
    rw [Array.getElem?_setIfInBounds_ne (by omega)]
    exact h
  · rw [Lib.cell_of_heap ((set_ne e).trans h1)]
    exact h
theorem rect_flds {W : World} {v : Value} {L : List Fld} (h : FldsOwn W v L) (h0 : L ≠ []) : ∃ g c, v = .slice (some ⟨g, 0, none⟩) L.length c ∧ Rect W g (L.length * 4) := by
  rcases h with ⟨e, _⟩ | ⟨g, c, cs, t, e, hg, hc, h1⟩
  · exact absurd e h0
  · refine ⟨g, c, e, cs, t, hc, ?_⟩
    have hl : 0 < L.length := by cases L with | nil => exact absurd rfl h0 | cons => simp
    obtain ⟨_, _, _, h4⟩ := h1 (L.length - 1) (by omega)
    have := (Array.getElem?_eq_some_iff.1 h4).1
    omega
theorem rect_own {W : World} {base : Nat} {v : Value} {M : List Zp} (h : OwnP W base v M) (h0 : 0 < M.length) : ∃ g c, v = .slice (some ⟨g, 0, none⟩) M.length c ∧ base ≤ g ∧ Rect W g (M.length * 3) ∧ ∀ j (hj : j < M.length), W.cell? ⟨g, j * 3 + 2, none⟩ = some (slv (M[j]).1.f) := by
  obtain ⟨g, c, e, hg, hc⟩ := ownP_at h h0
  obtain ⟨g', c', e', hb, _⟩ := Rk.own_form h (by rw [rowsZ_len]; exact h0)
  rw [e] at e'
  injection e' with e1 _ _
  injection e1 with e1
  injection e1 with e1 _
  subst e1
  refine ⟨g, c, e, hb, ?_, fun j hj => (hc W rfl j hj).2.2⟩
  subst e
  rcases h.2 with ⟨e, h0'⟩ | ⟨g2, cap, cur, e, _, hk, _, _, _, htk⟩
  · cases e
  · injection e with e1 _ _
    injection e1 with e1
    injection e1 with e1 _
    subst e1
    refine ⟨cur, _, hk, ?_⟩
    have := congrArg List.length htk
    rw [List.length_take, rowC_len flatP, rowsZ_len, Array.length_toList] at this
    omega
/-- The copy, written into: what stays. -/
structure SpW (w w3 : World) (top : Nat) (M : List Zp) (vm : Value) (W : World) : Prop where
  row : 0 < M.length → ∃ g0 c, vm = .slice (some ⟨g0, 0, none⟩) M.length c ∧ w.heap.size ≤ g0 ∧ g0 < top ∧ Rect W g0 (M.length * 3) ∧ (∀ j (hj : j < M.length), W.cell? ⟨g0, j * 3 + 2, none⟩ = some (slv (M[j]).1.f)) ∧
    ∀ j (hj : j < M.length), 0 < (M[j]).2.flds.length → ∃ g c, slv (M[j]).1.f = .slice (some ⟨g, 0, none⟩) (M[j]).2.flds.length c ∧ Rect W g ((M[j]).2.flds.length * 4) ∧ g ≠ g0 ∧ w.heap.size ≤ g ∧ g < top
  form : ∀ j (hj : j < M.length), ∃ p c, slv (M[j]).1.f = .slice p (M[j]).2.flds.length c
  out : ∀ g, top ≤ g → W.heap[g]? = w3.heap[g]?
  size : W.heap.size = w3.heap.size
  bel : Below w.heap.size w W
theorem SpW.set {w w3 W : World} {top : Nat} {M : List Zp} {vm : Value} (h : SpW w w3 top M vm W) {g i : Nat} (v : Value) (hg : w.heap.size ≤ g) (ht : g < top) (hne : ∀ g0 c, vm = .slice (some ⟨g0, 0, none⟩) M.length c → g ≠ g0 ∨ ∀ j, i ≠ j * 3 + 2) : SpW w w3 top M vm (W.setCell ⟨g, i, none⟩ v) where
  row h0 := by
    obtain ⟨g0, c, e, h1, h2, h3, h4, h5⟩ := h.row h0
    refine ⟨g0, c, e, h1, h2, h3.set g i v, fun j hj => cell_set (h4 j hj) v ?_ h3, fun j hj hl => ?_⟩
    · rcases hne g0 c e with c | c
      · exact .inl fun e => c e.symm
      · exact .inr fun e => c j e.symm
    · obtain ⟨g2, c2, e2, r2, n2, l2, t2⟩ := h5 j hj hl
      exact ⟨g2, c2, e2, r2.set g i v, n2, l2, t2⟩
  form := h.form
  out b hb := (set_ne (by omega)).trans (h.out b hb)
  size := by rw [← h.size]; simp [World.setCell]
  bel := h.bel.setCell (p := ⟨g, i, none⟩) hg v
theorem sp_start {w w1 w3 : World} {vm : Value} {M : List Zp} (ho : OwnP w1 w.heap.size vm M) (hb : Below w.heap.size w w1) (he : ∀ z ∈ M, Elem w.heap.size w1 vm z) (h3 : Below w1.heap.size w1 w3) : SpW w w3 w1.heap.size M vm w3 where
  row h0 := by
    obtain ⟨g0, c, e, h1, h2, h4⟩ := rect_own (Rk.own_below ho h3) h0
    have hg0 : g0 < w1.heap.size := (Rk.own_block ho g0 (by rw [e]; rfl)).2
    refine ⟨g0, c, e, h1, hg0, h2, h4, fun j hj hl => ?_⟩
    obtain ⟨lo, hi, c1, c2, c3, c4, c5⟩ := he _ (List.getElem_mem hj)
    have hn : (M[j]).2.flds ≠ [] := fun e => by rw [e] at hl; exact absurd hl (Nat.lt_irrefl _)
    obtain ⟨_, hf⟩ := c3 w3 (Nat.le_trans c2 h3.size) (fun g g1 g2 => h3.block g (by omega))
    obtain ⟨g, c', e', r'⟩ := rect_flds hf hn
    have hgb := c5 hn g (by rw [e']; rfl)
    have hne := c4 g0 (by rw [e]; rfl)
    exact ⟨g, c', e', r', by omega, by omega, by omega⟩
  form j hj := by
    obtain ⟨lo, hi, c1, c2, c3, c4, c5⟩ := he _ (List.getElem_mem hj)
    exact (c3 w1 c2 fun g _ _ => rfl).2.form
  out g _ := rfl
  size := rfl
  bel := hb.trans (h3.mono hb.size)
theorem tw_pts {w w1 : World} {vm : Value} {M : List Zp} (ho : OwnP w1 w.heap.size vm M) (he : ∀ z ∈ M, Elem w.heap.size w1 vm z) : PtsAt w1 vm (ptsZ M) :=
  pts_own ho (fun z hz => by
    obtain ⟨lo, hi, c1, c2, c3, c4, c5⟩ := he z hz
    exact (c3 w1 c2 fun g _ _ => rfl).1) (Below.refl _ _)
theorem own_setI {w : World} {base g n cap : Nat} {L : List Int} (hn : L.length = n) (h : Go.Proofs.Ytkmfkgjkgnlfnaa.Own w base (.slice (some ⟨g, 0, none⟩) n cap) L) (i : Nat) (hi : i < n) (x : Int) : Go.Proofs.Ytkmfkgjkgnlfnaa.Own (w.setCell ⟨g, i, none⟩ (.int .i64 x)) base (.slice (some ⟨g, 0, none⟩) n cap) (L.set i x) := by
  subst hn
  have h1 := own_set flatI (own_int.1 h) i hi x
  rw [Nat.mul_one] at h1
  exact own_int.2 h1
end Wd
end Go.Proofs.Ytkmfkgjkgnlfnaa
