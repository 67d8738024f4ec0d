/- The walk of FilterParts: the first points of each id, gathered. Conditions: those that each theorem names. -/
import Derived.Test.YtclmalaomofahaaGreatDoorFtV
import Derived.Test.YtclmalaomofahaaGreatDoorFtS
namespace Go.Proofs.YtclmalaomofahaaGreatDoor
set_option linter.unusedVariables false
namespace Ft
open Go Go.RowKit Go.Shelf Pq Pq.Pl Px Ids
def encI (x : Int) : List Value := [.int .i64 x]
theorem flatI : Rk.Flat Tryz.prog encI 1 3 38 8 where
  under := Tryz.underlying38
  info := Rk.info_of (z := .int .i64 0) (by kernel_rfl) rfl
  pos := by decide
  len _ := rfl
  one x u hu := by simp [encI] at hu; subst hu; rfl
theorem rowI_is (L : List Int) : Rk.rowC encI L = ints L := by
  induction L with
  | nil => rfl
  | cons x l ih => rw [Rk.rowC_cons, ih]; rfl
theorem ownI {w : World} {base : Nat} {v : Value} {L : List Int} : Own w base v L ↔ Rk.Own encI 1 3 w base v L := by
  unfold Own Rk.Own
  rw [rowI_is]
/-- What the loop has gathered of the first q points. -/
structure PaI (w1 : World) (L : List Pt) (q : Nat) (av ov : Value) (x : World) : Prop where
  bel : Below w1.heap.size w1 x
  all : Own x w1.heap.size av (allOf (L.take q))
  one : ∃ R, Rk.Own encP 3 30 x w1.heap.size ov R ∧ R.length = (ones (L.take q)).length ∧ ∀ j (h : j < R.length) (h' : j < (ones (L.take q)).length), PtW w1 R[j] (ones (L.take q))[j]
  sep : ∀ g, av.ownBlock = some g → ov.ownBlock ≠ some g
theorem PaI.start (w1 : World) (L : List Pt) : PaI w1 L 0 (.slice none 0 0) (.slice none 0 0) w1 :=
  ⟨Below.refl _ _, by simpa [allOf, ones] using own_nil w1 w1.heap.size, ⟨[], Rk.own_none _ _, by simp [ones], fun j h => by simp at h⟩, fun g h => by simp [Value.ownBlock] at h⟩
theorem PaI.pts {w1 x : World} {L : List Pt} {q : Nat} {av ov : Value} (h : PaI w1 L q av ov x) : PtsAt x ov (ones (L.take q)) := by
  obtain ⟨R, h1, h2, h3⟩ := h.one
  exact ⟨R, Rk.own_row flatP h1, h2, fun j a b => (h3 j a b).below h.bel⟩
theorem PaI.skip {w1 x : World} {L : List Pt} {q : Nat} {av ov : Value} (h : PaI w1 L q av ov x) (hq : q < L.length) (hx : (L[q]).id ∈ allOf (L.take q)) : PaI w1 L (q + 1) av ov x := by
  have e : ones (L.take (q + 1)) = ones (L.take q) := by rw [ones_next hq]; exact if_pos hx
  obtain ⟨h1, h2, h3, h4⟩ := h
  exact ⟨h1, by unfold allOf at h2 ⊢; rw [e]; exact h2, by rw [e]; exact h3, h4⟩
/-- A point whose id is new. -/
theorem PaI.next {w1 x : World} {L : List Pt} {q : Nat} {av ov : Value} (h : PaI w1 L q av ov x) (hq : q < L.length) (hx : ¬ (L[q]).id ∈ allOf (L.take q)) {r : Rp} (hr : PtW w1 r L[q]) (hn : L.length * 56 ≤ 140737488355328) :
    ∃ av' x1 ov' x2, (∀ ty, (Builtin.append_ #[38, 38] ty #[av, .slice (some ⟨x.heap.size, 0, none⟩) 1 1]).run Tryz.prog (x.alloc (.cells #[.int .i64 r.id] 3)) = .ok av' x1) ∧ Below w1.heap.size w1 x1 ∧
      (∀ ty, (Builtin.append_ #[36, 36] ty #[ov, .slice (some ⟨x1.heap.size, 0, none⟩) 1 1]).run Tryz.prog (x1.alloc (pbox r)) = .ok ov' x2) ∧ PaI w1 L (q + 1) av' ov' x2 := by
  have hlen : (ones (L.take q)).length ≤ q := (ones_take L q (by omega)).2.1
  have hal : (allOf (L.take q)).length ≤ q := by unfold allOf; simpa using hlen
  obtain ⟨h1, h2, ⟨R, h3, h4, h5⟩, h6⟩ := h
  have e : ones (L.take (q + 1)) = ones (L.take q) ++ [L[q]] := by rw [ones_next hq]; exact if_neg hx
  have ha := Rk.fresh_alloc x (.cells #[.int .i64 r.id] 3)
  have oa : Rk.Own encI 1 3 (x.alloc (.cells #[.int .i64 r.id] 3)) w1.heap.size av (allOf (L.take q)) := Rk.own_below (ownI.1 h2) ha
  have hs1 : (x.alloc (.cells #[.int .i64 r.id] 3)).heap.size = x.heap.size + 1 := by simp
  obtain ⟨av', x1, ra, o1, g1, b1, _⟩ := Rk.append_el (x := r.id) flatI oa (Rk.heap_last x (.cells #[.int .i64 r.id] 3)) (by omega) (by unfold maxLen; omega) (by have := h1.size; omega)
  have lt_a : ∀ g, av.ownBlock = some g → w1.heap.size ≤ g ∧ g < x.heap.size := fun g hg => Rk.own_block (ownI.1 h2) g hg
  have lt_o : ∀ g, ov.ownBlock = some g → w1.heap.size ≤ g ∧ g < x.heap.size := fun g hg => Rk.own_block h3 g hg
  have bx1 : Below w1.heap.size w1 x1 := (h1.trans (ha.mono h1.size)).grown g1 (by have := h1.size; omega) (fun g hg => (lt_a g hg).1)
  have h3' : Rk.Own encP 3 30 x1 w1.heap.size ov R := Rk.own_keep h3 fun g hg hgl => by
    rw [g1.block g (by omega) (fun c => h6 g c.symm hg), Rk.heap_old _ _ hgl]
  have hb := Rk.fresh_alloc x1 (pbox r)
  have oo : Rk.Own encP 3 30 (x1.alloc (pbox r)) w1.heap.size ov R := Rk.own_below h3' hb
  have hs2 : (x1.alloc (pbox r)).heap.size = x1.heap.size + 1 := by simp
  obtain ⟨ov', x2, ro, o2, g2, b2, _⟩ := Rk.append_el (x := r) flatP oo (Rk.heap_last x1 (pbox r)) (by omega) (by unfold maxLen; omega) (by have := bx1.size; omega)
  have lt_o1 : ∀ g, ov.ownBlock = some g → w1.heap.size ≤ g := fun g hg => (lt_o g hg).1
  have bx2 : Below w1.heap.size w1 x2 := (bx1.trans (hb.mono bx1.size)).grown g2 (by have := bx1.size; omega) lt_o1
  have sep1 : ∀ g, av'.ownBlock = some g → ov.ownBlock ≠ some g := fun g hg c => by
    rcases b1 with b1 | b1
    · exact h6 g (b1 ▸ hg) c
    · rw [b1] at hg
      injection hg with hg
      have := (lt_o g c).2
      omega
  have lt_a1 : ∀ g, av'.ownBlock = some g → g < x1.heap.size := fun g hg => (Rk.own_block o1 g hg).2
  have o1' : Rk.Own encI 1 3 x2 w1.heap.size av' (allOf (L.take q) ++ [r.id]) := Rk.own_keep o1 fun g hg hgl => by
    rw [g2.block g (by omega) (fun c => sep1 g hg c.symm), Rk.heap_old _ _ hgl]
  have eid : r.id = (L[q]).id := hr.1
  refine ⟨av', x1, ov', x2, ra, bx1, ro, bx2, ?_, ⟨R ++ [r], o2, by rw [e]; simp [h4], fun j hj hj' => ?_⟩, fun g hg c => ?_⟩
  · rw [ownI]
    have e2 : allOf (L.take (q + 1)) = allOf (L.take q) ++ [r.id] := by unfold allOf; rw [e, eid]; simp
    rw [e2]
    exact o1'
  · have hj2 : j < (ones (L.take q) ++ [L[q]]).length := by rw [← e]; exact hj'
    have e3 : (ones (L.take (q + 1)))[j] = (ones (L.take q) ++ [L[q]])[j] := by simp only [e]
    rw [e3]
    rcases Nat.lt_or_ge j R.length with c | c
    · rw [List.getElem_append_left c, List.getElem_append_left (by omega)]
      exact h5 j c (by omega)
    · have : j = R.length := by simp at hj; omega
      subst this
      have a1 : (R ++ [r])[R.length] = r := by simp
      have a2 : (ones (L.take q) ++ [L[q]])[R.length] = L[q] := by simp [h4]
      rw [a1, a2]
      exact hr
  · rcases b2 with b2 | b2
    · exact sep1 g hg (b2 ▸ c)
    · rw [b2] at c
      injection c with c
      have := lt_a1 g hg
      omega
end Ft
end Go.Proofs.YtclmalaomofahaaGreatDoor
