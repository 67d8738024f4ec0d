/- The library's SortFunc over rows of structs of k cells. Conditions: those that each theorem names. -/
import Derived.Test.YtfgmkdghpdpdkaaRk
import Derived.Shelf.SlSortCmp.NoneTotal
namespace Go.Proofs.Ytfgmkdghpdpdkaa
set_option linter.unusedVariables false
open Go Go.RowKit Go.Shelf Go.Sort
namespace Rk
/-- Only draws, and new blocks. -/
def Gn (w w' : World) : Prop := ∃ q os, w' = grow (w.drewN q) os
theorem Gn.refl (w : World) : Gn w w := ⟨0, #[], by rw [grow_empty]; rfl⟩
theorem Gn.drew {w w' : World} (h : Gn w w') : Gn w w'.drew := by
  obtain ⟨q, os, rfl⟩ := h
  exact ⟨q + 1, os, rfl⟩
theorem Gn.alloc {w w' : World} (h : Gn w w') (o : Obj) : Gn w (w'.alloc o) := by
  obtain ⟨q, os, rfl⟩ := h
  exact ⟨q, os ++ #[o], by rw [alloc_eq_grow, grow_grow]⟩
theorem Gn.trans {w w' w2 : World} (h : Gn w w') (k : Gn w' w2) : Gn w w2 := by
  obtain ⟨q, os, rfl⟩ := h
  obtain ⟨q', os', rfl⟩ := k
  exact ⟨q + q', os ++ os', by show grow (grow ((w.drewN q).drewN q') os) os' = _; rw [grow_grow, World.drewN_drewN]⟩
theorem Gn.drewN {w w' : World} (h : Gn w w') (n : Nat) : Gn w (w'.drewN n) := by
  obtain ⟨q, os, rfl⟩ := h
  exact ⟨q + n, os, by show grow ((w.drewN q).drewN n) os = _; rw [World.drewN_drewN]⟩
theorem Gn.below {w w' : World} (h : Gn w w') : Below w.heap.size w w' := by
  obtain ⟨q, os, rfl⟩ := h
  refine ⟨rfl, rfl, rfl, by show w.heap.size ≤ (w.heap ++ os).size; simp, fun k hk => ?_⟩
  show (w.heap ++ os)[k]? = w.heap[k]?
  exact Array.getElem?_append_left hk
section
variable {α : Type} {P : Program} {enc : α → List Value} {k T ST b : Nat}
theorem flat_rowC [Inhabited α] (F : Flat P enc k T ST b) (L : List α) : flatK enc k L.toArray = (rowC enc L).toArray := by
  refine ext_get! (by rw [size_flatK]; simp [rowC_len F]) fun t ht => ?_
  rw [size_flatK, List.size_toArray] at ht
  rw [get_flatK _ _ _ _ (by simpa using ht)]
  obtain ⟨q, r, hr, hq, rfl⟩ := place ht
  have h1 : (q * k + r) / k = q := by rw [Nat.mul_comm, Nat.mul_add_div F.pos, Nat.div_eq_of_lt hr, Nat.add_zero]
  have h2 : (q * k + r) % k = r := by rw [Nat.mul_comm, Nat.mul_add_mod, Nat.mod_eq_of_lt hr]
  rw [h1, h2]
  have h0 : L.toArray[q]! = L[q] := by simp [hq]
  rw [h0]
  have a := rowC_at F L q hq r hr
  have hi : q * k + r < (rowC enc L).length := by rw [rowC_len F]; exact ht
  have hi2 : r < (enc L[q]).length := by rw [F.len]; exact hr
  rw [List.getElem?_eq_getElem hi, List.getElem?_eq_getElem hi2] at a
  rw [getElem!_pos (enc L[q]) r hi2, getElem!_pos (rowC enc L).toArray (q * k + r) (by simpa using hi)]
  simpa using (Option.some.inj a).symm
variable [Inhabited α] {w : World} {base g n cap : Nat} {L : List α}
theorem own_holds (F : Flat P enc k T ST b) (h : Own enc k T w base (.slice (some ⟨g, 0, none⟩) L.length cap) L) : HoldsK enc k w g 0 L.toArray := by
  unfold HoldsK
  rw [flat_rowC F]
  intro j hj
  have hj' : j < (rowC enc L).length := by simpa using hj
  have hl := rowC_len F L
  refine ⟨?_, h.frozenAt _⟩
  rw [Nat.zero_add, h.cellAt j (by omega), List.getElem?_eq_getElem hj']
  simp [hj']
theorem own_sorted (F : Flat P enc k T ST b) {q : Nat} {os : Array Obj} {ys : List α} (h : Own enc k T w base (.slice (some ⟨g, 0, none⟩) L.length cap) L) (hy : ys.length = L.length) :
    Own enc k T (sortWorldK enc k w g 0 q ys.toArray os) base (.slice (some ⟨g, 0, none⟩) L.length cap) ys := by
  have hlg := (h.lt g rfl).2
  rcases h.2 with ⟨e0, _⟩ | ⟨g', cap', cur, e0, hb, hg, hn, hm, hs, ht⟩
  · cases e0
  · injection e0 with e1 _ e3
    injection e1 with e1
    injection e1 with e1
    subst e1; subst e3
    have hl := rowC_len F ys
    show World.ownsRow _ _ _ _ _ _ _
    rw [hy]
    refine ⟨by rw [hl, hy], .inr ⟨g, cap, putCells id 0 (rowC enc ys).toArray cur, rfl, hb, ?_, hn, hm, by simpa [putCells] using hs, ?_⟩⟩
    · show (grow (putRowK enc k (Sort.ahead w q) g 0 ys.toArray) os).heap[g]? = _
      unfold putRowK
      rw [flat_rowC F]
      show ((putRow id (Sort.ahead w q) g 0 (rowC enc ys).toArray).heap ++ os)[g]? = _
      rw [Array.getElem?_append_left (by simp [putRow, mapBlock, Sort.ahead]; exact hlg)]
      simp [putRow, mapBlock, Sort.ahead, Array.getElem?_modify, hg, onCells]
    · apply List.ext_getElem?
      intro j
      rw [List.getElem?_take, Array.getElem?_toList]
      by_cases hj : j < L.length * k
      · have hjc : j < cur.size := by rw [hs]; have := Nat.mul_le_mul_right k hn; omega
        have hjy : j < (rowC enc ys).length := by rw [hl, hy]; exact hj
        simp only [if_pos hj, putCells, Array.getElem?_mapIdx, Array.getElem?_eq_getElem hjc, Option.map_some]
        rw [if_pos (by simp; exact hjy), List.getElem?_eq_getElem hjy]
        simp [hjy]
      · rw [if_neg hj, List.getElem?_eq_none (by rw [hl, hy]; omega)]
theorem below_sorted {B q : Nat} {w0 : World} {os : Array Obj} {d : Array α} (h : Below B w0 w) (hg : B ≤ g) (hB : B ≤ w.heap.size) : Below B w0 (sortWorldK enc k w g 0 q d os) := by
  have h1 : Below B w0 (putRowK enc k (Sort.ahead w q) g 0 d) := ⟨h.os, h.tape, h.output, by simpa [putRowK, putRow, mapBlock, Sort.ahead] using h.size, fun k hk => by
    rw [← h.block k hk]
    simp [putRowK, putRow, mapBlock, Sort.ahead, Array.getElem?_modify, show g ≠ k by omega]⟩
  have h2 : Gn (putRowK enc k (Sort.ahead w q) g 0 d) (sortWorldK enc k w g 0 q d os) := ⟨0, os, rfl⟩
  exact h1.trans (h2.below.mono (by simpa [putRowK, putRow, mapBlock, Sort.ahead] using hB))
/-- SortFunc by an order of which no two elements are equal. -/
theorem sortfunc {ρ : Ren} (S6 : SlLaysF0.n6 P ρ) (F : Flat P enc k (ρ.t 24) ST b) (aE : ∀ w, (isAgg (ρ.t 24)).run P w = .ok true w) (zE : ∀ w, (Go.sizeOf (ρ.t 24)).run P w = .ok k w) (cf : α → α → Int) (hO : SWO (ltOf cf)) (hT : ∀ x y, (ltOf cf) x y = false → (ltOf cf) y x = false → x = y)
    (fn : Nat) (cb : Array Value) (L : List α) (v : Value) (base : Nat) (w : World) (eg : ∀ args w, (callFunc fn args).run P w = .ok (.enter fn args) w) (hcmp : ∀ g, base ≤ g → g < w.heap.size → CmpLays P fn cb enc k cf g 0 L.toArray.size w)
    (h : Own enc k (ρ.t 24) w base v L) (hB : base ≤ w.heap.size) (hl : L.length < 4611686018427387904) :
    Calls P (ρ.f 6) #[v, .func (.func fn) #[] cb] w fun e w' => e = .returned (.tuple #[]) ∧ Own enc k (ρ.t 24) w' base v (L.mergeSort fun x y => !(ltOf cf) y x) ∧ Below base w w' := by
  rcases h.2 with ⟨rfl, h0⟩ | ⟨g, cap, cur, rfl, hb, hg, _⟩
  · have hL : L = [] := List.length_eq_zero_iff.mp h0
    subst hL
    have hcon := AnyF.slices_SortFunc_none { S6 with } none 0 (.func (.func fn) #[] cb) w
    refine hcon.mono ?_
    rintro e w' ⟨rfl, rfl⟩
    exact ⟨rfl, by simpa using h, Below.refl _ _⟩
  · have hlt := lt_of_block hg
    have hcon := AnyQ.slices_SortFunc_total S6 k aE zE enc F.len F.one cf hO fn cb g 0 cap L.toArray w eg (hcmp g hb hlt) (own_holds F h) hlt (by simpa using hl) hT
    rw [List.size_toArray] at hcon
    refine hcon.mono ?_
    rintro e w' ⟨rfl, q, os, rfl⟩
    have hy : (L.mergeSort fun x y => !(ltOf cf) y x).length = L.length := List.length_mergeSort L
    exact ⟨rfl, own_sorted F h hy, below_sorted (Below.refl _ w) hb hB⟩
end
end Rk
end Go.Proofs.Ytfgmkdghpdpdkaa
