/- The library's CompactFunc at entries, by the program's order. Conditions: those that each theorem names. -/
import Derived.Test.YtioidkbpjkcjeaaRnB
import Derived.Test.YtioidkbpjkcjeaaGr
import Derived.Shelf.SlSortCmp.QuietGrown
import Derived.Laws.OwnMore
import Derived.Lib.SliceRun
import Derived.Deep.LoopGhost
namespace Go.Proofs.Ytioidkbpjkcjeaa
set_option linter.unusedVariables false
open Go Go.RowKit Go.Shelf Go.Sort
namespace Rn
theorem Gn.gr {S : Nat → Prop} {w w' : World} (h : Gn w w') : Gr S w w' := Gr.of_below h.below (fun b hb hlt => absurd hb (Nat.not_le.2 hlt))
theorem compare_enters : ∀ args w, (callFunc 21 args).run Try.prog w = .ok (.enter 21 args) w := enters_of Try.func21 (by kernel_rfl) rfl
theorem alike_enters : ∀ args w, (callFunc 29 args).run Try.prog w = .ok (.enter 29 args) w := enters_of Try.func29 (by kernel_rfl) rfl
/-- The order as a value. -/
abbrev cmpV : Value := .func (.func 21) #[] #[]
set_option maxHeartbeats 1000000 in
set_option maxRecDepth 100000 in
theorem alike_any (X : Nat) (a b : En) (w : World) (hX : X < w.heap.size) (hm : w.cell? ⟨X, 0, none⟩ = some cmpV) :
    Calls Try.prog 29 #[hv a, hv b, .pointer (some ⟨X, 0, none⟩)] w fun e w' => e = .returned (.bool (decide (a = b))) ∧ Gn w w' := by
  obtain ⟨⟨a0, a1⟩, ⟨b0, b1⟩, hbe⟩ := two_boxes w a b
  have hm1 := hbe.below.cell (p := ⟨X, 0, none⟩) hX
  rw [hm] at hm1
  have hen := compare_enters
  obtain ⟨r, hr⟩ : ∃ r, r = decide (a = b) := ⟨_, rfl⟩
  rw [← hr]
  have HR : Hid (r = (cfE a b == 0)) := Lib.hid (by rw [hr, Bool.eq_iff_iff, decide_eq_true_eq, beq_iff_eq, cf_zero])
  obtain ⟨ia, sa⟩ := a
  obtain ⟨ib, sb⟩ := b
  simp only at a0 a1 b0 b1
  have HC := Lib.hid (fun W => compare_any (ia, sa) (ib, sb) W)
  have HB := Lib.hid hbe
  generalize cfE (ia, sa) (ib, sb) = c at *
  clear hbe hm hr
  go_enter Try.func29, Try.ntmps29
  go_wp2_with fail
  go_at_fn 21
  refine (HC.out _).mono ?_
  rintro e w2 ⟨rfl, hg⟩
  have HG := Lib.hid (HB.out.trans hg)
  clear hg a0 a1 b0 b1 hm1
  go_wp2_with fail
  go_ret
  exact ⟨by rw [HR.out]; rfl, HG.out⟩
/-! ### A row that is turned in place -/
def fnV (X : Nat) : Value := .func (.func 29) #[] #[.pointer (some ⟨X, 0, none⟩)]
structure RwM (w : World) (B X g cap : Nat) (R : List En) : Prop where
  met : w.cell? ⟨X, 0, none⟩ = some cmpV
  own : OwnH w B (.slice (some ⟨g, 0, none⟩) R.length cap) R
  neX : g ≠ X
  ltX : X < w.heap.size
section
variable {w w' : World} {B X g cap : Nat} {R : List En}
theorem own_gn {v : Value} (h : OwnH w B v R) (k : Gn w w') : OwnH w' B v R := by
  refine ⟨h.1, ?_⟩
  rcases h.2 with x | ⟨g', cap', cur, e, hb, hg, r⟩
  · exact .inl x
  · refine .inr ⟨g', cap', cur, e, hb, ?_, r⟩
    have hlt : g' < w.heap.size := by
      rcases Nat.lt_or_ge g' w.heap.size with c | c
      · exact c
      · rw [Array.getElem?_eq_none c] at hg; cases hg
    rw [k.block hlt]; exact hg
theorem RwM.gn (h : RwM w B X g cap R) (k : Gn w w') : RwM w' B X g cap R where
  met := (k.below.cell (p := ⟨X, 0, none⟩) h.ltX).trans h.met
  own := own_gn h.own k
  neX := h.neX
  ltX := Nat.lt_of_lt_of_le h.ltX k.size
theorem get!_of {R : List En} {i : Nat} (hi : i < R.length) : R[i]! = R[i] := by simp [hi]
theorem RwM.at (h : RwM w B X g cap R) {i : Nat} (hi : i < R.length) : w.cell? ⟨g, i * 2, none⟩ = some (.int .i64 (R[i]!).1) ∧ w.cell? ⟨g, i * 2 + 1, none⟩ = some (.int .i64 (R[i]!).2) := by
  obtain ⟨c0, c1⟩ := hCells_at R i hi
  rw [get!_of hi]
  exact ⟨(h.own.cellAt _ (by omega)).trans c0, (h.own.cellAt _ (by omega)).trans c1⟩
theorem hCells_set : ∀ (L : List En) (i : Nat) (x : En), ((hCells L).set (i * 2) (.int .i64 x.1)).set (i * 2 + 1) (.int .i64 x.2) = hCells (L.set i x)
  | [], i, x => by simp [hCells]
  | y :: r, 0, x => rfl
  | y :: r, i + 1, x => by
    have := hCells_set r i x
    have e : hCells (y :: r) = .int .i64 y.1 :: .int .i64 y.2 :: hCells r := rfl
    have e2 : hCells ((y :: r).set (i + 1) x) = .int .i64 y.1 :: .int .i64 y.2 :: hCells (r.set i x) := rfl
    rw [e, e2, ← this, show (i + 1) * 2 = i * 2 + 1 + 1 by omega]
    rfl
theorem own_set (h : OwnH w B (.slice (some ⟨g, 0, none⟩) R.length cap) R) (i : Nat) (x : En) :
    OwnH ((w.setCell ⟨g, i * 2, none⟩ (.int .i64 x.1)).setCell ⟨g, i * 2 + 1, none⟩ (.int .i64 x.2)) B (.slice (some ⟨g, 0, none⟩) R.length cap) (R.set i x) := by
  obtain ⟨h1, -⟩ := h.stored (i * 2) (.int .i64 x.1)
  obtain ⟨h2, -⟩ := h1.stored (i * 2 + 1) (.int .i64 x.2)
  rw [hCells_set] at h2
  show World.ownsRow _ _ _ _ _ _ _
  rw [List.length_set]
  exact h2
theorem RwM.set (h : RwM w B X g cap R) (i : Nat) (x : En) :
    RwM ((w.setCell ⟨g, i * 2, none⟩ (.int .i64 x.1)).setCell ⟨g, i * 2 + 1, none⟩ (.int .i64 x.2)) B X g cap (R.set i x) := by
  have hX : ∀ (W : World) j u o, (W.setCell ⟨g, j, none⟩ u).cell? ⟨X, o, none⟩ = W.cell? ⟨X, o, none⟩ := fun W j u o => World.cell?_setCell_far _ _ _ _ h.neX
  exact ⟨by rw [hX, hX]; exact h.met, by rw [List.length_set]; exact own_set h.own i x, h.neX, by simpa using h.ltX⟩
theorem gr_set (h : Gr (one' g) w w') (j : Nat) (u : Value) : Gr (one' g) w (w'.setCell ⟨g, j, none⟩ u) := h.setCell (a := ⟨g, j, none⟩) (fun _ => rfl) u
/-- The row cut to its first elements. -/
theorem own_cut {k : Nat} (h : OwnH w B (.slice (some ⟨g, 0, none⟩) R.length cap) R) (hk : k ≤ R.length) (h0 : 0 < k) : OwnH w B (.slice (some ⟨g, 0, none⟩) (R.take k).length cap) (R.take k) := by
  rcases h.2 with ⟨e, _⟩ | ⟨g', cap', cur, e, hb, hg, h1, h2, h3, h4⟩
  · cases e
  · injection e with e1 e2 e3
    injection e1 with e1
    injection e1 with e1
    subst e1; subst e3
    have hl : (R.take k).length = k := by simp; omega
    have hc : hCells (R.take k) = (hCells R).take (k * 2) := by
      have e5 : hCells R = hCells (R.take k) ++ hCells (R.drop k) := by rw [← hCells_add, List.take_append_drop]
      have e6 : (hCells (R.take k)).length = k * 2 := by rw [hCells_len, hl]
      rw [e5, ← e6, List.take_left]
    show World.ownsRow _ _ _ _ _ _ _
    rw [hl]
    refine ⟨by rw [hCells_len, hl], .inr ⟨g, cap, cur, rfl, hb, hg, by omega, h2, h3, ?_⟩⟩
    rw [hc, ← h4, List.take_take, Nat.min_eq_left (by omega)]
/-- Cells are cleared behind its first ones. -/
theorem heap_setCells {T : TypeId} : ∀ (vs : List Value) (w : World) (o : Nat) (cur : Array Value), w.heap[g]? = some (.cells cur T (0, 0)) → ∃ cur', (w.setCells g o vs).heap[g]? = some (.cells cur' T (0, 0)) ∧ cur'.size = cur.size ∧ ∀ j, j < o → cur'[j]? = cur[j]?
  | [], w, o, cur, h => ⟨cur, h, rfl, fun _ _ => rfl⟩
  | v :: r, w, o, cur, h => by
    have h1 := heap_setCell_same w g o _ _ v h
    obtain ⟨cur', a, b, c⟩ := heap_setCells r (w.setCell ⟨g, o, none⟩ v) (o + 1) _ h1
    refine ⟨cur', a, by rw [b]; simp, fun j hj => ?_⟩
    rw [c j (by omega), Array.getElem?_setIfInBounds, if_neg (by omega)]
theorem own_cleared {k : Nat} (h : OwnH w B (.slice (some ⟨g, 0, none⟩) R.length cap) R) (hk : k ≤ R.length) (h0 : 0 < k) (vs : List Value) : OwnH (w.setCells g (k * 2) vs) B (.slice (some ⟨g, 0, none⟩) (R.take k).length cap) (R.take k) := by
  have h' := own_cut h hk h0
  rcases h'.2 with ⟨e, _⟩ | ⟨g', cap', cur, e, hb, hg, h1, h2, h3, h4⟩
  · cases e
  · injection e with e1 e2 e3
    injection e1 with e1
    injection e1 with e1
    subst e1; subst e3
    obtain ⟨cur', a, b, c⟩ := heap_setCells vs w (k * 2) cur hg
    have hl : (R.take k).length = k := by simp; omega
    refine ⟨h'.1, .inr ⟨g, cap, cur', rfl, hb, a, h1, h2, by rw [b]; exact h3, ?_⟩⟩
    rw [← h4]
    apply List.ext_getElem?
    intro j
    rw [List.getElem?_take, List.getElem?_take, hl, Array.getElem?_toList, Array.getElem?_toList]
    split
    · exact c j (by assumption)
    · rfl
theorem gr_setCells : ∀ (vs : List Value) (o : Nat) {w' : World}, Gr (one' g) w w' → Gr (one' g) w (w'.setCells g o vs)
  | [], _, _, h => h
  | v :: r, o, _, h => gr_setCells r (o + 1) (gr_set h o v)
end
/-- 'clear' of entries. -/
theorem run_clear_en (w : World) (ty : TypeId) (g o n c : Nat) (hn : 0 < n) (hc : ∀ j, j < n * 2 → (w.cell? ⟨g, o + j, none⟩).isSome = true) (hf : ∀ j, j < n * 2 → w.frozen? ⟨g, o + j, none⟩ = false) :
    (Builtin.clear_ #[22] ty #[.slice (some ⟨g, o, none⟩) n c]).run Try.prog w = .ok (.tuple #[]) (w.setCells g o (List.replicate (n * 2) (.int .i64 0))) := by
  have hv : ∀ w, (zeroValue 24).run Try.prog w = .ok (.agg #[.int .i64 0, .int .i64 0]) w := Try.zeroValue24
  have hzc : (Builtin.zeroCells (Value.agg #[.int .i64 0, .int .i64 0]).cells n).toList = List.replicate (n * 2) (.int .i64 0) := by
    simp [Builtin.zeroCells, Value.cells]
    apply List.ext_getElem
    · simp [Nat.mul_comm]
    · intro i h1 h2
      have : i % 2 = 0 ∨ i % 2 = 1 := by omega
      rcases this with h | h <;> simp [h]
  have hst := run_storeCells_cells (P := Try.prog) g o (List.replicate (n * 2) (.int .i64 0)) 0 w (by simpa using hc) (by simpa using hf) (by intro v hv'; rw [List.eq_of_mem_replicate hv']; rfl)
  simp only [Nat.add_zero] at hst
  obtain ⟨m, rfl⟩ : ∃ m, n = m + 1 := ⟨n - 1, by omega⟩
  simp [Builtin.clear_, run_underlying Try.underlying22, hv, hzc, hst]
end Rn
end Go.Proofs.Ytioidkbpjkcjeaa
