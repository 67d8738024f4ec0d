/- Entries as values; the program's order; the document's. Conditions: those that each theorem names. -/
import Derived.Test.YtioidkbpjkcjeaaRnPlain
import Derived.Test.YtioidkbpjkcjeaaShelf
import Derived.WalkKit
import Derived.WalkSpells
import Derived.WalkLawsBesides
import Derived.Laws.Rows
import Derived.Lib.Walk
import Derived.Deep.RegionHeld3
import Derived.Sort.Grow
namespace Go.Proofs.Ytioidkbpjkcjeaa
set_option linter.unusedVariables false
open Go Go.RowKit Go.Shelf Go.Sort
namespace Rn
/-! ### How a call's world grows -/
/-- Only draws, and new blocks. -/
def Gn (w w' : World) : Prop := ∃ q os, w' = grow (w.drewN q) os
theorem Gn.refl (w : World) : Gn w w := ⟨0, #[], by rw [grow_empty]; rfl⟩
theorem Gn.drew {w w' : World} (h : Gn w w') : Gn w w'.drew := by
  obtain ⟨q, os, rfl⟩ := h
  exact ⟨q + 1, os, rfl⟩
theorem Gn.alloc {w w' : World} (h : Gn w w') (o : Obj) : Gn w (w'.alloc o) := by
  obtain ⟨q, os, rfl⟩ := h
  exact ⟨q, os ++ #[o], by rw [alloc_eq_grow, grow_grow]⟩
theorem Gn.trans {w w' w2 : World} (h : Gn w w') (k : Gn w' w2) : Gn w w2 := by
  obtain ⟨q, os, rfl⟩ := h
  obtain ⟨q', os', rfl⟩ := k
  exact ⟨q + q', os ++ os', by show grow (grow ((w.drewN q).drewN q') os) os' = _; rw [grow_grow, World.drewN_drewN]⟩
theorem Gn.below {w w' : World} (h : Gn w w') : Below w.heap.size w w' := by
  obtain ⟨q, os, rfl⟩ := h
  refine ⟨rfl, rfl, rfl, by show w.heap.size ≤ (w.heap ++ os).size; simp, fun k hk => ?_⟩
  show (w.heap ++ os)[k]? = w.heap[k]?
  exact Array.getElem?_append_left hk
theorem heap_last (w : World) (o : Obj) : (w.alloc o).heap[w.heap.size]? = some o := by show (w.heap.push o)[w.heap.size]? = some o; simp
theorem heap_old (w : World) (o : Obj) {k : Nat} (hk : k < w.heap.size) : (w.alloc o).heap[k]? = w.heap[k]? := Below.heap_alloc _ _ _ hk
theorem fresh_alloc (w : World) (o : Obj) : Below w.heap.size w (w.alloc o) := Below.alloc (Below.refl _ w) (Nat.le_refl _) o
theorem two_cells {w : World} {g : Nat} {a b : Value} {T : TypeId} (h : w.heap[g]? = some (.cells #[a, b] T (0, 0))) : w.cell? ⟨g, 0, none⟩ = some a ∧ w.cell? ⟨g, 1, none⟩ = some b := by
  constructor <;> rw [Lib.cell_of_heap h] <;> rfl
/-- An entry as a value. -/
abbrev hv (x : En) : Value := .agg #[.int .i64 x.1, .int .i64 x.2]
abbrev hobj (x : En) : Obj := .cells #[.int .i64 x.1, .int .i64 x.2] 24
theorem two_boxes (w : World) (x y : En) :
    (((w.alloc (hobj x)).alloc (hobj y)).cell? ⟨w.heap.size, 0, none⟩ = some (.int .i64 x.1) ∧ ((w.alloc (hobj x)).alloc (hobj y)).cell? ⟨w.heap.size, 1, none⟩ = some (.int .i64 x.2)) ∧
    (((w.alloc (hobj x)).alloc (hobj y)).cell? ⟨w.heap.size + 1, 0, none⟩ = some (.int .i64 y.1) ∧ ((w.alloc (hobj x)).alloc (hobj y)).cell? ⟨w.heap.size + 1, 1, none⟩ = some (.int .i64 y.2)) ∧
    Gn w ((w.alloc (hobj x)).alloc (hobj y)) := by
  have h1 := heap_last (w.alloc (hobj x)) (hobj y)
  rw [show (w.alloc (hobj x)).heap.size = w.heap.size + 1 by simp] at h1
  exact ⟨two_cells ((heap_old _ _ (by simp)).trans (heap_last _ _)), two_cells h1, ((Gn.refl w).alloc _).alloc _⟩
theorem wrap_s {n k : Nat} (h : n ≤ maxLen) (hk : k < n) : wrap64 ((k : Int) + 1) = ((k + 1 : Nat) : Int) := by
  unfold maxLen at h; unfold wrap64; omega
theorem int_less {n k : Nat} (h : k < n) : n - (intOf (.int .i64 ((k + 1 : Nat) : Int))).toNat < n - (intOf (.int .i64 (k : Int))).toNat := by
  simp only [intOf, Int.toNat_natCast]; omega
set_option maxHeartbeats 1000000 in
theorem or_any (L : List Int) (g c : Nat) (w : World) (hc : ∀ j (h : j < L.length), w.cell? ⟨g, j, none⟩ = some (.int .i64 L[j])) (hl : L.length ≤ 1000) :
    Calls Try.prog 31 #[.slice (some ⟨g, 0, none⟩) L.length c] w fun e w' => e = .returned (.int .i64 (orL L)) ∧ w' = w := by
  obtain ⟨r, hr⟩ : ∃ r, r = orL L := ⟨_, rfl⟩
  rw [← hr]
  have HC := Lib.hid hc
  have HS : Hid (L.length ≤ maxLen) := Lib.hid (by unfold maxLen; omega)
  have HR := Lib.hid hr
  clear hc hl hr
  go_enter Try.func31, Try.ntmps31
  go_wp2
  go_loop [8] (fun i => ∃ k : Nat, k ≤ L.length ∧ i = .int .i64 k ∧ Hid (r = orL (L.drop k))) (fun i => L.length - (intOf i).toNat)
  case atStart => exact ⟨0, Nat.zero_le _, rfl, HR⟩
  case round =>
    obtain ⟨k, hk, rfl, HA⟩ := hrel
    by_cases hlt : k < L.length
    · have hcell := HC.out k hlt
      have hx : L[k]? = some L[k] := List.getElem?_eq_getElem hlt
      generalize hcc : L[k] = n at hx hcell
      have HA2 := Lib.hid (HA.out.trans (orL_at hx))
      clear hx HA hcc
      by_cases h0 : n = 0
      · subst h0
        have HN := Lib.hid (HA2.out.trans (if_pos rfl))
        go_wp2_with fail
        go_round
        case rel => exact ⟨k + 1, by omega, congrArg _ (wrap_s HS.out hlt), HN⟩
        case measure =>
          rw [wrap_s HS.out hlt]
          exact int_less hlt
      · have HN := Lib.hid (HA2.out.trans (if_neg h0))
        go_wp2_with fail
        go_ret
        rw [HN.out]
        exact ⟨rfl, rfl⟩
    · obtain rfl : k = L.length := by omega
      have HE : Hid (r = 0) := Lib.hid (by rw [HA.out, List.drop_length]; rfl)
      go_wp2_with fail
      go_ret
      rw [HE.out]
      exact ⟨rfl, rfl⟩
/-- Four cells of two boxes, and how far the world has grown. -/
def S4 (w : World) (a b : En) (x : World) : Prop :=
  x.cell? ⟨w.heap.size, 0, none⟩ = some (.int .i64 a.1) ∧ x.cell? ⟨w.heap.size, 1, none⟩ = some (.int .i64 a.2) ∧ x.cell? ⟨w.heap.size + 1, 0, none⟩ = some (.int .i64 b.1) ∧ x.cell? ⟨w.heap.size + 1, 1, none⟩ = some (.int .i64 b.2) ∧ Gn w x
set_option maxHeartbeats 4000000 in
set_option maxRecDepth 100000 in
theorem compare_any (a b : En) (w : World) :
    Calls Try.prog 21 #[hv a, hv b] w fun e w' => e = .returned (.int .i64 (cfE a b)) ∧ Gn w w' := by
  obtain ⟨⟨a0, a1⟩, ⟨b0, b1⟩, hbe⟩ := two_boxes w a b
  obtain ⟨ia, sa⟩ := a
  obtain ⟨ib, sb⟩ := b
  simp only at a0 a1 b0 b1
  obtain ⟨f, hf⟩ : ∃ f, f = Lib.compareInt := ⟨_, rfl⟩
  have H1 := Lib.hid (fun x y W => Try.cmp_Compare_int x y W)
  have HO := Lib.hid (fun (x y : Int) g W hc => or_any [x, y] g 2 W hc (by simp))
  unfold cfE
  simp only
  rw [← hf] at H1 ⊢
  clear hf
  have HZ : Hid (w.heap.size + 2 ≤ ((w.alloc (hobj (ia, sa))).alloc (hobj (ib, sb))).heap.size) := Lib.hid (by simp)
  go_enter Try.func21, Try.ntmps21
  have key : ∀ (W0 : World) (x y : Int), w.heap.size + 2 ≤ W0.heap.size → W0.cell? ⟨w.heap.size, 0, none⟩ = some (.int .i64 ia) → W0.cell? ⟨w.heap.size, 1, none⟩ = some (.int .i64 sa) → W0.cell? ⟨w.heap.size + 1, 0, none⟩ = some (.int .i64 ib) → W0.cell? ⟨w.heap.size + 1, 1, none⟩ = some (.int .i64 sb) → Gn w W0 →
      S4 w (ia, sa) (ib, sb) W0.drew ∧ S4 w (ia, sa) (ib, sb) (W0.alloc (.cells #[.int .i64 x, .int .i64 y] 3)).drew := by
    intro W0 x y hz h0 h1 h2 h3 hg
    have old : ∀ g i v, g < W0.heap.size → W0.cell? ⟨g, i, none⟩ = v → (W0.alloc (.cells #[.int .i64 x, .int .i64 y] 3)).drew.cell? ⟨g, i, none⟩ = v := fun g i v hg h => by
      rw [← h]
      exact World.cell?_of_block (w := W0) (heap_old W0 (.cells #[.int .i64 x, .int .i64 y] 3) hg)
    exact ⟨⟨h0, h1, h2, h3, hg.drew⟩, old _ _ _ (by omega) h0, old _ _ _ (by omega) h1, old _ _ _ (by omega) h2, old _ _ _ (by omega) h3, (hg.alloc _).drew⟩
  have HK := Lib.hid key
  have orw : ∀ (W : World) (x y : Int), Calls Try.prog 31 #[.slice (some ⟨W.heap.size, 0, none⟩) 2 2] (W.alloc (.cells #[.int .i64 x, .int .i64 y] 3)).drew fun e w' => e = .returned (.int .i64 (orL [x, y])) ∧ w' = (W.alloc (.cells #[.int .i64 x, .int .i64 y] 3)).drew := fun W x y =>
    HO.out x y W.heap.size (W.alloc (.cells #[.int .i64 x, .int .i64 y] 3)).drew (by
      intro j hj
      have hh := heap_last W (.cells #[.int .i64 x, .int .i64 y] 3)
      have hj3 : j < 2 := hj
      rw [Lib.cell_of_heap (w := (W.alloc (.cells #[.int .i64 x, .int .i64 y] 3)).drew) hh]
      have : j = 0 ∨ j = 1 := by omega
      rcases this with rfl | rfl <;> rfl)
  have HOG := Lib.hid orw
  clear key HO orw
  go_wp2_with fail
  generalize (w.alloc (hobj (ia, sa))).alloc (hobj (ib, sb)) = W0 at *
  obtain ⟨hS0, hS1⟩ := HK.out W0 (f ia ib) (f sa sb) HZ.out a0 a1 b0 b1 hbe
  unfold S4 at hS0 hS1
  have HBZ := Lib.hid hS1.2.2.2.2
  clear a0 a1 b0 b1 hbe HK
  go_region_held3 (fun x => x.cell? ⟨w.heap.size, 0, none⟩ = some (.int .i64 ia) ∧ x.cell? ⟨w.heap.size, 1, none⟩ = some (.int .i64 sa) ∧ x.cell? ⟨w.heap.size + 1, 0, none⟩ = some (.int .i64 ib) ∧ x.cell? ⟨w.heap.size + 1, 1, none⟩ = some (.int .i64 sb) ∧ Gn w x)
    (assumption)
    (first
      | (go_at_call 32; refine (H1.out _ _ _).mono ?_; rintro e w1 ⟨rfl, rfl⟩)
      | (go_at_call 31; refine (HOG.out _ _ _).mono ?_; rintro e w1 ⟨rfl, rfl⟩))
  go_wp2_with fail
  go_ret
  exact ⟨rfl, HBZ.out⟩
set_option maxHeartbeats 1000000 in
set_option maxRecDepth 100000 in
theorem less_any (a b : En) (w : World) :
    Calls Try.prog 22 #[hv a, hv b] w fun e w' => e = .returned (.bool (decide (Lt a b))) ∧ Gn w w' := by
  obtain ⟨⟨a0, a1⟩, ⟨b0, b1⟩, hbe⟩ := two_boxes w a b
  obtain ⟨ia, sa⟩ := a
  obtain ⟨ib, sb⟩ := b
  simp only at a0 a1 b0 b1
  have HB := Lib.hid hbe
  clear hbe
  obtain ⟨r, hr⟩ : ∃ r, r = decide (Lt (ia, sa) (ib, sb)) := ⟨_, rfl⟩
  rw [← hr]
  have HR := Lib.hid hr
  clear hr
  by_cases h1 : ia < ib
  · have HF : Hid (r = true) := Lib.hid (by rw [HR.out]; exact decide_eq_true (.inl h1))
    go_enter Try.func22, Try.ntmps22
    go_wp2_with fail
    go_ret
    exact ⟨by rw [HF.out]; rfl, HB.out⟩
  · by_cases h2 : ia = ib
    · subst h2
      by_cases h3 : sa < sb
      · have HF : Hid (r = true) := Lib.hid (by rw [HR.out]; exact decide_eq_true (.inr ⟨rfl, h3⟩))
        go_enter Try.func22, Try.ntmps22
        go_wp2_with fail
        go_ret
        exact ⟨by rw [HF.out]; simp [h3], HB.out⟩
      · have HF : Hid (r = false) := Lib.hid (by rw [HR.out]; exact decide_eq_false (by unfold Lt; simp only; omega))
        go_enter Try.func22, Try.ntmps22
        go_wp2_with fail
        go_ret
        exact ⟨by rw [HF.out]; simp [h3], HB.out⟩
    · have HF : Hid (r = false) := Lib.hid (by rw [HR.out]; exact decide_eq_false (by unfold Lt; simp only; omega))
      have h2' : (ia == ib) = false := by simpa using h2
      go_enter Try.func22, Try.ntmps22
      go_wp2_with fail
      go_ret
      exact ⟨by rw [HF.out]; rfl, HB.out⟩
end Rn
end Go.Proofs.Ytioidkbpjkcjeaa
