/- The order of hits: topk's order, Less, known, and the document's own Less; how a call's world grows. Conditions: those that each theorem names. -/
import Derived.Test.YtfgmkdghpdpdkaaTkPlain
import Derived.Test.YtfgmkdghpdpdkaaShelf
import Derived.WalkKit
import Derived.WalkSpells
import Derived.WalkLawsBesides
import Derived.Laws.Rows
import Derived.Lib.Walk
import Derived.Deep.RegionHeld3
import Derived.Sort.Grow
namespace Go.Proofs.Ytfgmkdghpdpdkaa
namespace Tq
set_option linter.unusedVariables false
open Go Go.RowKit Go.Shelf Go.Sort Tk
/-! ### How a call's world grows -/
/-- Only draws, and new blocks. -/
def Gn (w w' : World) : Prop := ∃ q os, w' = grow (w.drewN q) os
theorem Gn.refl (w : World) : Gn w w := ⟨0, #[], by rw [grow_empty]; rfl⟩
theorem Gn.drew {w w' : World} (h : Gn w w') : Gn w w'.drew := by
  obtain ⟨q, os, rfl⟩ := h
  exact ⟨q + 1, os, rfl⟩
theorem Gn.alloc {w w' : World} (h : Gn w w') (o : Obj) : Gn w (w'.alloc o) := by
  obtain ⟨q, os, rfl⟩ := h
  exact ⟨q, os ++ #[o], by rw [alloc_eq_grow, grow_grow]⟩
theorem Gn.trans {w w' w2 : World} (h : Gn w w') (k : Gn w' w2) : Gn w w2 := by
  obtain ⟨q, os, rfl⟩ := h
  obtain ⟨q', os', rfl⟩ := k
  exact ⟨q + q', os ++ os', by show grow (grow ((w.drewN q).drewN q') os) os' = _; rw [grow_grow, World.drewN_drewN]⟩
theorem Gn.below {w w' : World} (h : Gn w w') : Below w.heap.size w w' := by
  obtain ⟨q, os, rfl⟩ := h
  refine ⟨rfl, rfl, rfl, by show w.heap.size ≤ (w.heap ++ os).size; simp, fun k hk => ?_⟩
  show (w.heap ++ os)[k]? = w.heap[k]?
  exact Array.getElem?_append_left hk
theorem heap_last (w : World) (o : Obj) : (w.alloc o).heap[w.heap.size]? = some o := by show (w.heap.push o)[w.heap.size]? = some o; simp
theorem heap_old (w : World) (o : Obj) {k : Nat} (hk : k < w.heap.size) : (w.alloc o).heap[k]? = w.heap[k]? := Below.heap_alloc _ _ _ hk
theorem fresh_alloc (w : World) (o : Obj) : Below w.heap.size w (w.alloc o) := Below.alloc (Below.refl _ w) (Nat.le_refl _) o
theorem two_cells {w : World} {g : Nat} {a b : Value} {T : TypeId} (h : w.heap[g]? = some (.cells #[a, b] T (0, 0))) : w.cell? ⟨g, 0, none⟩ = some a ∧ w.cell? ⟨g, 1, none⟩ = some b := by
  constructor <;> rw [Lib.cell_of_heap h] <;> rfl
/-- A hit as a value. -/
abbrev hv (x : Ht) : Value := .agg #[.int .i64 x.1, .int .i64 x.2]
abbrev hobj (x : Ht) : Obj := .cells #[.int .i64 x.1, .int .i64 x.2] 53
theorem two_boxes (w : World) (x y : Ht) :
    (((w.alloc (hobj x)).alloc (hobj y)).cell? ⟨w.heap.size, 0, none⟩ = some (.int .i64 x.1) ∧ ((w.alloc (hobj x)).alloc (hobj y)).cell? ⟨w.heap.size, 1, none⟩ = some (.int .i64 x.2)) ∧
    (((w.alloc (hobj x)).alloc (hobj y)).cell? ⟨w.heap.size + 1, 0, none⟩ = some (.int .i64 y.1) ∧ ((w.alloc (hobj x)).alloc (hobj y)).cell? ⟨w.heap.size + 1, 1, none⟩ = some (.int .i64 y.2)) ∧
    Gn w ((w.alloc (hobj x)).alloc (hobj y)) := by
  have h1 := heap_last (w.alloc (hobj x)) (hobj y)
  rw [show (w.alloc (hobj x)).heap.size = w.heap.size + 1 by simp] at h1
  exact ⟨two_cells ((heap_old _ _ (by simp)).trans (heap_last _ _)), two_cells h1, ((Gn.refl w).alloc _).alloc _⟩
theorem wrap_s {n k : Nat} (h : n ≤ maxLen) (hk : k < n) : wrap64 ((k : Int) + 1) = ((k + 1 : Nat) : Int) := by
  unfold maxLen at h; unfold wrap64; omega
theorem int_less {n k : Nat} (h : k < n) : n - (intOf (.int .i64 ((k + 1 : Nat) : Int))).toNat < n - (intOf (.int .i64 (k : Int))).toNat := by
  simp only [intOf, Int.toNat_natCast]; omega
/-! ### topk's -/
theorem known_any (m : Int) (w : World) :
    Calls Try.prog 62 #[.int .i64 m] w fun e w' => e = .returned (.bool (knownB m)) ∧ w' = w := by
  unfold knownB
  go_enter Try.func62, Try.ntmps62
  by_cases h1 : m = 1
  · subst h1
    go_wp2_with fail
    go_ret
    exact ⟨rfl, rfl⟩
  · by_cases h2 : m = 2
    · subst h2
      go_wp2_with fail
      go_ret
      exact ⟨rfl, rfl⟩
    · by_cases h3 : m = 3
      · subst h3
        go_wp2_with fail
        go_ret
        exact ⟨rfl, rfl⟩
      · go_wp2_with fail
        go_ret
        exact ⟨by simp [h1, h2, h3], rfl⟩
set_option maxHeartbeats 1000000 in
theorem or_any (L : List Int) (g c : Nat) (w : World) (hc : ∀ j (h : j < L.length), w.cell? ⟨g, j, none⟩ = some (.int .i64 L[j])) (hl : L.length ≤ 1000) :
    Calls Try.prog 73 #[.slice (some ⟨g, 0, none⟩) L.length c] w fun e w' => e = .returned (.int .i64 (orL L)) ∧ w' = w := by
  obtain ⟨r, hr⟩ : ∃ r, r = orL L := ⟨_, rfl⟩
  rw [← hr]
  have HC := Lib.hid hc
  have HS : Hid (L.length ≤ maxLen) := Lib.hid (by unfold maxLen; omega)
  have HR := Lib.hid hr
  clear hc hl hr
  go_enter Try.func73, Try.ntmps73
  go_wp2
  go_loop [8] (fun i => ∃ k : Nat, k ≤ L.length ∧ i = .int .i64 k ∧ Hid (r = orL (L.drop k))) (fun i => L.length - (intOf i).toNat)
  case atStart => exact ⟨0, Nat.zero_le _, rfl, HR⟩
  case round =>
    obtain ⟨k, hk, rfl, HA⟩ := hrel
    by_cases hlt : k < L.length
    · have hcell := HC.out k hlt
      have hx : L[k]? = some L[k] := List.getElem?_eq_getElem hlt
      generalize hcc : L[k] = n at hx hcell
      have HA2 := Lib.hid (HA.out.trans (orL_at hx))
      clear hx HA hcc
      by_cases h0 : n = 0
      · subst h0
        have HN := Lib.hid (HA2.out.trans (if_pos rfl))
        go_wp2_with fail
        go_round
        case rel => exact ⟨k + 1, by omega, congrArg _ (wrap_s HS.out hlt), HN⟩
        case measure =>
          rw [wrap_s HS.out hlt]
          exact int_less hlt
      · have HN := Lib.hid (HA2.out.trans (if_neg h0))
        go_wp2_with fail
        go_ret
        rw [HN.out]
        exact ⟨rfl, rfl⟩
    · obtain rfl : k = L.length := by omega
      have HE : Hid (r = 0) := Lib.hid (by rw [HA.out, List.drop_length]; rfl)
      go_wp2_with fail
      go_ret
      rw [HE.out]
      exact ⟨rfl, rfl⟩
/-- Four cells of two boxes, and how far the world has grown. -/
def S4 (w : World) (a b : Ht) (x : World) : Prop :=
  x.cell? ⟨w.heap.size, 0, none⟩ = some (.int .i64 a.1) ∧ x.cell? ⟨w.heap.size, 1, none⟩ = some (.int .i64 a.2) ∧ x.cell? ⟨w.heap.size + 1, 0, none⟩ = some (.int .i64 b.1) ∧ x.cell? ⟨w.heap.size + 1, 1, none⟩ = some (.int .i64 b.2) ∧ Gn w x
set_option maxHeartbeats 4000000 in
set_option maxRecDepth 100000 in
theorem order_any (m : Int) (a b : Ht) (w : World) :
    Calls Try.prog 66 #[.int .i64 m, hv a, hv b] w fun e w' => e = .returned (.int .i64 (cfH m a b)) ∧ Gn w w' := by
  obtain ⟨⟨a0, a1⟩, ⟨b0, b1⟩, hbe⟩ := two_boxes w a b
  obtain ⟨ia, sa⟩ := a
  obtain ⟨ib, sb⟩ := b
  simp only at a0 a1 b0 b1
  obtain ⟨f, hf⟩ : ∃ f, f = Lib.compareInt := ⟨_, rfl⟩
  have H1 := Lib.hid (fun x y W => Try.cmp_Compare_int x y W)
  have HO := Lib.hid (fun (x y : Int) g W hc => or_any [x, y] g 2 W hc (by simp))
  unfold cfH
  simp only
  rw [← hf] at H1 ⊢
  clear hf
  have HZ : Hid (w.heap.size + 2 ≤ ((w.alloc (hobj (ia, sa))).alloc (hobj (ib, sb))).heap.size) := Lib.hid (by simp)
  go_enter Try.func66, Try.ntmps66
  have key : ∀ (W0 : World) (x y : Int), w.heap.size + 2 ≤ W0.heap.size → W0.cell? ⟨w.heap.size, 0, none⟩ = some (.int .i64 ia) → W0.cell? ⟨w.heap.size, 1, none⟩ = some (.int .i64 sa) → W0.cell? ⟨w.heap.size + 1, 0, none⟩ = some (.int .i64 ib) → W0.cell? ⟨w.heap.size + 1, 1, none⟩ = some (.int .i64 sb) → Gn w W0 →
      S4 w (ia, sa) (ib, sb) W0.drew ∧ S4 w (ia, sa) (ib, sb) (W0.alloc (.cells #[.int .i64 x, .int .i64 y] 3)).drew := by
    intro W0 x y hz h0 h1 h2 h3 hg
    have old : ∀ g i v, g < W0.heap.size → W0.cell? ⟨g, i, none⟩ = v → (W0.alloc (.cells #[.int .i64 x, .int .i64 y] 3)).drew.cell? ⟨g, i, none⟩ = v := fun g i v hg h => by
      rw [← h]
      exact World.cell?_of_block (w := W0) (heap_old W0 (.cells #[.int .i64 x, .int .i64 y] 3) hg)
    exact ⟨⟨h0, h1, h2, h3, hg.drew⟩, old _ _ _ (by omega) h0, old _ _ _ (by omega) h1, old _ _ _ (by omega) h2, old _ _ _ (by omega) h3, (hg.alloc _).drew⟩
  have HK := Lib.hid key
  have orw : ∀ (W : World) (x y : Int), Calls Try.prog 73 #[.slice (some ⟨W.heap.size, 0, none⟩) 2 2] (W.alloc (.cells #[.int .i64 x, .int .i64 y] 3)).drew fun e w' => e = .returned (.int .i64 (orL [x, y])) ∧ w' = (W.alloc (.cells #[.int .i64 x, .int .i64 y] 3)).drew := fun W x y =>
    HO.out x y W.heap.size (W.alloc (.cells #[.int .i64 x, .int .i64 y] 3)).drew (by
      intro j hj
      have hh := heap_last W (.cells #[.int .i64 x, .int .i64 y] 3)
      have hj3 : j < 2 := hj
      rw [Lib.cell_of_heap (w := (W.alloc (.cells #[.int .i64 x, .int .i64 y] 3)).drew) hh]
      have : j = 0 ∨ j = 1 := by omega
      rcases this with rfl | rfl <;> rfl)
  have HOG := Lib.hid orw
  clear key HO orw
  by_cases h1 : m = 1
  · subst h1
    go_wp2_with fail
    generalize (w.alloc (hobj (ia, sa))).alloc (hobj (ib, sb)) = W0 at *
    obtain ⟨hS0, hS1⟩ := HK.out W0 (f sa sb) (f ia ib) HZ.out a0 a1 b0 b1 hbe
    unfold S4 at hS0 hS1
    have HBZ := Lib.hid hS1.2.2.2.2
    clear a0 a1 b0 b1 hbe HK
    go_region_held3 (fun x => x.cell? ⟨w.heap.size, 0, none⟩ = some (.int .i64 ia) ∧ x.cell? ⟨w.heap.size, 1, none⟩ = some (.int .i64 sa) ∧ x.cell? ⟨w.heap.size + 1, 0, none⟩ = some (.int .i64 ib) ∧ x.cell? ⟨w.heap.size + 1, 1, none⟩ = some (.int .i64 sb) ∧ Gn w x)
      (assumption)
      (first
        | (go_at_call 74; refine (H1.out _ _ _).mono ?_; rintro e w1 ⟨rfl, rfl⟩)
        | (go_at_call 73; refine (HOG.out _ _ _).mono ?_; rintro e w1 ⟨rfl, rfl⟩))
    go_wp2_with fail
    go_ret
    exact ⟨rfl, HBZ.out⟩
  · by_cases h2 : m = 2 ∨ m = 3
    · obtain ⟨r, hr⟩ : ∃ r, r = orL [f sb sa, f ia ib] := ⟨_, rfl⟩
      rw [if_neg h1, if_pos h2]
      rcases h2 with rfl | rfl
      · go_wp2_with fail
        generalize (w.alloc (hobj (ia, sa))).alloc (hobj (ib, sb)) = W0 at *
        obtain ⟨hS0, hS1⟩ := HK.out W0 (f sb sa) (f ia ib) HZ.out a0 a1 b0 b1 hbe
        unfold S4 at hS0 hS1
        have HBZ := Lib.hid hS1.2.2.2.2
        clear a0 a1 b0 b1 hbe HK hr
        go_region_held3 (fun x => x.cell? ⟨w.heap.size, 0, none⟩ = some (.int .i64 ia) ∧ x.cell? ⟨w.heap.size, 1, none⟩ = some (.int .i64 sa) ∧ x.cell? ⟨w.heap.size + 1, 0, none⟩ = some (.int .i64 ib) ∧ x.cell? ⟨w.heap.size + 1, 1, none⟩ = some (.int .i64 sb) ∧ Gn w x)
          (assumption)
          (first
            | (go_at_call 74; refine (H1.out _ _ _).mono ?_; rintro e w1 ⟨rfl, rfl⟩)
            | (go_at_call 73; refine (HOG.out _ _ _).mono ?_; rintro e w1 ⟨rfl, rfl⟩))
        go_wp2_with fail
        go_ret
        exact ⟨rfl, HBZ.out⟩
      · go_wp2_with fail
        generalize (w.alloc (hobj (ia, sa))).alloc (hobj (ib, sb)) = W0 at *
        obtain ⟨hS0, hS1⟩ := HK.out W0 (f sb sa) (f ia ib) HZ.out a0 a1 b0 b1 hbe
        unfold S4 at hS0 hS1
        have HBZ := Lib.hid hS1.2.2.2.2
        clear a0 a1 b0 b1 hbe HK hr
        go_region_held3 (fun x => x.cell? ⟨w.heap.size, 0, none⟩ = some (.int .i64 ia) ∧ x.cell? ⟨w.heap.size, 1, none⟩ = some (.int .i64 sa) ∧ x.cell? ⟨w.heap.size + 1, 0, none⟩ = some (.int .i64 ib) ∧ x.cell? ⟨w.heap.size + 1, 1, none⟩ = some (.int .i64 sb) ∧ Gn w x)
          (assumption)
          (first
            | (go_at_call 74; refine (H1.out _ _ _).mono ?_; rintro e w1 ⟨rfl, rfl⟩)
            | (go_at_call 73; refine (HOG.out _ _ _).mono ?_; rintro e w1 ⟨rfl, rfl⟩))
        go_wp2_with fail
        go_ret
        exact ⟨rfl, HBZ.out⟩
    · have h3 : m ≠ 2 := fun h => h2 (.inl h)
      have h4 : m ≠ 3 := fun h => h2 (.inr h)
      rw [if_neg h1, if_neg h2]
      go_wp2_with fail
      go_ret
      exact ⟨rfl, hbe⟩
set_option maxHeartbeats 1000000 in
set_option maxRecDepth 100000 in
theorem less_any (m : Int) (a b : Ht) (w : World) :
    Calls Try.prog 57 #[.int .i64 m, hv a, hv b] w fun e w' => e = .returned (.bool (ltH m a b)) ∧ Gn w w' := by
  obtain ⟨⟨a0, a1⟩, ⟨b0, b1⟩, hbe⟩ := two_boxes w a b
  obtain ⟨ia, sa⟩ := a
  obtain ⟨ib, sb⟩ := b
  simp only at a0 a1 b0 b1
  have HC := Lib.hid (fun W => order_any m (ia, sa) (ib, sb) W)
  unfold ltH ltOf
  generalize cfH m (ia, sa) (ib, sb) = r at *
  have HB := Lib.hid hbe
  clear hbe
  go_enter Try.func57, Try.ntmps57
  go_wp2_with fail
  refine (HC.out _).mono ?_
  rintro e w2 ⟨rfl, hg⟩
  have HG := Lib.hid (HB.out.trans hg)
  clear hg a0 a1 b0 b1
  go_wp2_with fail
  go_ret
  exact ⟨rfl, HG.out⟩
/-! ### The document's -/
set_option maxHeartbeats 1000000 in
set_option maxRecDepth 100000 in
theorem rless_any (m : Int) (a b : Ht) (w : World) :
    Calls Try.prog 58 #[.int .i64 m, hv a, hv b] w fun e w' => e = .returned (.bool (ltH m a b)) ∧ Gn w w' := by
  obtain ⟨⟨a0, a1⟩, ⟨b0, b1⟩, hbe⟩ := two_boxes w a b
  obtain ⟨r, hr⟩ : ∃ r, r = ltH m a b := ⟨_, rfl⟩
  rw [← hr]
  obtain ⟨ia, sa⟩ := a
  obtain ⟨ib, sb⟩ := b
  simp only at a0 a1 b0 b1
  have HB := Lib.hid hbe
  clear hbe
  by_cases hk : knownB m = true
  · have hi := ltH_iff hk (ia, sa) (ib, sb)
    rw [← hr] at hi
    rw [known_iff] at hk
    unfold sc at hi
    simp only at hi
    clear hr
    have lo : ¬ m < 1 := by omega
    have hi3 : ¬ 3 < m := by omega
    by_cases hs : sa = sb
    · subst hs
      by_cases hid : ia < ib
      · have hr : r = true := hi.2 (by right; exact ⟨rfl, hid⟩)
        subst hr
        clear hi
        go_enter Try.func58, Try.ntmps58
        go_wp2_with fail
        go_ret
        exact ⟨rfl, HB.out⟩
      · have hr : r = false := by rw [← Bool.not_eq_true, hi]; omega
        subst hr
        clear hi
        go_enter Try.func58, Try.ntmps58
        go_wp2_with fail
        go_ret
        exact ⟨rfl, HB.out⟩
    · by_cases h1 : m = 1
      · subst h1
        simp only [if_true] at hi
        by_cases hl : sa < sb
        · have hr : r = true := hi.2 (by omega)
          subst hr
          clear hi
          go_enter Try.func58, Try.ntmps58
          go_wp2_with fail
          go_ret
          exact ⟨rfl, HB.out⟩
        · have hr : r = false := by rw [← Bool.not_eq_true, hi]; omega
          subst hr
          clear hi
          go_enter Try.func58, Try.ntmps58
          go_wp2_with fail
          go_ret
          exact ⟨rfl, HB.out⟩
      · rw [if_neg h1, if_neg h1] at hi
        by_cases hl : sa < sb
        · have hr : r = false := by rw [← Bool.not_eq_true, hi]; omega
          subst hr
          clear hi
          go_enter Try.func58, Try.ntmps58
          go_wp2_with fail
          go_ret
          exact ⟨by simp [h1], HB.out⟩
        · have hr : r = true := hi.2 (by omega)
          subst hr
          clear hi
          go_enter Try.func58, Try.ntmps58
          go_wp2_with fail
          go_ret
          exact ⟨by simp [h1], HB.out⟩
  · have hkf : knownB m = false := by simpa using hk
    have hr2 : r = false := hr.trans (ltH_unknown hkf _ _)
    have hn : ¬ (m = 1 ∨ m = 2 ∨ m = 3) := by rwa [known_iff] at hk
    subst hr2
    clear hr hk hkf
    go_enter Try.func58, Try.ntmps58
    rcases (by omega : m < 1 ∨ (¬ m < 1 ∧ 3 < m)) with h | ⟨h, h'⟩
    · go_wp2_with fail
      go_ret
      exact ⟨rfl, HB.out⟩
    · go_wp2_with fail
      go_ret
      exact ⟨rfl, HB.out⟩
end Tq
end Go.Proofs.Ytfgmkdghpdpdkaa
