/- The program's index: the part between two numbers, Count, Least, Greatest, Entries. Conditions: those that each theorem names. -/
import Derived.Test.YtioidkbpjkcjeaaRnH
namespace Go.Proofs.Ytioidkbpjkcjeaa
set_option linter.unusedVariables false
open Go Go.RowKit Go.Shelf Go.Sort
namespace Rn
/-- All entries' cells lie in their bounds; the row is in order. -/
structure Good (L : List En) : Prop where
  ris : Ris L
  ok : ∀ e ∈ L, okE e
  len : L.length * 16 ≤ 140737488355328
theorem can_good {l : List En} (h : ∀ e ∈ l, okE e) (hl : l.length * 16 ≤ 140737488355328) : Good (can l) :=
  ⟨(can_fact l).1, fun e he => h e (((can_fact l).2.1 e).1 he), Nat.le_trans (Nat.mul_le_mul_right _ (can_fact l).2.2) hl⟩
set_option maxHeartbeats 2000000 in
set_option maxRecDepth 100000 in
theorem ibetween_any {B K : Nat} {L : List En} (low high : Int) (w : World) (h : IxO w B K L) (hg : Good L) :
    Calls Try.prog 26 #[.pointer (some ⟨K, 0, none⟩), .int .i64 low, .int .i64 high] w fun e w' => ∃ u, e = .returned u ∧ HsAt w' u (seg low high L) ∧ Gn w w' := by
  obtain ⟨_, p, c, hk, ho⟩ := h
  have hs := seg_cut hg.ris hg.ok low high
  have hcap : L.length ≤ c := by
    rcases ho.2 with ⟨e, h0⟩ | ⟨g', cap', cur, e, hb, hg', h1, h2, h3, h4⟩
    · omega
    · injection e with e1 e2 e3
      omega
  have HC := Lib.hid (all_some K p L.length c w hk)
  have HB := Lib.hid (fun (W : World) (hW : Gn w W) => rbetween_any L (low, -9223372036854775808) (high, 9223372036854775807) p c W ((own_entries ho).below hW.below) hg.ris (by have := hg.len; omega) hcap)
  rw [← hs] at HB
  clear hk ho hs hcap hg
  unfold cmpV at HC HB
  generalize L.length = n at *
  generalize seg low high L = R at *
  go_enter Try.func26, Try.ntmps26
  go_wp2_with fail
  refine HC.out.mono ?_
  rintro e w1 ⟨rfl, hg⟩
  have HG := Lib.hid hg
  clear hg HC
  go_wp2_with fail
  refine (HB.out _ HG.out).mono ?_
  rintro e w2 ⟨u, rfl, hs, hg⟩
  have HF : Hid (HsAt w2 u R ∧ Gn w w2) := Lib.hid ⟨hs, HG.out.trans hg⟩
  clear hs hg HB
  go_wp2_with fail
  go_ret
  exact ⟨_, rfl, HF.out⟩
set_option maxHeartbeats 2000000 in
set_option maxRecDepth 100000 in
theorem count_any {B K : Nat} {L : List En} (low high : Int) (w : World) (h : IxO w B K L) (hg : Good L) :
    Calls Try.prog 17 #[.pointer (some ⟨K, 0, none⟩), .int .i64 low, .int .i64 high] w fun e w' => e = .returned (.int .i64 (seg low high L).length) ∧ Gn w w' := by
  have HB := Lib.hid (ibetween_any low high w h hg)
  clear h hg
  generalize seg low high L = R at *
  go_enter Try.func17, Try.ntmps17
  go_wp2_with fail
  refine HB.out.mono ?_
  rintro e w2 ⟨u, rfl, hs, hg⟩
  obtain ⟨p, c, rfl⟩ := hs.form
  have HF := Lib.hid hg
  clear hs hg HB
  go_wp2_with fail
  go_ret
  exact ⟨rfl, HF.out⟩
/-- A row of two cells, then two entries of zeros. -/
theorem at_boxes (w : World) (a b : Value) : ((w.alloc (rowO a b)).alloc (hobj (0, 0))).heap[w.heap.size]? = some (rowO a b) ∧ ((w.alloc (rowO a b)).alloc (hobj (0, 0))).heap[w.heap.size + 1]? = some (hobj (0, 0)) ∧
    (((w.alloc (rowO a b)).alloc (hobj (0, 0))).alloc (hobj (0, 0))).heap[w.heap.size + 1]? = some (hobj (0, 0)) ∧ Gn w ((w.alloc (rowO a b)).alloc (hobj (0, 0))) := by
  have h1 : (w.alloc (rowO a b)).heap.size = w.heap.size + 1 := by simp
  have h2 := heap_last (w.alloc (rowO a b)) (hobj (0, 0))
  rw [h1] at h2
  exact ⟨(heap_old _ _ (by omega)).trans (heap_last _ _), h2, (heap_old _ _ (by simp)).trans h2, ((Gn.refl w).alloc _).alloc _⟩
set_option maxHeartbeats 2000000 in
set_option maxRecDepth 100000 in
theorem at_out (f : Value) (p : Option Addr) (n c : Nat) (i : Int) (w : World) (hi : i < 0 ∨ (n : Int) ≤ i) :
    Calls Try.prog 24 #[.agg #[f, .slice p n c], .int .i64 i] w fun e w' => e = .returned (.tuple #[.agg #[.int .i64 0, .int .i64 0], .bool false]) ∧ Gn w w' := by
  obtain ⟨h1, -, h3, hg⟩ := at_boxes w f (.slice p n c)
  obtain ⟨r0, r1⟩ := two_cells h1
  obtain ⟨q0, q1⟩ := two_cells h3
  have y0 := q0
  have y1 := fun v => set1 h3 v
  have z0 := Lib.frozen_of_heap h3 0
  have z1 := fun v => Lib.frozen_of_heap (setC0 h3 v) 1
  have HF := Lib.hid (hg.alloc (hobj (0, 0)))
  clear h1 h3 hg
  rcases hi with hi | hi
  · go_enter Try.func24, Try.ntmps24
    go_wp2_with fail
    refine bodyPost_ret (v := .tuple #[.agg #[.int .i64 0, .int .i64 0], .bool false]) (by simp [results, Try.results24, go_sem, q0, q1]) rfl ?_
    exact ⟨rfl, HF.out⟩
  · have hi2 : decide (i < 0) = false := decide_eq_false (by omega)
    have hi3 : ¬ i < 0 := by omega
    go_enter Try.func24, Try.ntmps24
    go_wp2_with fail
    refine bodyPost_ret (v := .tuple #[.agg #[.int .i64 0, .int .i64 0], .bool false]) (by simp [results, Try.results24, go_sem, q0, q1]) rfl ?_
    exact ⟨rfl, HF.out⟩
set_option maxHeartbeats 2000000 in
set_option maxRecDepth 100000 in
theorem at_in (L : List En) (f : Value) (p : Option Addr) (c k : Nat) (w : World) (hL : HsAt w (.slice p L.length c) L) (hk : k < L.length) :
    Calls Try.prog 24 #[.agg #[f, .slice p L.length c], .int .i64 k] w fun e w' => e = .returned (.tuple #[hv L[k], .bool true]) ∧ Gn w w' := by
  obtain ⟨h1, h2, -, hg⟩ := at_boxes w f (.slice p L.length c)
  rcases hL with ⟨rfl, _⟩ | ⟨g, off, c', e, hgl, hc⟩
  · cases hk
  · injection e with e1 e2 e3
    subst e1; subst e3
    obtain ⟨a0, a1⟩ := hc _ (hg.block hgl) k hk
    obtain ⟨r0, r1⟩ := two_cells h1
    obtain ⟨x, hx⟩ : ∃ x, x = L[k] := ⟨_, rfl⟩
    rw [← hx] at a0 a1 ⊢
    have hk1 : (k : Int) < (L.length : Int) := by omega
    have hk2 : ¬ (k : Int) ≥ (L.length : Int) := by omega
    have HG : Hid (Gn w ((w.alloc (rowO f (.slice (some ⟨g, off, none⟩) L.length c))).alloc (hobj x))) := Lib.hid (((Gn.refl w).alloc _).alloc _)
    obtain ⟨d0, d1⟩ := two_cells (heap_last (w.alloc (rowO f (.slice (some ⟨g, off, none⟩) L.length c))) (hobj x))
    rw [show (w.alloc (rowO f (.slice (some ⟨g, off, none⟩) L.length c))).heap.size = w.heap.size + 1 by simp] at d0 d1
    clear h1 h2 hg hc hx
    generalize L.length = n at *
    go_enter Try.func24, Try.ntmps24
    go_wp2_with fail
    refine bodyPost_ret (v := .tuple #[.agg #[.int .i64 x.1, .int .i64 x.2], .bool true]) (by simp [results, Try.results24, go_sem, d0, d1]) rfl ?_
    exact ⟨rfl, HG.out⟩
set_option maxHeartbeats 2000000 in
set_option maxRecDepth 100000 in
theorem least_any {B K : Nat} {L : List En} (w : World) (h : IxO w B K L) :
    Calls Try.prog 10 #[.pointer (some ⟨K, 0, none⟩)] w fun e w' => e = .returned (.tuple #[.int .i64 ((L.head?.map (fun x => x.1)).getD 0), .bool (!L.isEmpty)]) ∧ Gn w w' := by
  obtain ⟨_, p, c, hk, ho⟩ := h
  have HC := Lib.hid (all_some K p L.length c w hk)
  have HO := Lib.hid (own_entries ho)
  clear hk ho
  unfold cmpV at HC
  cases L with
  | nil =>
    have HA := Lib.hid (fun W => at_out (.func (.func 21) #[] #[]) p 0 c 0 W (.inr (Int.le_refl _)))
    go_enter Try.func10, Try.ntmps10
    go_wp2_with fail
    refine HC.out.mono ?_
    rintro e w1 ⟨rfl, hg⟩
    have HG := Lib.hid hg
    clear hg HC
    go_wp2_with fail
    refine (HA.out _).mono ?_
    rintro e w2 ⟨rfl, hg⟩
    have HF := Lib.hid ((HG.out.trans hg).alloc (hobj (0, 0)))
    clear hg
    go_wp2_with fail
    go_ret2
    exact ⟨rfl, HF.out⟩
  | cons x R =>
    have HA := Lib.hid (fun (W : World) (hW : Gn w W) => at_in (x :: R) (.func (.func 21) #[] #[]) p c 0 W (HO.out.below hW.below) (by simp))
    have e0 : (x :: R)[0]'(by simp) = x := rfl
    rw [e0] at HA
    clear e0
    generalize (x :: R).length = n at *
    go_enter Try.func10, Try.ntmps10
    go_wp2_with fail
    refine HC.out.mono ?_
    rintro e w1 ⟨rfl, hg⟩
    have HG := Lib.hid hg
    clear hg HC
    go_wp2_with fail
    refine (HA.out _ HG.out).mono ?_
    rintro e w2 ⟨rfl, hg⟩
    have HF := Lib.hid ((HG.out.trans hg).alloc (hobj x))
    clear hg
    go_wp2_with fail
    go_ret2
    exact ⟨rfl, HF.out⟩
end Rn
end Go.Proofs.Ytioidkbpjkcjeaa
