/- Check of the conditions that the law's sure asks of, whole. Conditions: those that each theorem names. -/
import Derived.Test.YtclmalaomofahaaGreatDoorFtO
namespace Go.Proofs.YtclmalaomofahaaGreatDoor
set_option linter.unusedVariables false
namespace Ft
open Go Go.RowKit Go.Shelf Pq Pq.Pl Rk Px
abbrev robj : Obj := .cells #[.int .i64 256] 3
/-- What a call leaves that writes into block R alone. -/
def But (R : Nat) (w w' : World) : Prop := (∀ b, b < w.heap.size → b ≠ R → w'.heap[b]? = w.heap[b]?) ∧ ∀ B w0, B ≤ R → Below B w0 w → Below B w0 w'
theorem but_of {R : Nat} {w w1 w' : World} (h1 : Below w.heap.size w w1) (hR : R < w.heap.size) (v : Value) (h2 : Below w1.heap.size (w1.setCell ⟨R, 0, none⟩ v) w') : But R w w' := by
  refine ⟨fun b hb hne => ?_, fun B w0 hB h0 => ?_⟩
  · rw [h2.block b (by have := h1.size; omega), set_else v hne, h1.block b hb]
  · have h3 := h0.trans (h1.mono (by omega))
    have h4 := below_set (g := R) (k := 0) v h3 hB
    exact h4.trans (h2.mono (by have := h1.size; omega))
theorem but_cell {R : Nat} {w w' : World} (h : But R w w') {b : Nat} {o : Obj} (hb : w.heap[b]? = some o) (hne : b ≠ R) : w'.heap[b]? = some o := (h.1 b (Rk.lt_of_block hb) hne).trans hb
set_option maxHeartbeats 2000000 in
set_option maxRecDepth 100000 in
theorem formed_in (R : Nat) (w : World) (hR : w.heap[R]? = some robj) : Calls Tryz.prog 42 #[cv ⟨5, ⟨#[97]⟩, v0, 5, 9, nil0⟩, .pointer (some ⟨R, 0, none⟩), .int .i64 14] w fun e w' => e = .returned (.bool true) ∧ But R w w' := by
  have hlt := Rk.lt_of_block hR
  have HA := Lib.hid (Rk.fresh_alloc w (cobj ⟨5, ⟨#[97]⟩, v0, 5, 9, nil0⟩))
  have hR1 := (Rk.heap_old w (cobj ⟨5, ⟨#[97]⟩, v0, 5, 9, nil0⟩) hlt).trans hR
  have c0 : (w.alloc (cobj ⟨5, ⟨#[97]⟩, v0, 5, 9, nil0⟩)).cell? ⟨R, 0, none⟩ = some (.int .i64 256) := Lib.cell_of_heap hR1 0
  have f0 : (w.alloc (cobj ⟨5, ⟨#[97]⟩, v0, 5, 9, nil0⟩)).frozen? ⟨R, 0, none⟩ = false := Lib.frozen_of_heap hR1 0
  have hz := (set_else (w := w.alloc (cobj ⟨5, ⟨#[97]⟩, v0, 5, 9, nil0⟩)) (g := R) (k := 0) (.int .i64 255) (show w.heap.size ≠ R by omega)).trans (Rk.heap_last w (cobj ⟨5, ⟨#[97]⟩, v0, 5, 9, nil0⟩))
  have hzr := set_row (k := 0) hR1 (.int .i64 255)
  have d0 : ((w.alloc (cobj ⟨5, ⟨#[97]⟩, v0, 5, 9, nil0⟩)).setCell ⟨R, 0, none⟩ (.int .i64 255)).cell? ⟨R, 0, none⟩ = some (.int .i64 255) := Lib.cell_of_heap hzr 0
  obtain ⟨a0, a1, a2, a3, a4, a5, a6, a7⟩ := cells8 hz
  have HZ := Lib.hid hz
  have HL := Lib.hid hlt
  have HSZ := Lib.hid (set_size (w := w.alloc (cobj ⟨5, ⟨#[97]⟩, v0, 5, 9, nil0⟩)) (g := R) (k := 0) (.int .i64 255))
  have HB := Lib.hid (fun w' h => but_of HA.out hlt (.int .i64 255) (w' := w') h)
  have hne : ¬ R = w.heap.size := by omega
  have hne' : ¬ w.heap.size = R := by omega
  have HC := Lib.hid (fun W => sound_in W)
  have hw1 : wrap64 (256 - 1) = 255 := by unfold wrap64; omega
  clear hR hR1 hz hzr hlt
  go_enter Tryz.func42, Tryz.ntmps42
  go_wp2_with fail
  refine (HC.out _).mono ?_
  clear HC
  rintro e w2 ⟨rfl, hb2⟩
  obtain ⟨_, _, _, _, _, _, _, b7⟩ := cells8 ((hb2.block _ (Rk.lt_of_block HZ.out)).trans HZ.out)
  simp only at b7
  have HB2 := Lib.hid (HB.out w2 (by rw [HSZ.out] at hb2; exact hb2))
  clear hb2 a0 a1 a2 a3 a4 a5 a6 a7 d0 c0 f0
  go_wp2_with fail
  go_loopw [8, 30] (fun b i wr => i = .int .i64 0 ∧ wr = w2) (fun _ _ _ => 0)
  case atStart => exact ⟨rfl, rfl⟩
  case round =>
    obtain ⟨rfl, rfl⟩ := hrel
    go_wp2_with fail
    go_ret
    exact ⟨rfl, HB2.out⟩
set_option maxHeartbeats 2000000 in
set_option maxRecDepth 100000 in
theorem formed_has (R : Nat) (w : World) (hR : w.heap[R]? = some robj) : Calls Tryz.prog 42 #[cv ⟨3, ⟨#[122]⟩, v0, 0, 0, nil0⟩, .pointer (some ⟨R, 0, none⟩), .int .i64 14] w fun e w' => e = .returned (.bool true) ∧ But R w w' := by
  have hlt := Rk.lt_of_block hR
  have HA := Lib.hid (Rk.fresh_alloc w (cobj ⟨3, ⟨#[122]⟩, v0, 0, 0, nil0⟩))
  have hR1 := (Rk.heap_old w (cobj ⟨3, ⟨#[122]⟩, v0, 0, 0, nil0⟩) hlt).trans hR
  have c0 : (w.alloc (cobj ⟨3, ⟨#[122]⟩, v0, 0, 0, nil0⟩)).cell? ⟨R, 0, none⟩ = some (.int .i64 256) := Lib.cell_of_heap hR1 0
  have f0 : (w.alloc (cobj ⟨3, ⟨#[122]⟩, v0, 0, 0, nil0⟩)).frozen? ⟨R, 0, none⟩ = false := Lib.frozen_of_heap hR1 0
  have hz := (set_else (w := w.alloc (cobj ⟨3, ⟨#[122]⟩, v0, 0, 0, nil0⟩)) (g := R) (k := 0) (.int .i64 255) (show w.heap.size ≠ R by omega)).trans (Rk.heap_last w (cobj ⟨3, ⟨#[122]⟩, v0, 0, 0, nil0⟩))
  have hzr := set_row (k := 0) hR1 (.int .i64 255)
  have d0 : ((w.alloc (cobj ⟨3, ⟨#[122]⟩, v0, 0, 0, nil0⟩)).setCell ⟨R, 0, none⟩ (.int .i64 255)).cell? ⟨R, 0, none⟩ = some (.int .i64 255) := Lib.cell_of_heap hzr 0
  obtain ⟨a0, a1, a2, a3, a4, a5, a6, a7⟩ := cells8 hz
  have HZ := Lib.hid hz
  have HL := Lib.hid hlt
  have HSZ := Lib.hid (set_size (w := w.alloc (cobj ⟨3, ⟨#[122]⟩, v0, 0, 0, nil0⟩)) (g := R) (k := 0) (.int .i64 255))
  have HB := Lib.hid (fun w' h => but_of HA.out hlt (.int .i64 255) (w' := w') h)
  have hne : ¬ R = w.heap.size := by omega
  have hne' : ¬ w.heap.size = R := by omega
  have HC := Lib.hid (fun W => sound_has W)
  have hw1 : wrap64 (256 - 1) = 255 := by unfold wrap64; omega
  clear hR hR1 hz hzr hlt
  go_enter Tryz.func42, Tryz.ntmps42
  go_wp2_with fail
  refine (HC.out _).mono ?_
  clear HC
  rintro e w2 ⟨rfl, hb2⟩
  obtain ⟨_, _, _, _, _, _, _, b7⟩ := cells8 ((hb2.block _ (Rk.lt_of_block HZ.out)).trans HZ.out)
  simp only at b7
  have HB2 := Lib.hid (HB.out w2 (by rw [HSZ.out] at hb2; exact hb2))
  clear hb2 a0 a1 a2 a3 a4 a5 a6 a7 d0 c0 f0
  go_wp2_with fail
  go_loopw [8, 30] (fun b i wr => i = .int .i64 0 ∧ wr = w2) (fun _ _ _ => 0)
  case atStart => exact ⟨rfl, rfl⟩
  case round =>
    obtain ⟨rfl, rfl⟩ := hrel
    go_wp2_with fail
    go_ret
    exact ⟨rfl, HB2.out⟩
set_option maxHeartbeats 2000000 in
set_option maxRecDepth 100000 in
theorem formed_two (p : Option Addr) (cc : Nat) (R : Nat) (w : World) (hR : w.heap[R]? = some robj) : Calls Tryz.prog 42 #[cv ⟨6, ⟨#[]⟩, v0, 0, 0, ⟨p, 2, cc⟩⟩, .pointer (some ⟨R, 0, none⟩), .int .i64 14] w fun e w' => e = .returned (.bool false) ∧ But R w w' := by
  have hlt := Rk.lt_of_block hR
  have HA := Lib.hid (Rk.fresh_alloc w (cobj ⟨6, ⟨#[]⟩, v0, 0, 0, ⟨p, 2, cc⟩⟩))
  have hR1 := (Rk.heap_old w (cobj ⟨6, ⟨#[]⟩, v0, 0, 0, ⟨p, 2, cc⟩⟩) hlt).trans hR
  have c0 : (w.alloc (cobj ⟨6, ⟨#[]⟩, v0, 0, 0, ⟨p, 2, cc⟩⟩)).cell? ⟨R, 0, none⟩ = some (.int .i64 256) := Lib.cell_of_heap hR1 0
  have f0 : (w.alloc (cobj ⟨6, ⟨#[]⟩, v0, 0, 0, ⟨p, 2, cc⟩⟩)).frozen? ⟨R, 0, none⟩ = false := Lib.frozen_of_heap hR1 0
  have hz := (set_else (w := w.alloc (cobj ⟨6, ⟨#[]⟩, v0, 0, 0, ⟨p, 2, cc⟩⟩)) (g := R) (k := 0) (.int .i64 255) (show w.heap.size ≠ R by omega)).trans (Rk.heap_last w (cobj ⟨6, ⟨#[]⟩, v0, 0, 0, ⟨p, 2, cc⟩⟩))
  have hzr := set_row (k := 0) hR1 (.int .i64 255)
  have d0 : ((w.alloc (cobj ⟨6, ⟨#[]⟩, v0, 0, 0, ⟨p, 2, cc⟩⟩)).setCell ⟨R, 0, none⟩ (.int .i64 255)).cell? ⟨R, 0, none⟩ = some (.int .i64 255) := Lib.cell_of_heap hzr 0
  obtain ⟨a0, a1, a2, a3, a4, a5, a6, a7⟩ := cells8 hz
  have HZ := Lib.hid hz
  have HL := Lib.hid hlt
  have HSZ := Lib.hid (set_size (w := w.alloc (cobj ⟨6, ⟨#[]⟩, v0, 0, 0, ⟨p, 2, cc⟩⟩)) (g := R) (k := 0) (.int .i64 255))
  have HB := Lib.hid (fun w' h => but_of HA.out hlt (.int .i64 255) (w' := w') h)
  have hne : ¬ R = w.heap.size := by omega
  have hne' : ¬ w.heap.size = R := by omega
  have HC := Lib.hid (fun W => sound_two p cc W)
  have hw1 : wrap64 (256 - 1) = 255 := by unfold wrap64; omega
  clear hR hR1 hz hzr hlt
  go_enter Tryz.func42, Tryz.ntmps42
  go_wp2_with fail
  refine (HC.out _).mono ?_
  clear HC
  rintro e w2 ⟨rfl, hb2⟩
  have HB2 := Lib.hid (HB.out w2 (by rw [HSZ.out] at hb2; exact hb2))
  clear hb2
  go_wp2_with fail
  go_ret
  exact ⟨rfl, HB2.out⟩
set_option maxHeartbeats 1000000 in
set_option maxRecDepth 100000 in
theorem index_none (c : Nat) (f : Value) (w : World) : Calls Tryz.prog 75 #[.slice none 0 c, f] w fun e w' => e = .returned (.int .i64 (-1)) ∧ w = w' := by
  go_enter Tryz.func75, Tryz.ntmps75
  go_wp2
  go_loopw [5, 8] (fun b i wr => i = .int .i64 0 ∧ wr = w) (fun _ _ _ => 0)
  case atStart => exact ⟨rfl, rfl⟩
  case round =>
    obtain ⟨rfl, rfl⟩ := hrel
    go_wp2_with fail
    go_ret
    exact ⟨rfl, rfl⟩
set_option maxHeartbeats 1000000 in
set_option maxRecDepth 100000 in
theorem contains_none (c : Nat) (f : Value) (w : World) : Calls Tryz.prog 57 #[.slice none 0 c, f] w fun e w' => e = .returned (.bool false) ∧ w = w' := by
  have HC := Lib.hid (index_none c f w)
  go_enter Tryz.func57, Tryz.ntmps57
  go_wp2_with fail
  refine HC.out.mono ?_
  rintro e w5 ⟨rfl, rfl⟩
  go_wp2_with fail
  go_ret
  exact ⟨rfl, rfl⟩
end Ft
end Go.Proofs.YtclmalaomofahaaGreatDoor
