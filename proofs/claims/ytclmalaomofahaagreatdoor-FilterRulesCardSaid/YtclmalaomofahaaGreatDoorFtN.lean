/- Check of the conditions that the law's sure asks of: sound. Conditions: those that each theorem names. -/
import Derived.Test.YtclmalaomofahaaGreatDoorFtM
import Derived.Deep.RegionHeld3
namespace Go.Proofs.YtclmalaomofahaaGreatDoor
set_option linter.unusedVariables false
namespace Ft
open Go Go.RowKit Go.Shelf Pq Pq.Pl Rk Px
abbrev v0 : Val := ⟨0, 0, ⟨#[]⟩⟩
abbrev nil0 : Sl := ⟨none, 0, 0⟩
theorem met_has (v : Value) (w : World) : (Go.method (Tryz.prog.types.size + Made.depth) 66 v "lodestar/filter.cond").run Tryz.prog w = .ok (138, v) w := by kernel_rfl
theorem met_in (v : Value) (w : World) : (Go.method (Tryz.prog.types.size + Made.depth) 70 v "lodestar/filter.cond").run Tryz.prog w = .ok (140, v) w := by kernel_rfl
theorem eqN_has (v : Value) (w : World) : (binOp .eql 49 (.iface 66 v) .nilIface).run Tryz.prog w = .ok (.bool false) w := by kernel_rfl
theorem eqN_in (v : Value) (w : World) : (binOp .eql 49 (.iface 70 v) .nilIface).run Tryz.prog w = .ok (.bool false) w := by kernel_rfl
theorem eqN_nil (w : World) : (binOp .eql 49 .nilIface .nilIface).run Tryz.prog w = .ok (.bool true) w := by kernel_rfl
set_option maxHeartbeats 1000000 in
set_option maxRecDepth 100000 in
theorem cond_has (nm : Nm) (w : World) : Calls Tryz.prog 138 #[.string nm] w fun e w' => e = .returned (cv ⟨3, nm, v0, 0, 0, nil0⟩) ∧ Below w.heap.size w w' := by
  have HB := Lib.hid (Rk.fresh_alloc w (cobj ⟨3, nm, v0, 0, 0, nil0⟩))
  obtain ⟨d0, d1, d2, d3, d4, d5, d6, d7⟩ := cells8 (Rk.heap_last w (cobj ⟨3, nm, v0, 0, 0, nil0⟩))
  go_enter Tryz.func138, Tryz.ntmps138
  go_wp2_with fail
  refine bodyPost_ret (v := cv ⟨3, nm, v0, 0, 0, nil0⟩) (by simp [results, Tryz.results138, go_sem, d0, d1, d2, d3, d4, d5, d6, d7]) rfl ?_
  exact ⟨rfl, HB.out⟩
set_option maxHeartbeats 1000000 in
set_option maxRecDepth 100000 in
theorem cond_in (nm : Nm) (lo hi : Int) (w : World) : Calls Tryz.prog 140 #[.agg #[.string nm, .int .i64 lo, .int .i64 hi]] w fun e w' => e = .returned (cv ⟨5, nm, v0, lo, hi, nil0⟩) ∧ Below w.heap.size w w' := by
  have HA := Lib.hid (Rk.fresh_alloc w (.cells #[.string nm, .int .i64 lo, .int .i64 hi] 70))
  have HB := Lib.hid (HA.out.alloc HA.out.size (cobj ⟨5, nm, v0, lo, hi, nil0⟩))
  have hz := Rk.heap_last (w.alloc (.cells #[.string nm, .int .i64 lo, .int .i64 hi] 70)) (cobj ⟨5, nm, v0, lo, hi, nil0⟩)
  rw [show (w.alloc (.cells #[.string nm, .int .i64 lo, .int .i64 hi] 70)).heap.size = w.heap.size + 1 by simp] at hz
  obtain ⟨d0, d1, d2, d3, d4, d5, d6, d7⟩ := cells8 hz
  have hz2 := (Rk.heap_old (w.alloc (.cells #[.string nm, .int .i64 lo, .int .i64 hi] 70)) zC (by simp)).trans (Rk.heap_last w (.cells #[.string nm, .int .i64 lo, .int .i64 hi] 70))
  obtain ⟨y0, y1, y2⟩ := cells3 hz2
  clear hz hz2
  go_enter Tryz.func140, Tryz.ntmps140
  go_wp2_with fail
  refine bodyPost_ret (v := cv ⟨5, nm, v0, lo, hi, nil0⟩) (by simp [results, Tryz.results140, go_sem, d0, d1, d2, d3, d4, d5, d6, d7]) rfl ?_
  exact ⟨rfl, HB.out⟩
set_option maxHeartbeats 1000000 in
set_option maxRecDepth 100000 in
theorem end_5 (w : World) : Calls Tryz.prog 72 #[.int .i64 5] w fun e w' => e = .returned (.bool true) ∧ Below w.heap.size w w' := by
  go_enter Tryz.func72, Tryz.ntmps72
  go_wp2_with fail
  go_ret
  exact ⟨rfl, Below.refl _ _⟩
set_option maxHeartbeats 1000000 in
set_option maxRecDepth 100000 in
theorem end_9 (w : World) : Calls Tryz.prog 72 #[.int .i64 9] w fun e w' => e = .returned (.bool true) ∧ Below w.heap.size w w' := by
  go_enter Tryz.func72, Tryz.ntmps72
  go_wp2_with fail
  go_ret
  exact ⟨rfl, Below.refl _ _⟩
end Ft
end Go.Proofs.YtclmalaomofahaaGreatDoor
