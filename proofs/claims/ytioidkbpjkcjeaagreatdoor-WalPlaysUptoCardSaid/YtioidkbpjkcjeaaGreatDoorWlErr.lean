/- What the log makes of the disk's answers: errors, and back. Conditions: those that each theorem names. -/
import Derived.Test.YtioidkbpjkcjeaaGreatDoorWlHd
import Derived.LaidEql
import Derived.Stop.Asserts
namespace Go.Proofs.YtioidkbpjkcjeaaGreatDoor
set_option linter.unusedVariables false
open Go Go.RowKit Go.Extern.Stop Go.Stop Go.Extern
def rfV (n : Int) : Value := .iface 128 (.int .i64 n)
def ansV (n : Int) : Value := if n = 0 then .nilIface else rfV n
theorem answered_ok (w : World) : Calls Tryz.prog 53 #[.int .i64 0] w fun e w' => e = .returned .nilIface ∧ w = w' := by
  go_enter Tryz.func53, Tryz.ntmps53
  go_wp2_with fail
  go_ret
  exact ⟨rfl, rfl⟩
theorem answered_no (n : Int) (w : World) (h : (n == 0) = false) : Calls Tryz.prog 53 #[.int .i64 n] w fun e w' => e = .returned (rfV n) ∧ w = w' := by
  go_enter Tryz.func53, Tryz.ntmps53
  go_wp2_with fail
  go_ret
  exact ⟨rfl, rfl⟩
theorem Tryz.eqlN (w : World) : (binOp .eql 96 .nilIface (.iface 128 (.int .i64 20))).run Tryz.prog w = .ok (.bool false) w := by kernel_rfl
theorem Tryz.eqlS (w : World) : (binOp .eql 96 (.iface 128 (.int .i64 20)) (.iface 128 (.int .i64 20))).run Tryz.prog w = .ok (.bool true) w := by kernel_rfl
def compF : Array Value → Sem Value := ReflectliteType.method fun t => do Rtype.noPackHeld "Comparable" t; pure (.bool (← typeInfo t).comparable)
theorem Tryz.compR (w : World) : (compF #[.agg #[.pointer (some ⟨hG, 128, none⟩)]]).run Tryz.prog w = .ok (.bool true) w := by kernel_rfl
set_option maxRecDepth 100000 in
theorem is_nil (w : World) : Calls Tryz.prog 54 #[.nilIface, rfV 20] w fun e w' => e = .returned (.bool false) ∧ w = w' := by
  have e1 := Tryz.eqlN
  unfold rfV
  go_enter Tryz.func54, Tryz.ntmps54
  go_wp2_with fail
  go_ret
  exact ⟨rfl, rfl⟩
theorem Tryz.methC (k : Nat) (h : Value) (w : World) : (Go.method (k + 2) 180 (.agg #[h]) "Comparable").run Tryz.prog w = .ok (137, .agg #[h]) w := by kernel_rfl
theorem Tryz.typeOfR (v : Value) (w : World) : (ReflectliteType.typeOf #[.iface 128 v]).run Tryz.prog w = .ok (.iface 180 (.agg #[.pointer (some ⟨hG, 128, none⟩)])) w := by kernel_rfl
set_option maxRecDepth 100000 in
set_option maxHeartbeats 2000000 in
theorem is_deep (w : World) : Calls Tryz.prog 73 #[.iface 128 (.int .i64 20), .iface 128 (.int .i64 20), .bool true] w fun e w' => e = .returned (.bool true) ∧ w = w' := by
  have e1 := Tryz.eqlS
  go_enter Tryz.func73, Tryz.ntmps73
  go_wp2_with fail
  refine wp_loop_rounds 1 ?_
  rw [rounds_succ]
  go_wp2_with fail
  go_ret
  exact ⟨rfl, rfl⟩
set_option maxRecDepth 100000 in
set_option maxHeartbeats 2000000 in
theorem is_same (w : World) : Calls Tryz.prog 54 #[rfV 20, rfV 20] w fun e w' => e = .returned (.bool true) ∧ w = w' := by
  have h10 := @run_callFunc_extern Tryz.prog 72 _ ReflectliteType.typeOf Tryz.func72 (by kernel_rfl) (by kernel_rfl) (by kernel_rfl) (by kernel_rfl)
  have h11 := @run_callFunc_extern Tryz.prog 137 _ compF Tryz.func137 (by kernel_rfl) (by kernel_rfl) (by kernel_rfl) (by kernel_rfl)
  have tO := Tryz.typeOfR
  have mC := Tryz.methC
  have cR := Tryz.compR
  unfold rfV
  go_enter Tryz.func54, Tryz.ntmps54
  go_wp2_with (go_at_call 73; refine (is_deep _).mono ?_; rintro e w2 ⟨rfl, rfl⟩)
  go_ret
  exact ⟨rfl, rfl⟩
end Go.Proofs.YtioidkbpjkcjeaaGreatDoor
