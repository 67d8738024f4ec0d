/- What the log makes of the disk's answers: errors, and back. Conditions: those that each theorem names. -/
import Derived.Test.YtifghohaelmjjabDoorWlHd
import Derived.LaidEql
import Derived.Stop.Asserts
namespace Go.Proofs.YtifghohaelmjjabDoor
set_option linter.unusedVariables false
open Go Go.RowKit Go.Extern.Stop Go.Stop Go.Extern
def rfV (n : Int) : Value := .iface 74 (.int .i64 n)
def ansV (n : Int) : Value := if n = 0 then .nilIface else rfV n
theorem answered_ok (w : World) : Calls Tryd.prog 26 #[.int .i64 0] w fun e w' => e = .returned .nilIface ∧ w = w' := by
  go_enter Tryd.func26, Tryd.ntmps26
  go_wp2_with fail
  go_ret
  exact ⟨rfl, rfl⟩
theorem answered_no (n : Int) (w : World) (h : (n == 0) = false) : Calls Tryd.prog 26 #[.int .i64 n] w fun e w' => e = .returned (rfV n) ∧ w = w' := by
  go_enter Tryd.func26, Tryd.ntmps26
  go_wp2_with fail
  go_ret
  exact ⟨rfl, rfl⟩
theorem Tryd.eqlN (w : World) : (binOp .eql 51 .nilIface (.iface 74 (.int .i64 20))).run Tryd.prog w = .ok (.bool false) w := by kernel_rfl
theorem Tryd.eqlS (w : World) : (binOp .eql 51 (.iface 74 (.int .i64 20)) (.iface 74 (.int .i64 20))).run Tryd.prog w = .ok (.bool true) w := by kernel_rfl
def compF : Array Value → Sem Value := ReflectliteType.method fun t => do Rtype.noPackHeld "Comparable" t; pure (.bool (← typeInfo t).comparable)
theorem Tryd.compR (w : World) : (compF #[.agg #[.pointer (some ⟨1, 74, none⟩)]]).run Tryd.prog w = .ok (.bool true) w := by kernel_rfl
set_option maxRecDepth 100000 in
theorem is_nil (w : World) : Calls Tryd.prog 27 #[.nilIface, rfV 20] w fun e w' => e = .returned (.bool false) ∧ w = w' := by
  have e1 := Tryd.eqlN
  unfold rfV
  go_enter Tryd.func27, Tryd.ntmps27
  go_wp2_with fail
  go_ret
  exact ⟨rfl, rfl⟩
theorem Tryd.methC (k : Nat) (h : Value) (w : World) : (Go.method (k + 2) 124 (.agg #[h]) "Comparable").run Tryd.prog w = .ok (106, .agg #[h]) w := by kernel_rfl
theorem Tryd.typeOfR (v : Value) (w : World) : (ReflectliteType.typeOf #[.iface 74 v]).run Tryd.prog w = .ok (.iface 124 (.agg #[.pointer (some ⟨1, 74, none⟩)])) w := by kernel_rfl
set_option maxRecDepth 100000 in
set_option maxHeartbeats 2000000 in
theorem is_deep (w : World) : Calls Tryd.prog 41 #[.iface 74 (.int .i64 20), .iface 74 (.int .i64 20), .bool true] w fun e w' => e = .returned (.bool true) ∧ w = w' := by
  have e1 := Tryd.eqlS
  go_enter Tryd.func41, Tryd.ntmps41
  go_wp2_with fail
  refine wp_loop_rounds 1 ?_
  rw [rounds_succ]
  go_wp2_with fail
  go_ret
  exact ⟨rfl, rfl⟩
set_option maxRecDepth 100000 in
set_option maxHeartbeats 2000000 in
theorem is_same (w : World) : Calls Tryd.prog 27 #[rfV 20, rfV 20] w fun e w' => e = .returned (.bool true) ∧ w = w' := by
  have h10 := @run_callFunc_extern Tryd.prog 40 _ ReflectliteType.typeOf Tryd.func40 (by kernel_rfl) (by kernel_rfl) (by kernel_rfl) (by kernel_rfl)
  have h11 := @run_callFunc_extern Tryd.prog 106 _ compF Tryd.func106 (by kernel_rfl) (by kernel_rfl) (by kernel_rfl) (by kernel_rfl)
  have tO := Tryd.typeOfR
  have mC := Tryd.methC
  have cR := Tryd.compR
  unfold rfV
  go_enter Tryd.func27, Tryd.ntmps27
  go_wp2_with (go_at_call 41; refine (is_deep _).mono ?_; rintro e w2 ⟨rfl, rfl⟩)
  go_ret
  exact ⟨rfl, rfl⟩
end Go.Proofs.YtifghohaelmjjabDoor
