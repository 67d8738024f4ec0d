/- errors.As at the log's own error and a variable of its type; the number of what the disk refused. Conditions: those that each theorem names. -/
import Derived.Test.YtioidkbpjkcjeaaGreatDoorWlErr
import Derived.Lib.Hide
namespace Go.Proofs.YtioidkbpjkcjeaaGreatDoor
set_option linter.unusedVariables false
open Go Go.RowKit Go.Extern.Stop Go.Stop Go.Extern
noncomputable abbrev hRf : Value := .pointer (some ⟨hG, 128, none⟩)
noncomputable abbrev hPt : Value := .pointer (some ⟨hG, 130, none⟩)
theorem as_none (t : Value) (w : World) : Calls Tryz.prog 56 #[.nilIface, t] w fun e w' => e = .returned (.bool false) ∧ w = w' := by
  go_enter Tryz.func56, Tryz.ntmps56
  go_wp2_with fail
  go_ret
  exact ⟨rfl, rfl⟩
theorem Tryz.vOfP (t : Addr) (w : World) : (ReflectliteValue.unpack (.iface 130 (.pointer (some t)))).run Tryz.prog w = .ok (.agg #[hPt, .pointer (some ⟨w.heap.size, 0, none⟩), .int .u64 150]) (w.alloc (.cells #[.pointer (some t)] 130)) := by kernel_rfl
theorem Tryz.vOfR (n : Int) (w : World) : (ReflectliteValue.unpack (.iface 128 (.int .i64 n))).run Tryz.prog w = .ok (.agg #[hRf, .pointer (some ⟨w.heap.size, 0, none⟩), .int .u64 130]) (w.alloc (.cells #[.int .i64 n] 128)) := by kernel_rfl
theorem Tryz.tyP (a : Addr) (w : World) : (ReflectliteValue.methodAny (ReflectliteValue.valueError "reflectlite.Value.Type" 0) (fun t _ _ _ => ReflectliteType.toType t) #[.agg #[hPt, .pointer (some a), .int .u64 150]]).run Tryz.prog w = .ok (.iface 180 (.agg #[hPt])) w := by kernel_rfl
theorem Tryz.mKind (k : Nat) (h : Value) (w : World) : (Go.method (k + 2) 180 (.agg #[h]) "Kind").run Tryz.prog w = .ok (128, h) w := by kernel_rfl
theorem Tryz.mElem (k : Nat) (h : Value) (w : World) : (Go.method (k + 2) 180 (.agg #[h]) "Elem").run Tryz.prog w = .ok (138, .agg #[h]) w := by kernel_rfl
theorem Tryz.mImpl (k : Nat) (h : Value) (w : World) : (Go.method (k + 2) 180 (.agg #[h]) "Implements").run Tryz.prog w = .ok (139, .agg #[h]) w := by kernel_rfl
theorem Tryz.mAssn (k : Nat) (h : Value) (w : World) : (Go.method (k + 2) 180 (.agg #[h]) "AssignableTo").run Tryz.prog w = .ok (136, .agg #[h]) w := by kernel_rfl
theorem Tryz.kP (w : World) : ((ReflectliteType.abiMethod fun t => (fun a : Nat => Value.int IntKind.u8 (a : Int)) <$> Rtype.kind t) #[hPt]).run Tryz.prog w = .ok (.int .u8 22) w := by kernel_rfl
theorem Tryz.kR (w : World) : ((ReflectliteType.abiMethod fun t => (fun a : Nat => Value.int IntKind.u8 (a : Int)) <$> Rtype.kind t) #[hRf]).run Tryz.prog w = .ok (.int .u8 2) w := by kernel_rfl
theorem Tryz.elP (w : World) : (ReflectliteType.method ReflectliteType.elem #[.agg #[hPt]]).run Tryz.prog w = .ok (.iface 180 (.agg #[hRf])) w := by kernel_rfl
theorem Tryz.imR (w : World) : (ReflectliteType.relation "Implements" ReflectliteType.implements_ #[.agg #[hRf], hdV]).run Tryz.prog w = .ok (.bool true) w := by kernel_rfl
theorem Tryz.asR (w : World) : (ReflectliteType.relation "AssignableTo" ReflectliteType.assignableTo #[.agg #[hRf], .iface 180 (.agg #[hRf])]).run Tryz.prog w = .ok (.bool true) w := by kernel_rfl
theorem Tryz.paP (a : Addr) (w : World) : (ReflectliteValue.parts (.agg #[hPt, .pointer (some a), .int .u64 150])).run Tryz.prog w = .ok (some (130, a, 150)) w := by kernel_rfl
theorem Tryz.paV (a : Addr) (w : World) : (ReflectliteValue.parts (.agg #[hRf, .pointer (some a), .int .u64 386])).run Tryz.prog w = .ok (some (128, a, 386)) w := by kernel_rfl
theorem Tryz.paN (a : Addr) (w : World) : (ReflectliteValue.parts (.agg #[hRf, .pointer (some a), .int .u64 130])).run Tryz.prog w = .ok (some (128, a, 130)) w := by kernel_rfl
theorem meth_one (z : Sem Value) (f : TypeId → Addr → Nat → Nat → Sem Value) (v : Value) :
    ReflectliteValue.method z f #[v] = (do match ← ReflectliteValue.parts v with | none => z | some (t, a, fl) => f t a fl (fl % 32)) := rfl
theorem Tryz.nilP (a p : Addr) (W : World) (ha : W.cell? a = some (.pointer (some p))) :
    (ReflectliteValue.method (ReflectliteValue.valueError "reflectlite.Value.IsNil" 0) ReflectliteValue.isNil #[.agg #[hPt, .pointer (some a), .int .u64 150]]).run Tryz.prog W = .ok (.bool false) W := by
  rw [meth_one]
  simp only [Sem.run_bind, Tryz.paP, Result.andThen]
  simp [ReflectliteValue.isNil, loadVar, isAgg, underlying, Tryz.underlying130, ha, Result.andThen]
theorem Tryz.elT (w : World) : (Rtype.elem? 130).run Tryz.prog w = .ok (some 128) w := by kernel_rfl
theorem Tryz.mkR (p : Addr) (w : World) : (ReflectliteValue.mk 128 p ReflectliteValue.flagAddr).run Tryz.prog w = .ok (.agg #[hRf, .pointer (some p), .int .u64 386]) w := by kernel_rfl
theorem Tryz.elV (a p : Addr) (W : World) (ha : W.cell? a = some (.pointer (some p))) :
    (ReflectliteValue.method (ReflectliteValue.valueError "reflectlite.Value.Elem" 0) ReflectliteValue.elem #[.agg #[hPt, .pointer (some a), .int .u64 150]]).run Tryz.prog W = .ok (.agg #[hRf, .pointer (some p), .int .u64 386]) W := by
  rw [meth_one]
  simp only [Sem.run_bind, Tryz.paP, Result.andThen]
  simp [ReflectliteValue.elem, loadVar, isAgg, underlying, Tryz.underlying130, ha, Result.andThen, Tryz.elT, Tryz.mkR]
theorem Tryz.dirR (w : World) : (Rtype.directlyAssignable 128 128).run Tryz.prog w = .ok true w := by kernel_rfl
theorem set_two (v x : Value) : ReflectliteValue.set #[v, x] = (do
    let (some (dst, a, fl), some (src, b, _)) := (← ReflectliteValue.parts v, ← ReflectliteValue.parts x)
      | unsupported (.noEntry "extern/(internal/reflectlite.Value).Set.zeroValue")
    if fl / ReflectliteValue.flagAddr % 2 == 0 then unsupported (.noEntry "extern/(internal/reflectlite.Value).Set.unaddressable")
    let val ← loadVar src b
    if ← Rtype.directlyAssignable dst src then storeVar dst a val
    else if ← Rtype.implements dst src then
      if (← Rtype.kind src) == 20 then
        match val with
        | .nilIface => unsupported (.noEntry "extern/reflectlite: a nil value of one interface type handed on as a value of another")
        | _ => storeVar dst a val
      else storeVar dst a (.iface src val)
    else panicString ("reflectlite.Set: value of type " ++ (← Rtype.spelt src) ++ " is not assignable to type " ++ (← Rtype.spelt dst))
    pure (.tuple #[])) := rfl
theorem Tryz.setR (ta b : Addr) (n : Int) (old : Value) (W : World) (hb : W.cell? b = some (.int .i64 n)) (ht : W.cell? ta = some old) (hf : W.frozen? ta = false) :
    (ReflectliteValue.set #[.agg #[hRf, .pointer (some ta), .int .u64 386], .agg #[hRf, .pointer (some b), .int .u64 130]]).run Tryz.prog W = .ok (.tuple #[]) (W.setCell ta (.int .i64 n)) := by
  rw [set_two]
  simp only [Sem.run_bind, Tryz.paV, Tryz.paN, Result.andThen]
  simp [ReflectliteValue.flagAddr, loadVar, isAgg, underlying, Tryz.underlying128, hb, Result.andThen, Tryz.dirR, storeVar, Value.cells, storeCells, Addr.add]
  rw [run_store Tryz.prog W ta _ _ (by rfl)]
  simp [ht, hf]
set_option maxHeartbeats 4000000 in
set_option maxRecDepth 100000 in
/-- errors.As at the log's own error: the variable gets it. -/
theorem as_refusal (n : Int) (t : Nat) (old : Value) (w : World) (G : Hd w) (ht : w.heap[t]? = some (.cells #[old] 128 (0, 0))) :
    Calls Tryz.prog 56 #[rfV n, .iface 130 (.pointer (some ⟨t, 0, none⟩))] w fun e w' => e = .returned (.bool true) ∧ w'.heap[t]? = some (.cells #[.int .i64 n] 128 (0, 0)) ∧ Below t w w' := by
  have h6 := @run_callFunc_extern Tryz.prog 75 _ (fun args => ReflectliteValue.unpack (args.getD 0 (.tuple #[]))) Tryz.func75 (by kernel_rfl) (by kernel_rfl) (by kernel_rfl) (by kernel_rfl)
  have h7 := @run_callFunc_extern Tryz.prog 76 _ (ReflectliteValue.methodAny (ReflectliteValue.valueError "reflectlite.Value.Type" 0) (fun t _ _ _ => ReflectliteType.toType t)) Tryz.func76 (by kernel_rfl) (by kernel_rfl) (by kernel_rfl) (by kernel_rfl)
  have h8 := @run_callFunc_extern Tryz.prog 77 _ (ReflectliteValue.method (ReflectliteValue.valueError "reflectlite.Value.IsNil" 0) ReflectliteValue.isNil) Tryz.func77 (by kernel_rfl) (by kernel_rfl) (by kernel_rfl) (by kernel_rfl)
  have h27 := @run_callFunc_extern Tryz.prog 128 _ (ReflectliteType.abiMethod fun t => do pure (.int .u8 (← Rtype.kind t))) Tryz.func128 (by kernel_rfl) (by kernel_rfl) (by kernel_rfl) (by kernel_rfl)
  have h37 := @run_callFunc_extern Tryz.prog 138 _ (ReflectliteType.method ReflectliteType.elem) Tryz.func138 (by kernel_rfl) (by kernel_rfl) (by kernel_rfl) (by kernel_rfl)
  have h38 := @run_callFunc_extern Tryz.prog 139 _ (ReflectliteType.relation "Implements" ReflectliteType.implements_) Tryz.func139 (by kernel_rfl) (by kernel_rfl) (by kernel_rfl) (by kernel_rfl)
  have h10 := @run_callFunc_extern Tryz.prog 72 _ ReflectliteType.typeOf Tryz.func72 (by kernel_rfl) (by kernel_rfl) (by kernel_rfl) (by kernel_rfl)
  have h35 := @run_callFunc_extern Tryz.prog 136 _ (ReflectliteType.relation "AssignableTo" ReflectliteType.assignableTo) Tryz.func136 (by kernel_rfl) (by kernel_rfl) (by kernel_rfl) (by kernel_rfl)
  have h11 := @run_callFunc_extern Tryz.prog 90 _ (ReflectliteValue.method (ReflectliteValue.valueError "reflectlite.Value.Elem" 0) ReflectliteValue.elem) Tryz.func90 (by kernel_rfl) (by kernel_rfl) (by kernel_rfl) (by kernel_rfl)
  have h12 := @run_callFunc_extern Tryz.prog 91 _ ReflectliteValue.set Tryz.func91 (by kernel_rfl) (by kernel_rfl) (by kernel_rfl) (by kernel_rfl)
  have f6 := Tryz.vOfP
  have f7 := Tryz.tyP
  have vR := Tryz.vOfR
  have mK := Tryz.mKind
  have mE := Tryz.mElem
  have mI := Tryz.mImpl
  have mA := Tryz.mAssn
  have k1 := Tryz.kP
  have k2 := Tryz.kR
  have eP := Tryz.elP
  have iR := Tryz.imR
  have tO := Tryz.typeOfR
  have aR := Tryz.asR
  have hgl := G.lt
  have htl : t < w.heap.size := (Array.getElem?_eq_some_iff.1 ht).1
  obtain ⟨U1, hU1⟩ : ∃ U1, U1 = w.alloc (.cells #[.pointer (some ⟨t, 0, none⟩)] 130) := ⟨_, rfl⟩
  obtain ⟨U2, hU2⟩ : ∃ U2, U2 = U1.alloc (.cells #[hPt, .pointer (some ⟨w.heap.size, 0, none⟩), .int .u64 150] 165) := ⟨_, rfl⟩
  obtain ⟨U3, hU3⟩ : ∃ U3, U3 = U2.alloc (.cells #[hPt, .pointer (some ⟨w.heap.size, 0, none⟩), .int .u64 150] 165) := ⟨_, rfl⟩
  obtain ⟨U4, hU4⟩ : ∃ U4, U4 = U3.alloc (.cells #[.int .i64 n] 128) := ⟨_, rfl⟩
  have z1 : U1.heap.size = w.heap.size + 1 := by rw [hU1]; show (w.heap.push _).size = _; simp
  have z2 : U2.heap.size = w.heap.size + 1 + 1 := by rw [hU2, ← z1]; show (U1.heap.push _).size = _; simp
  have z3 : U3.heap.size = w.heap.size + 1 + 1 + 1 := by rw [hU3, ← z2]; show (U2.heap.push _).size = _; simp
  have b1 : Below w.heap.size w U1 := by rw [hU1]; exact (Below.refl w.heap.size w).alloc (Nat.le_refl _) _
  have b2 : Below U1.heap.size U1 U2 := by rw [hU2]; exact (Below.refl U1.heap.size U1).alloc (Nat.le_refl _) _
  have b3 : Below U2.heap.size U2 U3 := by rw [hU3]; exact (Below.refl U2.heap.size U2).alloc (Nat.le_refl _) _
  have b4 : Below U3.heap.size U3 U4 := by rw [hU4]; exact (Below.refl U3.heap.size U3).alloc (Nat.le_refl _) _
  have r2 : Below w.heap.size w U2 := b1.trans (b2.mono b1.size)
  have r3 : Below w.heap.size w U3 := r2.trans (b3.mono r2.size)
  have r4 : Below w.heap.size w U4 := r3.trans (b4.mono r3.size)
  have t1 : U1.heap[w.heap.size]? = some (.cells #[.pointer (some ⟨t, 0, none⟩)] 130 (0, 0)) := by rw [hU1]; exact heap_alloc_new w _
  have c2 : U2.cell? ⟨w.heap.size, 0, none⟩ = some (.pointer (some ⟨t, 0, none⟩)) := by
    rw [cell_of_row _ _ _ _ _ _ ((b2.block _ (by omega)).trans t1)]; rfl
  have c3 : U3.cell? ⟨w.heap.size, 0, none⟩ = some (.pointer (some ⟨t, 0, none⟩)) := by
    rw [cell_of_row _ _ _ _ _ _ ((b3.block _ (by omega)).trans ((b2.block _ (by omega)).trans t1))]; rfl
  have hg2 : U2.cell? ⟨0, 0, none⟩ = some hdV := G.below r2
  have n8 := Tryz.nilP ⟨w.heap.size, 0, none⟩ ⟨t, 0, none⟩ U2 c2
  have eV := Tryz.elV ⟨w.heap.size, 0, none⟩ ⟨t, 0, none⟩ U3 c3
  have t4 : U4.heap[U3.heap.size]? = some (.cells #[.int .i64 n] 128 (0, 0)) := by rw [hU4]; exact heap_alloc_new U3 _
  have d4 : U4.cell? ⟨w.heap.size + 1 + 1 + 1, 0, none⟩ = some (.int .i64 n) := by
    rw [← z3, cell_of_row _ _ _ _ _ _ t4]; rfl
  have ht4 := (r4.block t htl).trans ht
  have e4 : U4.cell? ⟨t, 0, none⟩ = some old := by rw [cell_of_row _ _ _ _ _ _ ht4]; rfl
  have q4 : U4.frozen? ⟨t, 0, none⟩ = false := frozen_of_row _ _ _ _ _ ht4
  have st := Tryz.setR ⟨t, 0, none⟩ ⟨w.heap.size + 1 + 1 + 1, 0, none⟩ n old U4 d4 e4 q4
  have HF : Hid ((U4.setCell ⟨t, 0, none⟩ (.int .i64 n)).heap[t]? = some (.cells #[.int .i64 n] 128 (0, 0)) ∧ Below t w (U4.setCell ⟨t, 0, none⟩ (.int .i64 n))) := Lib.hid (by
    refine ⟨?_, (r4.mono (Nat.le_of_lt htl)).setCell (p := ⟨t, 0, none⟩) (Nat.le_refl _) _⟩
    rw [heap_setCell_same _ t 0 _ _ _ ht4]; rfl)
  clear b1 b2 b3 b4 r2 r3 r4 t1 c2 c3 t4 d4 ht4 e4 q4 hgl htl z1 z2 z3 ht G
  subst hU4 hU3 hU2 hU1
  unfold rfV
  go_enter Tryz.func56, Tryz.ntmps56
  go_wp2
  refine wp_loop_rounds 1 ?_
  rw [rounds_succ]
  go_wp2
  go_ret
  exact ⟨rfl, HF.out⟩
theorem number_nil (w : World) : Calls Tryz.prog 32 #[.nilIface] w fun e w' => e = .returned (.int .i64 0) ∧ Below w.heap.size w w' := by
  have hb : Below w.heap.size w (w.alloc (.cells #[.int .i64 0] 128)) := (Below.refl _ _).alloc (Nat.le_refl _) _
  have HB := Lib.hid hb
  clear hb
  go_enter Tryz.func32, Tryz.ntmps32
  go_wp2_with fail
  refine (as_none _ _).mono ?_
  rintro e w1 ⟨rfl, rfl⟩
  go_wp2_with fail
  go_ret
  exact ⟨rfl, HB.out⟩
theorem number_rf (n : Int) (w : World) (G : Hd w) : Calls Tryz.prog 32 #[rfV n] w fun e w' => e = .returned (.int .i64 n) ∧ Below w.heap.size w w' := by
  have hb : Below w.heap.size w (w.alloc (.cells #[.int .i64 0] 128)) := (Below.refl _ _).alloc (Nat.le_refl _) _
  have HB := Lib.hid hb
  have C := Lib.hid (as_refusal n w.heap.size (.int .i64 0) _ (G.below hb) (heap_alloc_new w _))
  clear hb G
  go_enter Tryz.func32, Tryz.ntmps32
  go_wp2_with fail
  refine C.out.mono ?_
  rintro e w1 ⟨rfl, h1, h2⟩
  have HX := Lib.hid (HB.out.trans h2)
  have c0 : w1.cell? ⟨w.heap.size, 0, none⟩ = some (.int .i64 n) := by rw [cell_of_row _ _ _ _ _ _ h1]; rfl
  clear h1 h2 C
  go_wp2_with fail
  go_ret
  exact ⟨rfl, HX.out⟩
end Go.Proofs.YtioidkbpjkcjeaaGreatDoor
