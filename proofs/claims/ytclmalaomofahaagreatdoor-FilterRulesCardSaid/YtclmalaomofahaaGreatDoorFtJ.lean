/- The program's passes, by what a condition says. Conditions: those that each theorem names. -/
import Derived.Test.YtclmalaomofahaaGreatDoorFtH
import Derived.Test.YtclmalaomofahaaGreatDoorFtI
namespace Go.Proofs.YtclmalaomofahaaGreatDoor
set_option linter.unusedVariables false
namespace Ft
open Go Go.RowKit Go.Shelf Pq Pq.Pl Rk Px
theorem pbox_cells (w : World) (p : Rp) : (w.alloc (pbox p)).cell? ⟨w.heap.size, 0, none⟩ = some (.int .i64 p.id) ∧ (w.alloc (pbox p)).cell? ⟨w.heap.size, 1, none⟩ = some (.slice p.v.p p.v.n p.v.c) ∧ (w.alloc (pbox p)).cell? ⟨w.heap.size, 2, none⟩ = some (.slice p.f.p p.f.n p.f.c) := cells3 (Rk.heap_last w (pbox p))
theorem ta_constant_nil (w : World) : (Instr.typeAssert .nilIface 49 65 true).run Tryz.prog w = .ok (.tuple #[.bool false, .bool false]) w := by kernel_rfl
theorem ta_constant_constant (v : Value) (w : World) : (Instr.typeAssert (.iface 65 v) 49 65 true).run Tryz.prog w = .ok (.tuple #[v, .bool true]) w := by kernel_rfl
theorem ta_constant_has (v : Value) (w : World) : (Instr.typeAssert (.iface 66 v) 49 65 true).run Tryz.prog w = .ok (.tuple #[.bool false, .bool false]) w := by kernel_rfl
theorem ta_constant_is (v : Value) (w : World) : (Instr.typeAssert (.iface 68 v) 49 65 true).run Tryz.prog w = .ok (.tuple #[.bool false, .bool false]) w := by kernel_rfl
theorem ta_constant_in (v : Value) (w : World) : (Instr.typeAssert (.iface 70 v) 49 65 true).run Tryz.prog w = .ok (.tuple #[.bool false, .bool false]) w := by kernel_rfl
theorem ta_constant_not (v : Value) (w : World) : (Instr.typeAssert (.iface 72 v) 49 65 true).run Tryz.prog w = .ok (.tuple #[.bool false, .bool false]) w := by kernel_rfl
theorem ta_constant_and (v : Value) (w : World) : (Instr.typeAssert (.iface 73 v) 49 65 true).run Tryz.prog w = .ok (.tuple #[.bool false, .bool false]) w := by kernel_rfl
theorem ta_constant_or (v : Value) (w : World) : (Instr.typeAssert (.iface 76 v) 49 65 true).run Tryz.prog w = .ok (.tuple #[.bool false, .bool false]) w := by kernel_rfl
theorem ta_has_nil (w : World) : (Instr.typeAssert .nilIface 49 66 true).run Tryz.prog w = .ok (.tuple #[.string ⟨#[]⟩, .bool false]) w := by kernel_rfl
theorem ta_has_has (v : Value) (w : World) : (Instr.typeAssert (.iface 66 v) 49 66 true).run Tryz.prog w = .ok (.tuple #[v, .bool true]) w := by kernel_rfl
theorem ta_has_is (v : Value) (w : World) : (Instr.typeAssert (.iface 68 v) 49 66 true).run Tryz.prog w = .ok (.tuple #[.string ⟨#[]⟩, .bool false]) w := by kernel_rfl
theorem ta_has_in (v : Value) (w : World) : (Instr.typeAssert (.iface 70 v) 49 66 true).run Tryz.prog w = .ok (.tuple #[.string ⟨#[]⟩, .bool false]) w := by kernel_rfl
theorem ta_has_not (v : Value) (w : World) : (Instr.typeAssert (.iface 72 v) 49 66 true).run Tryz.prog w = .ok (.tuple #[.string ⟨#[]⟩, .bool false]) w := by kernel_rfl
theorem ta_has_and (v : Value) (w : World) : (Instr.typeAssert (.iface 73 v) 49 66 true).run Tryz.prog w = .ok (.tuple #[.string ⟨#[]⟩, .bool false]) w := by kernel_rfl
theorem ta_has_or (v : Value) (w : World) : (Instr.typeAssert (.iface 76 v) 49 66 true).run Tryz.prog w = .ok (.tuple #[.string ⟨#[]⟩, .bool false]) w := by kernel_rfl
theorem ta_is_nil (w : World) : (Instr.typeAssert .nilIface 49 68 true).run Tryz.prog w = .ok (.tuple #[.agg #[.string ⟨#[]⟩, .int .i64 0, .int .i64 0, .string ⟨#[]⟩], .bool false]) w := by kernel_rfl
theorem ta_is_is (v : Value) (w : World) : (Instr.typeAssert (.iface 68 v) 49 68 true).run Tryz.prog w = .ok (.tuple #[v, .bool true]) w := by kernel_rfl
theorem ta_is_in (v : Value) (w : World) : (Instr.typeAssert (.iface 70 v) 49 68 true).run Tryz.prog w = .ok (.tuple #[.agg #[.string ⟨#[]⟩, .int .i64 0, .int .i64 0, .string ⟨#[]⟩], .bool false]) w := by kernel_rfl
theorem ta_is_not (v : Value) (w : World) : (Instr.typeAssert (.iface 72 v) 49 68 true).run Tryz.prog w = .ok (.tuple #[.agg #[.string ⟨#[]⟩, .int .i64 0, .int .i64 0, .string ⟨#[]⟩], .bool false]) w := by kernel_rfl
theorem ta_is_and (v : Value) (w : World) : (Instr.typeAssert (.iface 73 v) 49 68 true).run Tryz.prog w = .ok (.tuple #[.agg #[.string ⟨#[]⟩, .int .i64 0, .int .i64 0, .string ⟨#[]⟩], .bool false]) w := by kernel_rfl
theorem ta_is_or (v : Value) (w : World) : (Instr.typeAssert (.iface 76 v) 49 68 true).run Tryz.prog w = .ok (.tuple #[.agg #[.string ⟨#[]⟩, .int .i64 0, .int .i64 0, .string ⟨#[]⟩], .bool false]) w := by kernel_rfl
theorem ta_in_nil (w : World) : (Instr.typeAssert .nilIface 49 70 true).run Tryz.prog w = .ok (.tuple #[.agg #[.string ⟨#[]⟩, .int .i64 0, .int .i64 0], .bool false]) w := by kernel_rfl
theorem ta_in_in (v : Value) (w : World) : (Instr.typeAssert (.iface 70 v) 49 70 true).run Tryz.prog w = .ok (.tuple #[v, .bool true]) w := by kernel_rfl
theorem ta_in_not (v : Value) (w : World) : (Instr.typeAssert (.iface 72 v) 49 70 true).run Tryz.prog w = .ok (.tuple #[.agg #[.string ⟨#[]⟩, .int .i64 0, .int .i64 0], .bool false]) w := by kernel_rfl
theorem ta_in_and (v : Value) (w : World) : (Instr.typeAssert (.iface 73 v) 49 70 true).run Tryz.prog w = .ok (.tuple #[.agg #[.string ⟨#[]⟩, .int .i64 0, .int .i64 0], .bool false]) w := by kernel_rfl
theorem ta_in_or (v : Value) (w : World) : (Instr.typeAssert (.iface 76 v) 49 70 true).run Tryz.prog w = .ok (.tuple #[.agg #[.string ⟨#[]⟩, .int .i64 0, .int .i64 0], .bool false]) w := by kernel_rfl
theorem ta_not_nil (w : World) : (Instr.typeAssert .nilIface 49 72 true).run Tryz.prog w = .ok (.tuple #[.agg #[.int .i64 0, .string ⟨#[]⟩, .int .i64 0, .int .i64 0, .string ⟨#[]⟩, .int .i64 0, .int .i64 0, .slice none 0 0], .bool false]) w := by kernel_rfl
theorem ta_not_not (v : Value) (w : World) : (Instr.typeAssert (.iface 72 v) 49 72 true).run Tryz.prog w = .ok (.tuple #[v, .bool true]) w := by kernel_rfl
theorem ta_not_and (v : Value) (w : World) : (Instr.typeAssert (.iface 73 v) 49 72 true).run Tryz.prog w = .ok (.tuple #[.agg #[.int .i64 0, .string ⟨#[]⟩, .int .i64 0, .int .i64 0, .string ⟨#[]⟩, .int .i64 0, .int .i64 0, .slice none 0 0], .bool false]) w := by kernel_rfl
theorem ta_not_or (v : Value) (w : World) : (Instr.typeAssert (.iface 76 v) 49 72 true).run Tryz.prog w = .ok (.tuple #[.agg #[.int .i64 0, .string ⟨#[]⟩, .int .i64 0, .int .i64 0, .string ⟨#[]⟩, .int .i64 0, .int .i64 0, .slice none 0 0], .bool false]) w := by kernel_rfl
theorem ta_and_nil (w : World) : (Instr.typeAssert .nilIface 49 73 true).run Tryz.prog w = .ok (.tuple #[.slice none 0 0, .bool false]) w := by kernel_rfl
theorem ta_and_and (v : Value) (w : World) : (Instr.typeAssert (.iface 73 v) 49 73 true).run Tryz.prog w = .ok (.tuple #[v, .bool true]) w := by kernel_rfl
theorem ta_and_or (v : Value) (w : World) : (Instr.typeAssert (.iface 76 v) 49 73 true).run Tryz.prog w = .ok (.tuple #[.slice none 0 0, .bool false]) w := by kernel_rfl
theorem ta_or_nil (w : World) : (Instr.typeAssert .nilIface 49 76 true).run Tryz.prog w = .ok (.tuple #[.slice none 0 0, .bool false]) w := by kernel_rfl
theorem ta_or_or (v : Value) (w : World) : (Instr.typeAssert (.iface 76 v) 49 76 true).run Tryz.prog w = .ok (.tuple #[v, .bool true]) w := by kernel_rfl
set_option maxHeartbeats 2000000 in
set_option maxRecDepth 100000 in
theorem ps_const (b : Bool) (F : List Fld) (p : Rp) (w : World) (hf : FldsAt w (.slice p.f.p p.f.n p.f.c) F) (hok : FldsOk F) :
    Calls Tryz.prog 25 #[.iface 65 (.bool b), pv p] w fun e w' => e = .returned (.bool b) ∧ Below w.heap.size w w' := by
  have HA := Lib.hid (Rk.fresh_alloc w (pbox p))
  obtain ⟨pid, ⟨vp, vn, vc⟩, ⟨fp, fn, fc⟩⟩ := p
  simp only at *
  have t_constant := ta_constant_constant
  go_enter Tryz.func25, Tryz.ntmps25
  go_wp2_with fail
  go_ret
  exact ⟨rfl, HA.out⟩
set_option maxHeartbeats 2000000 in
set_option maxRecDepth 100000 in
theorem ps_none (F : List Fld) (p : Rp) (w : World) (hf : FldsAt w (.slice p.f.p p.f.n p.f.c) F) (hok : FldsOk F) :
    Calls Tryz.prog 25 #[.nilIface, pv p] w fun e w' => e = .returned (.bool false) ∧ Below w.heap.size w w' := by
  have HA := Lib.hid (Rk.fresh_alloc w (pbox p))
  obtain ⟨pid, ⟨vp, vn, vc⟩, ⟨fp, fn, fc⟩⟩ := p
  simp only at *
  have t_constant := ta_constant_nil
  have t_has := ta_has_nil
  have t_is := ta_is_nil
  have t_in := ta_in_nil
  have t_not := ta_not_nil
  have t_and := ta_and_nil
  have t_or := ta_or_nil
  go_enter Tryz.func25, Tryz.ntmps25
  go_wp2_with fail
  go_ret
  exact ⟨rfl, HA.out⟩
set_option maxHeartbeats 2000000 in
set_option maxRecDepth 100000 in
theorem ps_has (nm : Nm) (F : List Fld) (p : Rp) (w : World) (hf : FldsAt w (.slice p.f.p p.f.n p.f.c) F) (hok : FldsOk F) :
    Calls Tryz.prog 25 #[.iface 66 (.string nm), pv p] w fun e w' => e = .returned (.bool (getL F nm).isSome) ∧ Below w.heap.size w w' := by
  have HA := Lib.hid (Rk.fresh_alloc w (pbox p))
  have HG := Lib.hid (get_any F _ nm _ (hf.below HA.out) hok)
  obtain ⟨xk, xn, xt, hb, hgot, hsome, hin, his⟩ := got_is (getL F nm)
  rw [hgot] at HG
  have HPS : Hid ((getL F nm).isSome = hb) := Lib.hid (hsome)
  rw [HPS.out]
  clear hf hok hgot hsome hin his
  obtain ⟨pid, ⟨vp, vn, vc⟩, ⟨fp, fn, fc⟩⟩ := p
  simp only at *
  have t_constant := ta_constant_has
  have t_has := ta_has_has
  go_enter Tryz.func25, Tryz.ntmps25
  go_wp2_with fail
  refine HG.out.mono ?_
  clear HG
  rintro e w2 ⟨rfl, hb2⟩
  have HB2 := Lib.hid (HA.out.trans (hb2.mono HA.out.size))
  have HBX := Lib.hid (HB2.out.alloc HB2.out.size (.cells #[.int .i64 xk, .int .i64 xn, .string xt] 23))
  clear hb2
  go_wp2_with fail
  go_ret
  exact ⟨rfl, HBX.out⟩
set_option maxHeartbeats 2000000 in
set_option maxRecDepth 100000 in
theorem ps_is (nm : Nm) (v : Val) (F : List Fld) (p : Rp) (w : World) (hf : FldsAt w (.slice p.f.p p.f.n p.f.c) F) (hok : FldsOk F) :
    Calls Tryz.prog 25 #[.iface 68 (.agg #[.string nm, .int .i64 v.kind, .int .i64 v.n, .string v.text]), pv p] w fun e w' => e = .returned (.bool (isB v (getL F nm))) ∧ Below w.heap.size w w' := by
  have HA := Lib.hid (Rk.fresh_alloc w (pbox p))
  have HA2 := Lib.hid (HA.out.alloc HA.out.size (.cells #[.string nm, .int .i64 v.kind, .int .i64 v.n, .string v.text] 68))
  have HG := Lib.hid (get_any F _ nm _ (hf.below HA2.out) hok)
  obtain ⟨xk, xn, xt, hb, hgot, hsome, hin, his⟩ := got_is (getL F nm)
  rw [hgot] at HG
  have HPS : Hid (isB v (getL F nm) = (hb && decide (cmpV ⟨xk, xn, xt⟩ v = 0))) := Lib.hid (his v)
  rw [HPS.out]
  have hz1 : ((w.alloc (pbox p)).alloc (.cells #[.string nm, .int .i64 v.kind, .int .i64 v.n, .string v.text] 68)).heap[w.heap.size]? = some (pbox p) := by rw [Rk.heap_old _ _ (by simp), Rk.heap_last]
  have hz2 : ((w.alloc (pbox p)).alloc (.cells #[.string nm, .int .i64 v.kind, .int .i64 v.n, .string v.text] 68)).heap[w.heap.size + 1]? = some (.cells #[.string nm, .int .i64 v.kind, .int .i64 v.n, .string v.text] 68) := by
    have := Rk.heap_last (w.alloc (pbox p)) (.cells #[.string nm, .int .i64 v.kind, .int .i64 v.n, .string v.text] 68)
    rw [show (w.alloc (pbox p)).heap.size = w.heap.size + 1 by simp] at this
    exact this
  have HZ1 := Lib.hid hz1
  have HZ2 := Lib.hid hz2
  obtain ⟨_, _, y2⟩ := cells3 hz1
  clear hf hok hgot hsome hin his hz1 hz2
  obtain ⟨pid, ⟨vp, vn, vc⟩, ⟨fp, fn, fc⟩⟩ := p
  simp only at *
  have HC := Lib.hid (fun W => compare_is xk xn v.kind v.n xt v.text W)
  obtain ⟨cz, hcz⟩ : ∃ cz, cz = cmpV ⟨xk, xn, xt⟩ v := ⟨_, rfl⟩
  change Hid (∀ W, Calls _ _ _ W fun e w' => e = .returned (.int .i64 (cmpV ⟨xk, xn, xt⟩ v)) ∧ _) at HC
  rw [← hcz] at HC ⊢
  clear hcz
  have t_constant := ta_constant_is
  have t_has := ta_has_is
  have t_is := ta_is_is
  go_enter Tryz.func25, Tryz.ntmps25
  go_wp2_with fail
  refine HG.out.mono ?_
  clear HG
  rintro e w2 ⟨rfl, hb2⟩
  have HB2 := Lib.hid (HA2.out.trans (hb2.mono HA2.out.size))
  have HBX := Lib.hid (HB2.out.alloc HB2.out.size (.cells #[.int .i64 xk, .int .i64 xn, .string xt] 23))
  have z2 := (Rk.heap_old w2 (.cells #[.int .i64 xk, .int .i64 xn, .string xt] 23) (Nat.lt_of_lt_of_le (Rk.lt_of_block HZ2.out) hb2.size)).trans ((hb2.block _ (Rk.lt_of_block HZ2.out)).trans HZ2.out)
  have d0 := Lib.cell_of_heap z2 0
  have d1 := Lib.cell_of_heap z2 1
  have d2 := Lib.cell_of_heap z2 2
  have d3 := Lib.cell_of_heap z2 3
  obtain ⟨e0, e1, e2⟩ := cells3 (Rk.heap_last w2 (.cells #[.int .i64 xk, .int .i64 xn, .string xt] 23))
  simp at d0 d1 d2 d3
  clear hb2 z2
  cases hb
  · clear HC
    go_wp2_with fail
    go_ret
    exact ⟨rfl, HBX.out⟩
  · go_wp2_with fail
    refine (HC.out _).mono ?_
    clear HC
    rintro e w4 ⟨rfl, hb4⟩
    have HB4 := Lib.hid (HBX.out.trans (hb4.mono HBX.out.size))
    clear hb4
    go_wp2_with fail
    go_ret
    exact ⟨retb (by rw [Bool.true_and]; rfl), HB4.out⟩
set_option maxHeartbeats 2000000 in
set_option maxRecDepth 100000 in
theorem ps_in (nm : Nm) (lo hi : Int) (F : List Fld) (p : Rp) (w : World) (hf : FldsAt w (.slice p.f.p p.f.n p.f.c) F) (hok : FldsOk F) :
    Calls Tryz.prog 25 #[.iface 70 (.agg #[.string nm, .int .i64 lo, .int .i64 hi]), pv p] w fun e w' => e = .returned (.bool (inB lo hi (getL F nm))) ∧ Below w.heap.size w w' := by
  have HA := Lib.hid (Rk.fresh_alloc w (pbox p))
  have HA2 := Lib.hid (HA.out.alloc HA.out.size (.cells #[.string nm, .int .i64 lo, .int .i64 hi] 70))
  have HG := Lib.hid (get_any F _ nm _ (hf.below HA2.out) hok)
  obtain ⟨xk, xn, xt, hb, hgot, hsome, hin, his⟩ := got_is (getL F nm)
  rw [hgot] at HG
  have HPS : Hid (inB lo hi (getL F nm) = (hb && (xk == 1) && decide (lo ≤ xn) && decide (xn ≤ hi))) := Lib.hid (hin lo hi)
  rw [HPS.out]
  have hz1 : ((w.alloc (pbox p)).alloc (.cells #[.string nm, .int .i64 lo, .int .i64 hi] 70)).heap[w.heap.size]? = some (pbox p) := by rw [Rk.heap_old _ _ (by simp), Rk.heap_last]
  have hz2 : ((w.alloc (pbox p)).alloc (.cells #[.string nm, .int .i64 lo, .int .i64 hi] 70)).heap[w.heap.size + 1]? = some (.cells #[.string nm, .int .i64 lo, .int .i64 hi] 70) := by
    have := Rk.heap_last (w.alloc (pbox p)) (.cells #[.string nm, .int .i64 lo, .int .i64 hi] 70)
    rw [show (w.alloc (pbox p)).heap.size = w.heap.size + 1 by simp] at this
    exact this
  have HZ1 := Lib.hid hz1
  have HZ2 := Lib.hid hz2
  obtain ⟨_, _, y2⟩ := cells3 hz1
  clear hf hok hgot hsome hin his hz1 hz2
  obtain ⟨pid, ⟨vp, vn, vc⟩, ⟨fp, fn, fc⟩⟩ := p
  simp only at *
  have t_constant := ta_constant_in
  have t_has := ta_has_in
  have t_is := ta_is_in
  have t_in := ta_in_in
  go_enter Tryz.func25, Tryz.ntmps25
  go_wp2_with fail
  refine HG.out.mono ?_
  clear HG
  rintro e w2 ⟨rfl, hb2⟩
  have HB2 := Lib.hid (HA2.out.trans (hb2.mono HA2.out.size))
  have HBX := Lib.hid (HB2.out.alloc HB2.out.size (.cells #[.int .i64 xk, .int .i64 xn, .string xt] 23))
  have z2 := (Rk.heap_old w2 (.cells #[.int .i64 xk, .int .i64 xn, .string xt] 23) (Nat.lt_of_lt_of_le (Rk.lt_of_block HZ2.out) hb2.size)).trans ((hb2.block _ (Rk.lt_of_block HZ2.out)).trans HZ2.out)
  obtain ⟨d0, d1, d2⟩ := cells3 z2
  obtain ⟨e0, e1, e2⟩ := cells3 (Rk.heap_last w2 (.cells #[.int .i64 xk, .int .i64 xn, .string xt] 23))
  clear hb2 z2
  cases hb
  · go_wp2_with fail
    go_ret
    exact ⟨rfl, HBX.out⟩
  · cases hx1 : (xk == 1)
    · go_wp2_with fail
      go_ret
      exact ⟨retb (by simp [hx1]), HBX.out⟩
    · cases hx2 : decide (lo ≤ xn)
      · go_wp2_with fail
        go_ret
        exact ⟨retb (by simp [hx1, hx2]), HBX.out⟩
      · go_wp2_with fail
        go_ret
        exact ⟨retb (by simp only [hx1, hx2, Bool.true_and]), HBX.out⟩
set_option maxHeartbeats 2000000 in
set_option maxRecDepth 100000 in
theorem ps_not (c : Cd) (ih : PassOk 8 c) (r : Rc) (F : List Fld) (p : Rp) (w : World) (h : CdW (fun _ => True) w c r) (hbig : Big c) (hf : FldsAt w (.slice p.f.p p.f.n p.f.c) F) (hok : FldsOk F) :
    Calls Tryz.prog 25 #[.iface 72 (cv r), pv p] w fun e w' => e = .returned (.bool (!pass F c)) ∧ Below w.heap.size w w' := by
  have HA := Lib.hid (Rk.fresh_alloc w (pbox p))
  have HA2 := Lib.hid (HA.out.alloc HA.out.size (.cells #[.int .i64 r.kind, .string r.name, .int .i64 r.val.kind, .int .i64 r.val.n, .string r.val.text, .int .i64 r.low, .int .i64 r.high, .slice r.l.p r.l.n r.l.c] 72))
  have HC := Lib.hid (ih F r p _ (h.below HA2.out) hbig (hf.below HA2.out) hok)
  have hz1 : ((w.alloc (pbox p)).alloc (.cells #[.int .i64 r.kind, .string r.name, .int .i64 r.val.kind, .int .i64 r.val.n, .string r.val.text, .int .i64 r.low, .int .i64 r.high, .slice r.l.p r.l.n r.l.c] 72)).heap[w.heap.size]? = some (pbox p) := by rw [Rk.heap_old _ _ (by simp), Rk.heap_last]
  obtain ⟨y0, y1, y2⟩ := cells3 hz1
  clear h ih hbig hf hok hz1
  obtain ⟨k0, k1, ⟨k2, k3, k4⟩, k5, k6, ⟨k7, k8, k9⟩⟩ := r
  obtain ⟨pid, ⟨vp, vn, vc⟩, ⟨fp, fn, fc⟩⟩ := p
  simp only at y0 y1 y2
  generalize pass F c = b at *
  have t_constant := ta_constant_not
  have t_has := ta_has_not
  have t_is := ta_is_not
  have t_in := ta_in_not
  have t_not := ta_not_not
  go_enter Tryz.func25, Tryz.ntmps25
  go_wp2_with fail
  refine HC.out.mono ?_
  clear HC
  rintro e w5 ⟨rfl, hb5⟩
  have HB5 := Lib.hid (HA2.out.trans (hb5.mono HA2.out.size))
  clear hb5
  go_wp2_with fail
  go_ret
  exact ⟨rfl, HB5.out⟩
set_option maxHeartbeats 2000000 in
set_option maxRecDepth 100000 in
theorem ps_and (c : Cd) (ih : ∀ x ∈ c.list, PassOk 8 x) (r : Rc) (F : List Fld) (p : Rp) (w : World) (h : CdW (fun _ => True) w c r) (hbig : Big c) (hf : FldsAt w (.slice p.f.p p.f.n p.f.c) F) (hok : FldsOk F) :
    Calls Tryz.prog 25 #[.iface 73 (.slice r.l.p r.l.n r.l.c), pv p] w fun e w' => e = .returned (.bool (passAll F c.list)) ∧ Below w.heap.size w w' := by
  have HA := Lib.hid (Rk.fresh_alloc w (pbox p))
  have HC := Lib.hid (contains_and c ih F r p w.heap.size (w.alloc (pbox p)) (h.below HA.out) hbig (hf.below HA.out) hok (Rk.heap_last w (pbox p)))
  clear h ih hbig hf hok
  obtain ⟨k0, k1, ⟨k2, k3, k4⟩, k5, k6, ⟨k7, k8, k9⟩⟩ := r
  obtain ⟨pid, ⟨vp, vn, vc⟩, ⟨fp, fn, fc⟩⟩ := p
  generalize passAll F c.list = b at *
  have t_constant := ta_constant_and
  have t_has := ta_has_and
  have t_is := ta_is_and
  have t_in := ta_in_and
  have t_not := ta_not_and
  have t_and := ta_and_and
  go_enter Tryz.func25, Tryz.ntmps25
  go_wp2_with fail
  refine HC.out.mono ?_
  clear HC
  rintro e w5 ⟨rfl, hb5⟩
  have HB5 := Lib.hid (HA.out.trans (hb5.mono HA.out.size))
  clear hb5
  go_wp2_with fail
  go_ret
  exact ⟨retb (by simp), HB5.out⟩
set_option maxHeartbeats 2000000 in
set_option maxRecDepth 100000 in
theorem ps_or (c : Cd) (ih : ∀ x ∈ c.list, PassOk 8 x) (r : Rc) (F : List Fld) (p : Rp) (w : World) (h : CdW (fun _ => True) w c r) (hbig : Big c) (hf : FldsAt w (.slice p.f.p p.f.n p.f.c) F) (hok : FldsOk F) :
    Calls Tryz.prog 25 #[.iface 76 (.slice r.l.p r.l.n r.l.c), pv p] w fun e w' => e = .returned (.bool (passAny F c.list)) ∧ Below w.heap.size w w' := by
  have HA := Lib.hid (Rk.fresh_alloc w (pbox p))
  have HC := Lib.hid (contains_or c ih F r p w.heap.size (w.alloc (pbox p)) (h.below HA.out) hbig (hf.below HA.out) hok (Rk.heap_last w (pbox p)))
  clear h ih hbig hf hok
  obtain ⟨k0, k1, ⟨k2, k3, k4⟩, k5, k6, ⟨k7, k8, k9⟩⟩ := r
  obtain ⟨pid, ⟨vp, vn, vc⟩, ⟨fp, fn, fc⟩⟩ := p
  generalize passAny F c.list = b at *
  have t_constant := ta_constant_or
  have t_has := ta_has_or
  have t_is := ta_is_or
  have t_in := ta_in_or
  have t_not := ta_not_or
  have t_and := ta_and_or
  have t_or := ta_or_or
  go_enter Tryz.func25, Tryz.ntmps25
  go_wp2_with fail
  refine HC.out.mono ?_
  clear HC
  rintro e w5 ⟨rfl, hb5⟩
  have HB5 := Lib.hid (HA.out.trans (hb5.mono HA.out.size))
  clear hb5
  go_wp2_with fail
  go_ret
  exact ⟨retb (by simp), HB5.out⟩
end Ft
end Go.Proofs.YtclmalaomofahaaGreatDoor
