/- Two conditions that are the same: the document's Same and the program's answer so. Conditions: those that each theorem names. -/
import Derived.Test.YtclmalaomofahaaGreatDoorFtC
import Derived.Test.YtclmalaomofahaaGreatDoorRun
import Derived.OrdersHeld
import Derived.Deep.RegionHeld
import Derived.Deep.RegionHeld3
import Derived.Deep.DeepCutAuto
import Derived.Deep.RegionLaw
namespace Go.Proofs.YtclmalaomofahaaGreatDoor
set_option linter.unusedVariables false
namespace Ft
open Go Go.RowKit Pq Pq.Pl Rk Px
theorem eqv_self (a : Val) : eqV a a = true := by unfold eqV eqT; simp
theorem eqV_run (k n : Int) (t : Nm) (w : World) : (binOp .eql 23 (.agg #[.int .i64 k, .int .i64 n, .string t]) (.agg #[.int .i64 k, .int .i64 n, .string t])).run Tryz.prog w = .ok (.bool true) w := by
  rw [eql_run, eqv_self]
theorem neqV_run (k n : Int) (t : Nm) (w : World) : (binOp .neq 23 (.agg #[.int .i64 k, .int .i64 n, .string t]) (.agg #[.int .i64 k, .int .i64 n, .string t])).run Tryz.prog w = .ok (.bool false) w := by
  rw [run_neq_struct, run_equalIn_agg _ _ _ _ _ (by kernel_rfl) (by kernel_rfl)]
  have c1 : Tryz.prog.cellsOf 3 = 1 := by kernel_rfl
  have c2 : Tryz.prog.cellsOf 9 = 1 := by kernel_rfl
  have q1 := fun (a b : Int) (w : World) => run_equalIn_int (P := Tryz.prog) w 9998 3 .i64 .i64 a b Tryz.underlying3
  have q2 := fun (a b : Nm) (w : World) => run_equalIn_string (P := Tryz.prog) w 9998 9 a b Tryz.underlying9
  simp only [Program.fieldsOf, Tryz.underlying23]
  simp [Op.eqFields, go_sem, q1, q2, Tryz.underlying3, Tryz.underlying9]
/-- Two conditions that are the same, wherever they lie. -/
def SameOk (f : Nat) (c : Cd) : Prop := ∀ (r r2 : Rc) (w : World), CdW (fun _ => True) w c r → CdW (fun _ => True) w c r2 → Big c →
  Calls Tryz.prog f #[cv r, cv r2] w fun e w' => e = .returned (.bool true) ∧ Below w.heap.size w w'
theorem same_all {f : Nat} (h : ∀ c, (∀ x ∈ c.list, SameOk f x) → SameOk f c) : ∀ c, SameOk f c := by
  suffices ∀ n (c : Cd), SizeOf.sizeOf c ≤ n → SameOk f c from fun c => this _ c (Nat.le_refl _)
  intro n
  induction n with
  | zero => intro c hc; cases c; simp at hc
  | succ n ih =>
    intro c hc
    refine h c fun x hx => ih x ?_
    obtain ⟨k, nm, v, lo, hi, l⟩ := c
    have := List.sizeOf_lt_of_mem hx
    simp only [Cd.list] at this
    simp at hc
    omega
/-- Two boxes, one behind the other. -/
theorem two_boxes (w : World) (a b : Rc) : Below w.heap.size w ((w.alloc (cobj a)).alloc (cobj b)) ∧ ((w.alloc (cobj a)).alloc (cobj b)).heap[w.heap.size]? = some (cobj a) ∧ ((w.alloc (cobj a)).alloc (cobj b)).heap[w.heap.size + 1]? = some (cobj b) := by
  have s1 : (w.alloc (cobj a)).heap.size = w.heap.size + 1 := by simp
  exact ⟨((Below.refl _ w).alloc (Nat.le_refl _) _).alloc (by simp) _, by rw [Rk.heap_old _ _ (by omega), Rk.heap_last], by rw [← s1, Rk.heap_last]⟩
set_option maxHeartbeats 2000000 in
set_option maxRecDepth 100000 in
theorem rsame_step (c : Cd) (ih : ∀ x ∈ c.list, SameOk 14 x) : SameOk 14 c := by
  intro r r2 w h h2 hbig
  have HL := Lib.hid h.len
  have HL2 := Lib.hid h2.len
  have HK := Lib.hid h.kid
  have HK2 := Lib.hid h2.kid
  have HI := Lib.hid ih
  have HB := Lib.hid hbig.parts
  have HT := Lib.hid (two_boxes w r r2)
  obtain ⟨p1, p2, p3, p4, p5, _⟩ := h.parts
  obtain ⟨q1, q2, q3, q4, q5, _⟩ := h2.parts
  rw [← p1] at q1
  rw [← p2] at q2
  rw [← p3] at q3
  rw [← p4] at q4
  rw [← p5] at q5
  have hln := HL.out
  have hln2 := HL2.out
  clear h h2 ih hbig p1 p2 p3 p4 p5
  obtain ⟨rk, rn, ⟨vk, vn, vt⟩, rlo, rhi, ⟨rp, rl, rcap⟩⟩ := r
  obtain ⟨sk, sn, sv, slo, shi, ⟨sp, sl, scap⟩⟩ := r2
  simp only at hln hln2 q1 q2 q3 q4 q5
  subst hln hln2 q1 q2 q3 q4 q5
  have hv := neqV_run vk vn vt
  have g1 : (sk != sk) = false := by simp
  have g4 : (slo != slo) = false := by simp
  have g5 : (shi != shi) = false := by simp
  have g2 : (sn.toList == sn.toList) = true := by simp
  have g6 : ((c.list.length : Int) != (c.list.length : Int)) = false := by simp
  obtain ⟨w1, hw1⟩ : ∃ w1, w1 = (w.alloc (cobj ⟨sk, sn, ⟨vk, vn, vt⟩, slo, shi, ⟨rp, c.list.length, rcap⟩⟩)).alloc (cobj ⟨sk, sn, ⟨vk, vn, vt⟩, slo, shi, ⟨sp, c.list.length, scap⟩⟩) := ⟨_, rfl⟩
  rw [← hw1] at HT
  go_enter Tryz.func14, Tryz.ntmps14
  go_wp2_with fail
  rw [← hw1]
  clear hw1
  go_loopw [5] (fun kk wr => ∃ q : Nat, q ≤ c.list.length ∧ kk = .int .i64 q ∧ Below w1.heap.size w1 wr) (fun kk _ => c.list.length - (intOf kk).toNat)
  case atStart => exact ⟨0, Nat.zero_le _, rfl, Below.refl _ _⟩
  case round =>
    obtain ⟨q, hq, rfl, hb⟩ := hrel
    have HBW := Lib.hid hb
    clear hb
    obtain ⟨wo, rfl⟩ : ∃ wo : World, wo = wr := ⟨_, rfl⟩
    obtain ⟨_, _, _, _, _, _, _, a7⟩ := cells8 ((HBW.out.block _ (Rk.lt_of_block HT.out.2.1)).trans HT.out.2.1)
    obtain ⟨_, _, _, _, _, _, _, b7⟩ := cells8 ((HBW.out.block _ (Rk.lt_of_block HT.out.2.2)).trans HT.out.2.2)
    simp only at a7 b7
    by_cases hlt : q < c.list.length
    · obtain ⟨g, off, cp, er, hg, r', hw', hc⟩ := HK.out q hlt
      simp only [Sl.mk.injEq] at er
      obtain ⟨rfl, _, rfl⟩ := er
      obtain ⟨g2, off2, cp2, er, hg2, r2', hw2', hc2⟩ := HK2.out q hlt
      simp only [Sl.mk.injEq] at er
      obtain ⟨rfl, _, rfl⟩ := er
      have HBX := Lib.hid (HT.out.1.trans (HBW.out.mono HT.out.1.size))
      obtain ⟨x0, x1, x2, x3, x4, x5, x6, x7⟩ := hc wo (HBX.out.block g hg)
      obtain ⟨y0, y1, y2, y3, y4, y5, y6, y7⟩ := hc2 wo (HBX.out.block g2 hg2)
      have HC := Lib.hid (HI.out _ (List.getElem_mem hlt) r' r2' wo.drew (hw'.below HBX.out.drew) (hw2'.below HBX.out.drew) (HB.out.2.2.2 _ (List.getElem_mem hlt)))
      have hqn : (q : Int) < (c.list.length : Int) := by omega
      obtain ⟨k0, k1, ⟨k2, k3, k4⟩, k5, k6, ⟨k7, k8, k9⟩⟩ := r'
      obtain ⟨l0, l1, ⟨l2, l3, l4⟩, l5, l6, ⟨l7, l8, l9⟩⟩ := r2'
      simp only at x0 x1 x2 x3 x4 x5 x6 x7 y0 y1 y2 y3 y4 y5 y6 y7
      clear hc hc2 hw' hw2' hg hg2
      go_upto_region 6 with fail
      go_cut [66] (fun b wx => b = .bool false ∧ Below w1.heap.size w1 wx)
      case first =>
        go_region_with (go_at_call 14; refine HC.out.mono ?_; rintro e w5 ⟨rfl, hb5⟩)
        all_goals go_wp2_with fail
        all_goals go_meet
        all_goals exact ⟨rfl, HBW.out.drew.trans (hb5.mono HBW.out.size)⟩
      case rest =>
        obtain ⟨rfl, hb6⟩ := hcut
        have HB6 := Lib.hid hb6
        clear hb6 HC
        go_wp2_with fail
        go_roundw
        case rel => exact ⟨q + 1, hlt, congrArg _ (wrap_q HB.out.2.2.1 hlt), HB6.out⟩
        case measure =>
          rw [wrap_q HB.out.2.2.1 hlt]
          exact less_q hlt
    · obtain rfl : q = c.list.length := by omega
      go_wp2_with fail
      go_ret
      exact ⟨rfl, HT.out.1.trans (HBW.out.mono HT.out.1.size)⟩
theorem rsame_any : ∀ c, SameOk 14 c := same_all rsame_step
end Ft
end Go.Proofs.YtclmalaomofahaaGreatDoor
