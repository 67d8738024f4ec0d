/- The program's Same of two conditions that are the same. Conditions: those that each theorem names. -/
import Derived.Test.YtclmalaomofahaaGreatDoorFtE
namespace Go.Proofs.YtclmalaomofahaaGreatDoor
set_option linter.unusedVariables false
namespace Ft
open Go Go.RowKit Pq Pq.Pl Rk Px
set_option maxHeartbeats 1000000 in
set_option maxRecDepth 100000 in
theorem alike_yes (k : Int) (nm : Nm) (v : Val) (lo hi : Int) (p p2 : Option Addr) (n cc cc2 : Nat) (w : World) :
    Calls Tryz.prog 44 #[cv ⟨k, nm, v, lo, hi, ⟨p, n, cc⟩⟩, cv ⟨k, nm, v, lo, hi, ⟨p2, n, cc2⟩⟩] w fun e w' => e = .returned (.bool true) ∧ Below w.heap.size w w' := by
  have HT := Lib.hid (two_boxes w ⟨k, nm, v, lo, hi, ⟨p, n, cc⟩⟩ ⟨k, nm, v, lo, hi, ⟨p2, n, cc2⟩⟩)
  obtain ⟨vk, vn, vt⟩ := v
  have hv := eqV_run vk vn vt
  have g1 : (k == k) = true := by simp
  have g4 : (lo == lo) = true := by simp
  have g5 : (hi == hi) = true := by simp
  have g2 : (nm.toList == nm.toList) = true := by simp
  have g6 : ((n : Int) == (n : Int)) = true := by simp
  go_enter Tryz.func44, Tryz.ntmps44
  go_wp2_with fail
  go_ret
  exact ⟨rfl, HT.out.1⟩
set_option maxHeartbeats 2000000 in
set_option maxRecDepth 100000 in
theorem eqfunc_any (c : Cd) (ih : ∀ x ∈ c.list, SameOk 31 x) (r r2 : Rc) (w : World) (h : CdW (fun _ => True) w c r) (h2 : CdW (fun _ => True) w c r2) (hbig : Big c) :
    Calls Tryz.prog 45 #[.slice r.l.p r.l.n r.l.c, .slice r2.l.p r2.l.n r2.l.c, .func (.func 31) #[] #[]] w fun e w' => e = .returned (.bool true) ∧ Below w.heap.size w w' := by
  have HL := Lib.hid h.len
  have HL2 := Lib.hid h2.len
  have HK := Lib.hid h.kid
  have HK2 := Lib.hid h2.kid
  have HI := Lib.hid ih
  have HB := Lib.hid hbig.parts
  have hln := HL.out
  have hln2 := HL2.out
  clear h h2 ih hbig
  obtain ⟨rk, rn, ⟨vk, vn, vt⟩, rlo, rhi, ⟨rp, rl, rcap⟩⟩ := r
  obtain ⟨sk, sn, sv, slo, shi, ⟨sp, sl, scap⟩⟩ := r2
  simp only at hln hln2
  subst hln hln2
  have hne : ((c.list.length : Int) != (c.list.length : Int)) = false := by simp
  go_enter Tryz.func45, Tryz.ntmps45
  go_wp2_with fail
  go_loopw [7, 8, 9, 17] (fun i a b kk wr => ∃ q : Nat, q ≤ c.list.length ∧ kk = .int .i64 q ∧ Below w.heap.size w wr) (fun _ _ _ kk _ => c.list.length - (intOf kk).toNat)
  case atStart => exact ⟨0, Nat.zero_le _, rfl, Below.refl _ _⟩
  case round =>
    obtain ⟨q, hq, rfl, hb⟩ := hrel
    have HBW := Lib.hid hb
    clear hb
    obtain ⟨wo, rfl⟩ : ∃ wo : World, wo = wr := ⟨_, rfl⟩
    by_cases hlt : q < c.list.length
    · obtain ⟨g, off, cp, er, hg, r', hw', hc⟩ := HK.out q hlt
      simp only [Sl.mk.injEq] at er
      obtain ⟨rfl, _, rfl⟩ := er
      obtain ⟨g2, off2, cp2, er, hg2, r2', hw2', hc2⟩ := HK2.out q hlt
      simp only [Sl.mk.injEq] at er
      obtain ⟨rfl, _, rfl⟩ := er
      have HW1 := Lib.hid (HBW.out.alloc HBW.out.size (cobj r'))
      have HW2 := Lib.hid (HW1.out.alloc HW1.out.size (cobj r2'))
      obtain ⟨x0, x1, x2, x3, x4, x5, x6, x7⟩ := hc wo (HBW.out.block g hg)
      obtain ⟨y0, y1, y2, y3, y4, y5, y6, y7⟩ := hc2 (wo.alloc (cobj r')) (HW1.out.block g2 hg2)
      have HC := Lib.hid (HI.out _ (List.getElem_mem hlt) r' r2' _ (hw'.below HW2.out) (hw2'.below HW2.out) (HB.out.2.2.2 _ (List.getElem_mem hlt)))
      have hqn : (q : Int) < (c.list.length : Int) := by omega
      obtain ⟨k0, k1, ⟨k2, k3, k4⟩, k5, k6, ⟨k7, k8, k9⟩⟩ := r'
      obtain ⟨l0, l1, ⟨l2, l3, l4⟩, l5, l6, ⟨l7, l8, l9⟩⟩ := r2'
      simp only at x0 x1 x2 x3 x4 x5 x6 x7 y0 y1 y2 y3 y4 y5 y6 y7
      clear hc hc2 hw' hw2' hg hg2
      go_wp2_with fail
      refine HC.out.mono ?_
      clear HC
      rintro e w5 ⟨rfl, hb5⟩
      have HB5 := Lib.hid (HW2.out.trans (hb5.mono HW2.out.size))
      clear hb5
      go_wp2_with fail
      go_roundw
      case rel => exact ⟨q + 1, hlt, congrArg _ (wrap_q HB.out.2.2.1 hlt), HB5.out⟩
      case measure =>
        rw [wrap_q HB.out.2.2.1 hlt]
        exact less_q hlt
    · obtain rfl : q = c.list.length := by omega
      go_wp2_with fail
      go_ret
      exact ⟨rfl, HBW.out⟩
set_option maxHeartbeats 2000000 in
set_option maxRecDepth 100000 in
theorem same_step (c : Cd) (ih : ∀ x ∈ c.list, SameOk 31 x) : SameOk 31 c := by
  intro r r2 w h h2 hbig
  have hln := h.len
  have hln2 := h2.len
  have HT := Lib.hid (two_boxes w r r2)
  have HE := Lib.hid (fun W (hW : Below w.heap.size w W) => eqfunc_any c ih r r2 W (h.below hW) (h2.below hW) hbig)
  obtain ⟨p1, p2, p3, p4, p5, _⟩ := h.parts
  obtain ⟨q1, q2, q3, q4, q5, _⟩ := h2.parts
  rw [← p1] at q1
  rw [← p2] at q2
  rw [← p3] at q3
  rw [← p4] at q4
  rw [← p5] at q5
  clear h h2 ih hbig p1 p2 p3 p4 p5
  obtain ⟨rk, rn, rv, rlo, rhi, ⟨rp, rl, rcap⟩⟩ := r
  obtain ⟨sk, sn, sv, slo, shi, ⟨sp, sl, scap⟩⟩ := r2
  simp only at hln hln2 q1 q2 q3 q4 q5
  subst hln hln2 q1 q2 q3 q4 q5
  have HA := Lib.hid (alike_yes sk sn sv slo shi rp sp c.list.length rcap scap)
  obtain ⟨vk, vn, vt⟩ := sv
  obtain ⟨w1, hw1⟩ : ∃ w1, w1 = (w.alloc (cobj ⟨sk, sn, ⟨vk, vn, vt⟩, slo, shi, ⟨rp, c.list.length, rcap⟩⟩)).alloc (cobj ⟨sk, sn, ⟨vk, vn, vt⟩, slo, shi, ⟨sp, c.list.length, scap⟩⟩) := ⟨_, rfl⟩
  rw [← hw1] at HT
  obtain ⟨a0, a1, a2, a3, a4, a5, a6, a7⟩ := cells8 HT.out.2.1
  obtain ⟨b0, b1, b2, b3, b4, b5, b6, b7⟩ := cells8 HT.out.2.2
  simp only at a0 a1 a2 a3 a4 a5 a6 a7 b0 b1 b2 b3 b4 b5 b6 b7
  go_enter Tryz.func31, Tryz.ntmps31
  go_wp2_with fail
  rw [← hw1]
  clear hw1
  refine (HA.out w1).mono ?_
  clear HA
  rintro e w5 ⟨rfl, hb5⟩
  have HB5 := Lib.hid (HT.out.1.trans (hb5.mono HT.out.1.size))
  have a7' : w5.cell? ⟨w.heap.size, 7, none⟩ = some (.slice rp c.list.length rcap) := by rw [← a7]; exact World.cell?_of_block (hb5.block _ (Rk.lt_of_block HT.out.2.1))
  have b7' : w5.cell? ⟨w.heap.size + 1, 7, none⟩ = some (.slice sp c.list.length scap) := by rw [← b7]; exact World.cell?_of_block (hb5.block _ (Rk.lt_of_block HT.out.2.2))
  clear hb5 a0 a1 a2 a3 a4 a5 a6 a7 b0 b1 b2 b3 b4 b5 b6 b7
  go_wp2_with fail
  refine (HE.out w5 HB5.out).mono ?_
  clear HE
  rintro e w6 ⟨rfl, hb6⟩
  have HB6 := Lib.hid (HB5.out.trans (hb6.mono HB5.out.size))
  clear hb6
  go_wp2_with fail
  go_ret
  exact ⟨rfl, HB6.out⟩
theorem same_any : ∀ c, SameOk 31 c := same_all same_step
end Ft
end Go.Proofs.YtclmalaomofahaaGreatDoor
