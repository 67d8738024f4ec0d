/- The program's Size and Depth of a condition, and the document's. Conditions: those that each theorem names. -/
import Derived.Test.YtclmalaomofahaaGreatDoorFtA
namespace Go.Proofs.YtclmalaomofahaaGreatDoor
set_option linter.unusedVariables false
namespace Ft
open Go Go.RowKit Pq Pq.Pl Rk Px
theorem sizeL_snoc : ∀ (l : List Cd) (a : Int) (q : Nat) (h : q < l.length), sizeL a (l.take (q + 1)) = wrap64 (sizeL a (l.take q) + sizeC l[q])
  | c :: l, a, 0, _ => by simp [sizeL]
  | c :: l, a, q + 1, h => by
    simp only [List.take_succ_cons, sizeL, List.getElem_cons_succ]
    exact sizeL_snoc l _ q (by simpa using h)
theorem depthL_snoc : ∀ (l : List Cd) (a : Int) (q : Nat) (h : q < l.length), depthL a (l.take (q + 1)) = max (depthL a (l.take q)) (depthC l[q])
  | c :: l, a, 0, _ => by simp [depthL]
  | c :: l, a, q + 1, h => by
    simp only [List.take_succ_cons, depthL, List.getElem_cons_succ]
    exact depthL_snoc l _ q (by simpa using h)
theorem sizeC_is (c : Cd) : sizeC c = sizeL 1 c.list := by cases c; simp [sizeC, Cd.list]
theorem depthC_is (c : Cd) : depthC c = wrap64 (depthL 0 c.list + 1) := by cases c; simp [depthC, Cd.list]
/-- What a call tells of a condition, wherever that lies. -/
def Tells (f : Nat) (g : Cd → Value) (c : Cd) : Prop := ∀ (r : Rc) (w : World), CdW (fun _ => True) w c r → Big c →
  Calls Tryz.prog f #[cv r] w fun e w' => e = .returned (g c) ∧ Below w.heap.size w w'
set_option maxHeartbeats 1000000 in
set_option maxRecDepth 100000 in
theorem size_step (c : Cd) (ih : ∀ x ∈ c.list, Tells 10 (fun c => .int .i64 (sizeC c)) x) : Tells 10 (fun c => .int .i64 (sizeC c)) c := by
  intro r w h hbig
  have HL := Lib.hid h.len
  have HK := Lib.hid h.kid
  have HI := Lib.hid ih
  have HB := Lib.hid hbig.parts
  have HR := Lib.hid (sizeC_is c)
  have HS := Lib.hid (sizeL_snoc c.list 1)
  have HA := Lib.hid (Rk.fresh_alloc w (cobj r))
  show Calls Tryz.prog _ _ w fun e w' => e = .returned (.int .i64 (sizeC c)) ∧ _
  rw [HR.out]
  clear h ih hbig
  have hln := HL.out
  obtain ⟨rk, rn, rv, rlo, rhi, ⟨rp, rl, rcap⟩⟩ := r
  simp only at hln
  subst hln
  go_enter Tryz.func10, Tryz.ntmps10
  go_wp2_with fail
  go_loopw [3, 5, 9] (fun n pv kk wr => ∃ q : Nat, q ≤ c.list.length ∧ kk = .int .i64 q ∧ n = .int .i64 (sizeL 1 (c.list.take q)) ∧ Below w.heap.size w wr) (fun _ _ kk _ => c.list.length - (intOf kk).toNat)
  case atStart => exact ⟨0, Nat.zero_le _, rfl, by simp [sizeL], HA.out⟩
  case round =>
    obtain ⟨q, hq, rfl, rfl, hb⟩ := hrel
    have HBW := Lib.hid hb
    clear hb
    obtain ⟨wo, rfl⟩ : ∃ wo : World, wo = wr := ⟨_, rfl⟩
    by_cases hlt : q < c.list.length
    · obtain ⟨g, off, cp, er, hg, r', hw', hc⟩ := HK.out q hlt
      simp only [Sl.mk.injEq] at er
      obtain ⟨rfl, _, rfl⟩ := er
      obtain ⟨x0, x1, x2, x3, x4, x5, x6, x7⟩ := hc wo (HBW.out.block g hg)
      have HW := Lib.hid (HBW.out.alloc HBW.out.size (cobj r'))
      have HC := Lib.hid (HI.out _ (List.getElem_mem hlt) r' (wo.alloc (cobj r')) (hw'.below HW.out) (HB.out.2.2.2 _ (List.getElem_mem hlt)))
      have HS1 := Lib.hid (HS.out q hlt)
      have hqn : (q : Int) < (c.list.length : Int) := by omega
      obtain ⟨k0, k1, k2, k3, k4, ⟨k5, k6, k7⟩⟩ := r'
      simp only at x0 x1 x2 x3 x4 x5 x6 x7
      clear hc hw' hg
      go_wp2_with fail
      refine HC.out.mono ?_
      rintro e w5 ⟨rfl, hb5⟩
      have HB5 := Lib.hid (HW.out.trans (hb5.mono HW.out.size))
      clear hb5
      go_wp2_with fail
      go_roundw
      case rel => exact ⟨q + 1, hlt, congrArg _ (wrap_q HB.out.2.2.1 hlt), by rw [HS1.out], HB5.out⟩
      case measure =>
        rw [wrap_q HB.out.2.2.1 hlt]
        exact less_q hlt
    · obtain rfl : q = c.list.length := by omega
      go_wp2_with fail
      go_ret
      exact ⟨by rw [List.take_length]; rfl, HBW.out⟩
set_option maxHeartbeats 1000000 in
set_option maxRecDepth 100000 in
theorem depth_step (c : Cd) (ih : ∀ x ∈ c.list, Tells 12 (fun c => .int .i64 (depthC c)) x) : Tells 12 (fun c => .int .i64 (depthC c)) c := by
  intro r w h hbig
  have HL := Lib.hid h.len
  have HK := Lib.hid h.kid
  have HI := Lib.hid ih
  have HB := Lib.hid hbig.parts
  have HR := Lib.hid (depthC_is c)
  have HS := Lib.hid (depthL_snoc c.list 0)
  have HA := Lib.hid (Rk.fresh_alloc w (cobj r))
  show Calls Tryz.prog _ _ w fun e w' => e = .returned (.int .i64 (depthC c)) ∧ _
  rw [HR.out]
  clear h ih hbig
  have hln := HL.out
  obtain ⟨rk, rn, rv, rlo, rhi, ⟨rp, rl, rcap⟩⟩ := r
  simp only at hln
  subst hln
  go_enter Tryz.func12, Tryz.ntmps12
  go_wp2_with fail
  go_loopw [3, 5, 9] (fun n pv kk wr => ∃ q : Nat, q ≤ c.list.length ∧ kk = .int .i64 q ∧ n = .int .i64 (depthL 0 (c.list.take q)) ∧ Below w.heap.size w wr) (fun _ _ kk _ => c.list.length - (intOf kk).toNat)
  case atStart => exact ⟨0, Nat.zero_le _, rfl, by simp [depthL], HA.out⟩
  case round =>
    obtain ⟨q, hq, rfl, rfl, hb⟩ := hrel
    have HBW := Lib.hid hb
    clear hb
    obtain ⟨wo, rfl⟩ : ∃ wo : World, wo = wr := ⟨_, rfl⟩
    by_cases hlt : q < c.list.length
    · obtain ⟨g, off, cp, er, hg, r', hw', hc⟩ := HK.out q hlt
      simp only [Sl.mk.injEq] at er
      obtain ⟨rfl, _, rfl⟩ := er
      obtain ⟨x0, x1, x2, x3, x4, x5, x6, x7⟩ := hc wo (HBW.out.block g hg)
      have HW := Lib.hid (HBW.out.alloc HBW.out.size (cobj r'))
      have HC := Lib.hid (HI.out _ (List.getElem_mem hlt) r' (wo.alloc (cobj r')) (hw'.below HW.out) (HB.out.2.2.2 _ (List.getElem_mem hlt)))
      have HS1 := Lib.hid (HS.out q hlt)
      have hqn : (q : Int) < (c.list.length : Int) := by omega
      obtain ⟨k0, k1, k2, k3, k4, ⟨k5, k6, k7⟩⟩ := r'
      simp only at x0 x1 x2 x3 x4 x5 x6 x7
      clear hc hw' hg
      go_wp2_with fail
      refine HC.out.mono ?_
      rintro e w5 ⟨rfl, hb5⟩
      have HB5 := Lib.hid (HW.out.trans (hb5.mono HW.out.size))
      clear hb5
      go_wp2_with fail
      go_roundw
      case rel => exact ⟨q + 1, hlt, congrArg _ (wrap_q HB.out.2.2.1 hlt), by rw [HS1.out], HB5.out⟩
      case measure =>
        rw [wrap_q HB.out.2.2.1 hlt]
        exact less_q hlt
    · obtain rfl : q = c.list.length := by omega
      go_wp2_with fail
      go_ret
      exact ⟨by rw [List.take_length]; rfl, HBW.out⟩
set_option maxHeartbeats 1000000 in
set_option maxRecDepth 100000 in
theorem rsize_step (c : Cd) (ih : ∀ x ∈ c.list, Tells 11 (fun c => .int .i64 (sizeC c)) x) : Tells 11 (fun c => .int .i64 (sizeC c)) c := by
  intro r w h hbig
  have HL := Lib.hid h.len
  have HK := Lib.hid h.kid
  have HI := Lib.hid ih
  have HB := Lib.hid hbig.parts
  have HR := Lib.hid (sizeC_is c)
  have HS := Lib.hid (sizeL_snoc c.list 1)
  show Calls Tryz.prog _ _ w fun e w' => e = .returned (.int .i64 (sizeC c)) ∧ _
  rw [HR.out]
  clear h ih hbig
  have hln := HL.out
  obtain ⟨rk, rn, rv, rlo, rhi, ⟨rp, rl, rcap⟩⟩ := r
  simp only at hln
  subst hln
  have HZ := Lib.hid (Pq.heap_last w (cobj ⟨rk, rn, rv, rlo, rhi, ⟨rp, c.list.length, rcap⟩⟩))
  have HA := Lib.hid (Rk.fresh_alloc w (cobj ⟨rk, rn, rv, rlo, rhi, ⟨rp, c.list.length, rcap⟩⟩))
  have HSZ : Hid (w.heap.size < (w.alloc (cobj ⟨rk, rn, rv, rlo, rhi, ⟨rp, c.list.length, rcap⟩⟩)).heap.size) := Lib.hid (by simp)
  go_enter Tryz.func11, Tryz.ntmps11
  go_wp2_with fail
  go_loopw [3, 4] (fun n kk wr => ∃ q : Nat, q ≤ c.list.length ∧ kk = .int .i64 q ∧ n = .int .i64 (sizeL 1 (c.list.take q)) ∧ Hid (Below (w.alloc (cobj ⟨rk, rn, rv, rlo, rhi, ⟨rp, c.list.length, rcap⟩⟩)).heap.size (w.alloc (cobj ⟨rk, rn, rv, rlo, rhi, ⟨rp, c.list.length, rcap⟩⟩)) wr)) (fun _ kk _ => c.list.length - (intOf kk).toNat)
  case atStart => exact ⟨0, Nat.zero_le _, rfl, by simp [sizeL], Lib.hid (Below.refl _ _)⟩
  case round =>
    obtain ⟨q, hq, rfl, rfl, hb⟩ := hrel
    have HBA := Lib.hid hb.out
    have HBW := Lib.hid (HA.out.trans (hb.out.mono HA.out.size))
    have hz := (HBA.out.block _ HSZ.out).trans HZ.out
    have e7 := Lib.cell_of_heap (j := 7) hz
    simp at e7
    clear hb hz
    obtain ⟨wo, rfl⟩ : ∃ wo : World, wo = wr := ⟨_, rfl⟩
    by_cases hlt : q < c.list.length
    · obtain ⟨g, off, cp, er, hg, r', hw', hc⟩ := HK.out q hlt
      simp only [Sl.mk.injEq] at er
      obtain ⟨rfl, _, rfl⟩ := er
      obtain ⟨x0, x1, x2, x3, x4, x5, x6, x7⟩ := hc wo (HBW.out.block g hg)
      have HC := Lib.hid (HI.out _ (List.getElem_mem hlt) r' wo (hw'.below HBW.out) (HB.out.2.2.2 _ (List.getElem_mem hlt)))
      have HS1 := Lib.hid (HS.out q hlt)
      have hqn : (q : Int) < (c.list.length : Int) := by omega
      obtain ⟨k0, k1, k2, k3, k4, ⟨k5, k6, k7⟩⟩ := r'
      simp only at x0 x1 x2 x3 x4 x5 x6 x7
      clear hc hw' hg
      go_wp2_with fail
      refine HC.out.mono ?_
      rintro e w5 ⟨rfl, hb5⟩
      have HB5 := Lib.hid (HBA.out.trans (hb5.mono HBA.out.size))
      clear hb5
      go_wp2_with fail
      go_roundw
      case rel => exact ⟨q + 1, hlt, congrArg _ (wrap_q HB.out.2.2.1 hlt), by rw [HS1.out], HB5.out⟩
      case measure =>
        rw [wrap_q HB.out.2.2.1 hlt]
        exact less_q hlt
    · obtain rfl : q = c.list.length := by omega
      go_wp2_with fail
      go_ret
      exact ⟨by rw [List.take_length]; rfl, HBW.out⟩
set_option maxHeartbeats 1000000 in
set_option maxRecDepth 100000 in
theorem rdepth_step (c : Cd) (ih : ∀ x ∈ c.list, Tells 13 (fun c => .int .i64 (depthC c)) x) : Tells 13 (fun c => .int .i64 (depthC c)) c := by
  intro r w h hbig
  have HL := Lib.hid h.len
  have HK := Lib.hid h.kid
  have HI := Lib.hid ih
  have HB := Lib.hid hbig.parts
  have HR := Lib.hid (depthC_is c)
  have HS := Lib.hid (depthL_snoc c.list 0)
  show Calls Tryz.prog _ _ w fun e w' => e = .returned (.int .i64 (depthC c)) ∧ _
  rw [HR.out]
  clear h ih hbig
  have hln := HL.out
  obtain ⟨rk, rn, rv, rlo, rhi, ⟨rp, rl, rcap⟩⟩ := r
  simp only at hln
  subst hln
  have HZ := Lib.hid (Pq.heap_last w (cobj ⟨rk, rn, rv, rlo, rhi, ⟨rp, c.list.length, rcap⟩⟩))
  have HA := Lib.hid (Rk.fresh_alloc w (cobj ⟨rk, rn, rv, rlo, rhi, ⟨rp, c.list.length, rcap⟩⟩))
  have HSZ : Hid (w.heap.size < (w.alloc (cobj ⟨rk, rn, rv, rlo, rhi, ⟨rp, c.list.length, rcap⟩⟩)).heap.size) := Lib.hid (by simp)
  go_enter Tryz.func13, Tryz.ntmps13
  go_wp2_with fail
  go_loopw [3, 4] (fun n kk wr => ∃ q : Nat, q ≤ c.list.length ∧ kk = .int .i64 q ∧ n = .int .i64 (depthL 0 (c.list.take q)) ∧ Hid (Below (w.alloc (cobj ⟨rk, rn, rv, rlo, rhi, ⟨rp, c.list.length, rcap⟩⟩)).heap.size (w.alloc (cobj ⟨rk, rn, rv, rlo, rhi, ⟨rp, c.list.length, rcap⟩⟩)) wr)) (fun _ kk _ => c.list.length - (intOf kk).toNat)
  case atStart => exact ⟨0, Nat.zero_le _, rfl, by simp [depthL], Lib.hid (Below.refl _ _)⟩
  case round =>
    obtain ⟨q, hq, rfl, rfl, hb⟩ := hrel
    have HBA := Lib.hid hb.out
    have HBW := Lib.hid (HA.out.trans (hb.out.mono HA.out.size))
    have hz := (HBA.out.block _ HSZ.out).trans HZ.out
    have e7 := Lib.cell_of_heap (j := 7) hz
    simp at e7
    clear hb hz
    obtain ⟨wo, rfl⟩ : ∃ wo : World, wo = wr := ⟨_, rfl⟩
    by_cases hlt : q < c.list.length
    · obtain ⟨g, off, cp, er, hg, r', hw', hc⟩ := HK.out q hlt
      simp only [Sl.mk.injEq] at er
      obtain ⟨rfl, _, rfl⟩ := er
      obtain ⟨x0, x1, x2, x3, x4, x5, x6, x7⟩ := hc wo (HBW.out.block g hg)
      have HC := Lib.hid (HI.out _ (List.getElem_mem hlt) r' wo (hw'.below HBW.out) (HB.out.2.2.2 _ (List.getElem_mem hlt)))
      have HS1 := Lib.hid (HS.out q hlt)
      have hqn : (q : Int) < (c.list.length : Int) := by omega
      obtain ⟨k0, k1, k2, k3, k4, ⟨k5, k6, k7⟩⟩ := r'
      simp only at x0 x1 x2 x3 x4 x5 x6 x7
      clear hc hw' hg
      go_wp2_with fail
      refine HC.out.mono ?_
      rintro e w5 ⟨rfl, hb5⟩
      have HB5 := Lib.hid (HBA.out.trans (hb5.mono HBA.out.size))
      clear hb5
      go_wp2_with fail
      go_roundw
      case rel => exact ⟨q + 1, hlt, congrArg _ (wrap_q HB.out.2.2.1 hlt), by rw [HS1.out], HB5.out⟩
      case measure =>
        rw [wrap_q HB.out.2.2.1 hlt]
        exact less_q hlt
    · obtain rfl : q = c.list.length := by omega
      go_wp2_with fail
      go_ret
      exact ⟨by rw [List.take_length]; rfl, HBW.out⟩
/-! ### Whole -/
theorem tells_all {f : Nat} {g : Cd → Value} (h : ∀ c, (∀ x ∈ c.list, Tells f g x) → Tells f g c) : ∀ c, Tells f g c := by
  suffices ∀ n (c : Cd), SizeOf.sizeOf c ≤ n → Tells f g c from fun c => this _ c (Nat.le_refl _)
  intro n
  induction n with
  | zero => intro c hc; cases c; simp at hc
  | succ n ih =>
    intro c hc
    refine h c fun x hx => ih x ?_
    obtain ⟨k, nm, v, lo, hi, l⟩ := c
    have := List.sizeOf_lt_of_mem hx
    simp only [Cd.list] at this
    simp at hc
    omega
theorem size_any (c : Cd) : Tells 10 (fun c => .int .i64 (sizeC c)) c := tells_all size_step c
theorem depth_any (c : Cd) : Tells 12 (fun c => .int .i64 (depthC c)) c := tells_all depth_step c
theorem rsize_any (c : Cd) : Tells 11 (fun c => .int .i64 (sizeC c)) c := tells_all rsize_step c
theorem rdepth_any (c : Cd) : Tells 13 (fun c => .int .i64 (depthC c)) c := tells_all rdepth_step c
end Ft
end Go.Proofs.YtclmalaomofahaaGreatDoor
