/- The law's Twin, whole. Conditions: those that each theorem names. -/
import Derived.Test.YtclmalaomofahaaGreatDoorFtC
import Derived.Test.YtclmalaomofahaaGreatDoorRun
import Derived.OrdersHeld
import Derived.Deep.RegionHeld
namespace Go.Proofs.YtclmalaomofahaaGreatDoor
set_option linter.unusedVariables false
namespace Ft
open Go Go.RowKit Pq Pq.Pl Rk Px
theorem TwI.start (w : World) (r : Rc) (l : List Cd) : TwI w r l 0 (.slice none 0 0) [] (((w.alloc (cobj r)).alloc zC).alloc (kobj r (.slice none 0 0))) := by
  have b1 := Rk.fresh_alloc w (cobj r)
  have s1 : (w.alloc (cobj r)).heap.size = w.heap.size + 1 := by simp
  have b2 := b1.alloc b1.size zC
  have s2 : ((w.alloc (cobj r)).alloc zC).heap.size = w.heap.size + 1 + 1 := by simp
  have b3 := b2.alloc b2.size (kobj r (.slice none 0 0))
  refine ⟨b3, ?_, ?_, ?_, World.ownsRow_nil _ _ _ _, by simp [KidsW], rfl⟩
  · rw [Rk.heap_old _ _ (by omega), Rk.heap_old _ _ (by omega), Rk.heap_last]
  · rw [Rk.heap_old _ _ (by omega), ← s1, Rk.heap_last]
  · rw [← s2, Rk.heap_last]
set_option maxHeartbeats 4000000 in
set_option maxRecDepth 100000 in
theorem twin_step (c : Cd) (ih : ∀ x ∈ c.list, TwinOk x) : TwinOk c := by
  intro r w h hbig
  have HL := Lib.hid h.len
  have HP := Lib.hid h.parts
  have HK := Lib.hid h.kid
  have HI := Lib.hid ih
  have HB := Lib.hid hbig.parts
  have H0 := Lib.hid (TwI.start w r c.list)
  clear h ih hbig
  have hln := HL.out
  obtain ⟨rk, rn, ⟨vk, vn, vt⟩, rlo, rhi, ⟨rp, rl, rcap⟩⟩ := r
  simp only at hln
  subst hln
  go_enter Tryz.func7, Tryz.ntmps7
  go_wp2_with fail
  go_loopw [4] (fun kk wr => ∃ (q : Nat) (lv : Value) (R : List Rc), q ≤ c.list.length ∧ kk = .int .i64 q ∧ Hid (TwI w ⟨rk, rn, ⟨vk, vn, vt⟩, rlo, rhi, ⟨rp, c.list.length, rcap⟩⟩ c.list q lv R wr)) (fun kk _ => c.list.length - (intOf kk).toNat)
  case atStart => exact ⟨0, _, _, Nat.zero_le _, rfl, H0⟩
  case round =>
    obtain ⟨q, lv, R, hq, rfl, HT⟩ := hrel
    obtain ⟨wo, rfl⟩ : ∃ wo : World, wo = wr := ⟨_, rfl⟩
    obtain ⟨o0, o1, o2, o3, o4, o5, o6, o7⟩ := cells8 HT.out.one
    obtain ⟨t0, t1, t2, t3, t4, t5, t6, t7⟩ := cells8 HT.out.thr
    simp only at o7 t0 t1 t2 t3 t4 t5 t6 t7
    clear o0 o1 o2 o3 o4 o5 o6
    by_cases hlt : q < c.list.length
    · have HLT := Lib.hid hlt
      obtain ⟨g, off, cp, er, hg, r', hw', hc⟩ := HK.out q hlt
      simp only [Sl.mk.injEq] at er
      obtain ⟨rfl, _, rfl⟩ := er
      have HBX := Lib.hid HT.out.bel
      obtain ⟨x0, x1, x2, x3, x4, x5, x6, x7⟩ := hc wo.drew (HBX.out.block g hg)
      have HC := Lib.hid (HI.out _ (List.getElem_mem hlt) r' wo.drew (hw'.below HBX.out.drew) (HB.out.2.2.2 _ (List.getElem_mem hlt)))
      have hqn : (q : Int) < (c.list.length : Int) := by omega
      obtain ⟨k0, k1, ⟨k2, k3, k4⟩, k5, k6, ⟨k7, k8, k9⟩⟩ := r'
      simp only at x0 x1 x2 x3 x4 x5 x6 x7
      have S0 : wo.drew.cell? ⟨w.heap.size, 7, none⟩ = some (.slice (some ⟨g, off, none⟩) c.list.length rcap) ∧ wo.drew.cell? ⟨w.heap.size + 1 + 1, 7, none⟩ = some lv ∧ wo.drew.cell? ⟨g, off + q * 8, none⟩ = some (.int .i64 k0) ∧ wo.drew.cell? ⟨g, off + q * 8 + 1, none⟩ = some (.string k1) ∧ wo.drew.cell? ⟨g, off + q * 8 + 2, none⟩ = some (.int .i64 k2) ∧ wo.drew.cell? ⟨g, off + q * 8 + 3, none⟩ = some (.int .i64 k3) ∧ wo.drew.cell? ⟨g, off + q * 8 + 4, none⟩ = some (.string k4) ∧ wo.drew.cell? ⟨g, off + q * 8 + 5, none⟩ = some (.int .i64 k5) ∧ wo.drew.cell? ⟨g, off + q * 8 + 6, none⟩ = some (.int .i64 k6) ∧ wo.drew.cell? ⟨g, off + q * 8 + 7, none⟩ = some (.slice k7 k8 k9) := ⟨o7, t7, x0, x1, x2, x3, x4, x5, x6, x7⟩
      have HS := Lib.hid (fun (X : World) (hX : ∀ b, b < wo.heap.size → some b ≠ lv.ownBlock → X.heap[b]? = wo.heap[b]?) => show X.cell? ⟨w.heap.size, 7, none⟩ = some (.slice (some ⟨g, off, none⟩) c.list.length rcap) ∧ X.cell? ⟨w.heap.size + 1 + 1, 7, none⟩ = some lv ∧ X.cell? ⟨g, off + q * 8, none⟩ = some (.int .i64 k0) ∧ X.cell? ⟨g, off + q * 8 + 1, none⟩ = some (.string k1) ∧ X.cell? ⟨g, off + q * 8 + 2, none⟩ = some (.int .i64 k2) ∧ X.cell? ⟨g, off + q * 8 + 3, none⟩ = some (.int .i64 k3) ∧ X.cell? ⟨g, off + q * 8 + 4, none⟩ = some (.string k4) ∧ X.cell? ⟨g, off + q * 8 + 5, none⟩ = some (.int .i64 k5) ∧ X.cell? ⟨g, off + q * 8 + 6, none⟩ = some (.int .i64 k6) ∧ X.cell? ⟨g, off + q * 8 + 7, none⟩ = some (.slice k7 k8 k9) from by
        have hlb : ∀ b, b < w.heap.size + 3 → some b ≠ lv.ownBlock := fun b hb' e => by have := (Rk.own_block HT.out.own b e.symm).1; omega
        have hsz := HT.out.size
        obtain ⟨_, _, _, _, _, _, _, p7⟩ := cells8 ((hX _ (by omega) (hlb _ (by omega))).trans HT.out.one)
        obtain ⟨_, _, _, _, _, _, _, q7⟩ := cells8 ((hX _ (by omega) (hlb _ (by omega))).trans HT.out.thr)
        obtain ⟨y0, y1, y2, y3, y4, y5, y6, y7⟩ := hc X ((hX g (by omega) (hlb _ (by omega))).trans (HBX.out.block g hg))
        exact ⟨p7, q7, y0, y1, y2, y3, y4, y5, y6, y7⟩)
      clear hc hw' t0 t1 t2 t3 t4 t5 t6 t7 x0 x1 x2 x3 x4 x5 x6 x7
      go_wp2_with fail
      refine wp_region_L 11 (fun X => X.cell? ⟨w.heap.size, 7, none⟩ = some (.slice (some ⟨g, off, none⟩) c.list.length rcap) ∧ X.cell? ⟨w.heap.size + 1 + 1, 7, none⟩ = some lv ∧ X.cell? ⟨g, off + q * 8, none⟩ = some (.int .i64 k0) ∧ X.cell? ⟨g, off + q * 8 + 1, none⟩ = some (.string k1) ∧ X.cell? ⟨g, off + q * 8 + 2, none⟩ = some (.int .i64 k2) ∧ X.cell? ⟨g, off + q * 8 + 3, none⟩ = some (.int .i64 k3) ∧ X.cell? ⟨g, off + q * 8 + 4, none⟩ = some (.string k4) ∧ X.cell? ⟨g, off + q * 8 + 5, none⟩ = some (.int .i64 k5) ∧ X.cell? ⟨g, off + q * 8 + 6, none⟩ = some (.int .i64 k6) ∧ X.cell? ⟨g, off + q * 8 + 7, none⟩ = some (.slice k7 k8 k9)) (by kernel_rfl) S0 fun hSS => ?_
      refine L_take' (i := 0) (v := ?vv0) rfl (by kernel_rfl) (by kernel_rfl) (by kernel_rfl) (by kernel_rfl) (fun _ _ _ h => h) (Or.inl ⟨by rfl, ?hy0⟩) (by assumption) ?rest0
      case hy0 =>
        intro wy hSx
        obtain ⟨s0, s1, s2, s3, s4, s5, s6, s7, s8, s9⟩ := hSx
        go_simp
        all_goals with_reducible rfl
      try simp only [Act.put, List.setIfInBounds_toArray, List.set_cons_zero, List.set_cons_succ]
      refine L_take' (i := 1) (v := ?vv1) rfl (by kernel_rfl) (by kernel_rfl) (by kernel_rfl) (by kernel_rfl) (fun _ _ _ h => h) (Or.inl ⟨by rfl, ?hy1⟩) (by assumption) ?rest1
      case hy1 =>
        intro wy hSx
        obtain ⟨s0, s1, s2, s3, s4, s5, s6, s7, s8, s9⟩ := hSx
        go_simp
        all_goals with_reducible rfl
      try simp only [Act.put, List.setIfInBounds_toArray, List.set_cons_zero, List.set_cons_succ]
      refine L_take' (i := 2) (v := ?vv2) rfl (by kernel_rfl) (by kernel_rfl) (by kernel_rfl) (by kernel_rfl) (fun _ _ _ h => h) (Or.inl ⟨by rfl, ?hy2⟩) (by assumption) ?rest2
      case hy2 =>
        intro wy hSx
        obtain ⟨s0, s1, s2, s3, s4, s5, s6, s7, s8, s9⟩ := hSx
        go_simp
        all_goals with_reducible rfl
      try simp only [Act.put, List.setIfInBounds_toArray, List.set_cons_zero, List.set_cons_succ]
      refine L_take' (i := 3) (v := ?vv3) rfl (by kernel_rfl) (by kernel_rfl) (by kernel_rfl) (by kernel_rfl) (fun _ _ _ h => h) (Or.inl ⟨by rfl, ?hy3⟩) (by assumption) ?rest3
      case hy3 =>
        intro wy hSx
        obtain ⟨s0, s1, s2, s3, s4, s5, s6, s7, s8, s9⟩ := hSx
        go_simp
        all_goals with_reducible rfl
      try simp only [Act.put, List.setIfInBounds_toArray, List.set_cons_zero, List.set_cons_succ]
      refine L_take' (i := 4) (v := ?vv4) rfl (by kernel_rfl) (by kernel_rfl) (by kernel_rfl) (by kernel_rfl) (fun _ _ _ h => h) (Or.inl ⟨by rfl, ?hy4⟩) (by assumption) ?rest4
      case hy4 =>
        intro wy hSx
        obtain ⟨s0, s1, s2, s3, s4, s5, s6, s7, s8, s9⟩ := hSx
        go_simp
        all_goals with_reducible rfl
      try simp only [Act.put, List.setIfInBounds_toArray, List.set_cons_zero, List.set_cons_succ]
      refine L_take' (i := 5) (v := ?vv5) rfl (by kernel_rfl) (by kernel_rfl) (by kernel_rfl) (by kernel_rfl) (fun _ _ _ h => h) (Or.inl ⟨by rfl, ?hy5⟩) (by assumption) ?rest5
      case hy5 =>
        intro wy hSx
        obtain ⟨s0, s1, s2, s3, s4, s5, s6, s7, s8, s9⟩ := hSx
        go_simp
        all_goals with_reducible rfl
      try simp only [Act.put, List.setIfInBounds_toArray, List.set_cons_zero, List.set_cons_succ]
      refine L_take' (i := 6) (v := ?vv6) rfl (by kernel_rfl) (by kernel_rfl) (by kernel_rfl) (by kernel_rfl) (fun _ _ _ h => h) (Or.inl ⟨by rfl, ?hy6⟩) (by assumption) ?rest6
      case hy6 =>
        intro wy hSx
        obtain ⟨s0, s1, s2, s3, s4, s5, s6, s7, s8, s9⟩ := hSx
        go_simp
        all_goals with_reducible rfl
      try simp only [Act.put, List.setIfInBounds_toArray, List.set_cons_zero, List.set_cons_succ]
      refine L_one' (i := 7) rfl (by kernel_rfl) fun K hK => ?_
      go_simp
      refine HC.out.mono ?_
      rintro e y ⟨r2, rfl, hcd, hb7⟩
      have hby : Below wo.heap.size wo y := (Below.refl _ _).drew.trans hb7
      obtain ⟨v', z, hr, ⟨g', cap', rfl⟩, z1, z3, zc, zf, hba, hkeep, HTn⟩ := HT.out.next HLT.out hby hcd HB.out.2.2.1
      obtain ⟨m0, m1, ⟨m2, m3, m4⟩, m5, m6, ⟨m7, m8, m9⟩⟩ := r2
      have S7 := HS.out y (fun b hb' _ => hby.block b hb')
      have S7a := HS.out (y.alloc (cobj ⟨m0, m1, ⟨m2, m3, m4⟩, m5, m6, ⟨m7, m8, m9⟩⟩)) (fun b hb' _ => hba.block b hb')
      have S8 := HS.out z hkeep
      have zc' : z.cell? ⟨w.heap.size + 1 + 1, 7, none⟩ = some lv := zc
      have zf' : z.frozen? ⟨w.heap.size + 1 + 1, 7, none⟩ = false := zf
      have HTN := Lib.hid HTn
      clear HTn zc zf z1 z3 hkeep hba hby hb7 hcd
      dsimp only
      refine hK _ _ (fun _ => S7) ?_
      clear K hK
      try simp only [Act.put, List.setIfInBounds_toArray, List.set_cons_zero, List.set_cons_succ]
      refine L_one' (i := 8) rfl (by kernel_rfl) fun K hK => ?_
      go_simp
      refine hK _ _ (fun _ => S7a) ?_
      clear K hK
      try simp only [Act.put, List.setIfInBounds_toArray, List.set_cons_zero, List.set_cons_succ]
      refine L_one' (i := 9) rfl (by kernel_rfl) fun K hK => ?_
      refine step_append_run (by rfl) _ _ _ _ (by rfl) _ _ (.slice (some ⟨g', 0, none⟩) (q + 1) cap') z (by rfl) (by rfl) hr ?_
      refine hK _ _ (fun _ => S8) ?_
      clear K hK
      try simp only [Act.put, List.setIfInBounds_toArray, List.set_cons_zero, List.set_cons_succ]
      refine L_one' (i := 10) rfl (by kernel_rfl) fun K hK => ?_
      go_simp
      refine hK _ _ (fun _ => S8) ?_
      clear K hK
      try simp only [Act.put, List.setIfInBounds_toArray, List.set_cons_zero, List.set_cons_succ]
      refine L_one' (i := 11) rfl (by kernel_rfl) fun K hK => ?_
      go_simp
      refine hK _ _ (fun h => absurd rfl h) ?_
      clear K hK
      try simp only [Act.put, List.setIfInBounds_toArray, List.set_cons_zero, List.set_cons_succ]
      refine L_done (by kernel_rfl) ?_ _
      clear S7 S7a S8 zc' zf' hr hSS S0
      go_wp2_with fail
      go_roundw
      case rel => exact ⟨q + 1, _, _, HLT.out, congrArg _ (wrap_q HB.out.2.2.1 HLT.out), HTN⟩
      case measure =>
        rw [wrap_q HB.out.2.2.1 HLT.out]
        exact less_q HLT.out
    · obtain rfl : q = c.list.length := by omega
      obtain ⟨p, cc, rfl⟩ := (Rk.own_row flatC HT.out.own).form
      obtain ⟨W, eW, w1, w2, w3, w4⟩ := set8 HT.out.two (.int .i64 rk) (.string rn) (.int .i64 vk) (.int .i64 vn) (.string vt) (.int .i64 rlo) (.int .i64 rhi) (.slice p R.length cc)
      obtain ⟨f0, f1, f2, f3, f4, f5, f6, f7⟩ := frozen8 HT.out.two
      obtain ⟨e0, e1, e2, e3, e4, e5, e6, e7⟩ := cells8 HT.out.two
      obtain ⟨d0, d1, d2, d3, d4, d5, d6, d7⟩ := cells8 w1
      have ho := HT.out.own
      have HRES : Hid (∃ r' : Rc, Value.agg #[.int .i64 rk, .string rn, .int .i64 vk, .int .i64 vn, .string vt, .int .i64 rlo, .int .i64 rhi, .slice p R.length cc] = cv r' ∧ CdW (fun b => w.heap.size ≤ b) W c r' ∧ Below w.heap.size w W) := Lib.hid (by
        obtain ⟨h1, h2, h3, h4, h5, _⟩ := HP.out
        have hrow : RowAt encC 8 wo (.slice p R.length cc) R := Rk.own_row flatC ho
        have hl2 := HT.out.len
        have hne : ∀ b, (Value.slice p R.length cc).ownBlock = some b → w.heap.size + 3 ≤ b ∧ b < wo.heap.size := fun b e => Rk.own_block ho b e
        refine ⟨⟨rk, rn, ⟨vk, vn, vt⟩, rlo, rhi, ⟨p, R.length, cc⟩⟩, rfl, CdW.of_parts ⟨h1, h2, h3, h4, h5, R, ?_, fun b hb' _ => by have := (hne b hb').1; omega, ?_⟩, w4 _ _ HT.out.bel (by omega)⟩
        · exact hrow.kept (by omega) fun b hb' hlt' => w3 b (by have := (hne b hb').1; omega)
        · have hk := HT.out.kids
          rw [List.take_length] at hk
          exact KidsW.frame (fun b _ hS => by have := hS.1; omega) (fun b hS _ => w3 b (by have := hS.1; omega)) (by omega) _ _ hk)
      clear ho w1 w2 w3 w4
      go_wp2_with fail
      rw [← eW]
      refine bodyPost_ret (v := .agg #[.int .i64 rk, .string rn, .int .i64 vk, .int .i64 vn, .string vt, .int .i64 rlo, .int .i64 rhi, .slice p R.length cc]) (by simp [results, Tryz.results7, go_sem, d0, d1, d2, d3, d4, d5, d6, d7]) rfl ?_
      obtain ⟨r', hr', hc1, hc2⟩ := HRES.out
      exact ⟨r', by rw [hr'], hc1, hc2⟩
theorem twin_any : ∀ c : Cd, TwinOk c := by
  suffices ∀ n (c : Cd), SizeOf.sizeOf c ≤ n → TwinOk c from fun c => this _ c (Nat.le_refl _)
  intro n
  induction n with
  | zero => intro c hc; cases c; simp at hc
  | succ n ih =>
    intro c hc
    refine twin_step c fun x hx => ih x ?_
    obtain ⟨k, nm, v, lo, hi, l⟩ := c
    have := List.sizeOf_lt_of_mem hx
    simp only [Cd.list] at this
    simp at hc
    omega
end Ft
end Go.Proofs.YtclmalaomofahaaGreatDoor
