/- The walk of FilterParts. Conditions: those that each theorem names. -/
import Derived.Test.YtclmalaomofahaaGreatDoorFtW
namespace Go.Proofs.YtclmalaomofahaaGreatDoor
set_option linter.unusedVariables false
namespace Ft
open Go Go.RowKit Go.Shelf Pq Pq.Pl Px Ids
set_option maxHeartbeats 4000000 in
set_option maxRecDepth 100000 in
theorem parts_walk (c : Cd) (r : Rc) (L : List Pt) (v : Value) (w : World) (h : CdW (fun _ => True) w c r) (hbig : Big c) (hL : PtsAt w v L) (hok : OkL L) :
    Calls Tryz.prog 6 #[cv r, v] w fun e w' => e = .returned (.bool true) ∧ Below w.heap.size w w' := by
  have HA := Lib.hid (Rk.fresh_alloc w (cobj r))
  have HZ := Lib.hid (Rk.heap_last w (cobj r))
  have HL := Lib.hid hL
  have HO := Lib.hid hok
  have HC0 := Lib.hid h
  have HBG := Lib.hid hbig
  obtain ⟨lp, lc, rfl⟩ := hL.form
  clear h hbig hL hok
  obtain ⟨k0, k1, ⟨k2, k3, k4⟩, k5, k6, ⟨k7, k8, k9⟩⟩ := r
  obtain ⟨w1, hw1⟩ : ∃ w1, w1 = w.alloc (cobj ⟨k0, k1, ⟨k2, k3, k4⟩, k5, k6, ⟨k7, k8, k9⟩⟩) := ⟨_, rfl⟩
  rw [← hw1] at HA HZ
  have H0 := Lib.hid (PaI.start w1 L)
  go_enter Tryz.func6, Tryz.ntmps6
  go_wp2_with fail
  rw [← hw1]
  clear hw1
  go_loopw [5, 6, 7] (fun a o i wr => ∃ q : Nat, q ≤ L.length ∧ i = .int .i64 q ∧ Hid (PaI w1 L q a o wr)) (fun _ _ i _ => L.length - (intOf i).toNat)
  case atStart => exact ⟨0, Nat.zero_le _, rfl, H0⟩
  case round =>
    obtain ⟨q, hq, rfl, HP⟩ := hrel
    obtain ⟨wo, rfl⟩ : ∃ wo : World, wo = wr := ⟨_, rfl⟩
    rename_i av ov _
    by_cases hlt : q < L.length
    · obtain ⟨g, off, c', ev, hg, hc⟩ := pts_at (HL.out.below HA.out) (fun p c e => by injection e with _ e; omega)
      injection ev with ev1 ev2 ev3
      subst ev1
      obtain ⟨⟨ri, ⟨vp, vn, vc⟩, ⟨fp, fn, fc⟩⟩, hptw, hcell⟩ := hc q hlt
      have hid : ri = (L[q]).id := hptw.1
      obtain ⟨c0, c1, c2⟩ := hcell wo (HP.out.bel.block g hg)
      have hqn : (q : Int) < (L.length : Int) := by omega
      have HLT := Lib.hid hlt
      have HLN : Hid ((allOf (L.take q)).length ≤ maxLen) := Lib.hid (by
        have h1 := (ones_take L q (by omega)).2.1
        have h2 := HO.out.len
        unfold allOf maxLen
        simp only [List.length_map]
        omega)
      have HH := Lib.hid (hasRef_any _ _ ri wo HP.out.all.at HLN.out)
      have HCELL := Lib.hid (fun (W : World) (hW : Below w1.heap.size w1 W) => hcell W (hW.block g hg))
      by_cases hin : (L[q]).id ∈ allOf (L.take q)
      · have HPN := Lib.hid (HP.out.skip hlt hin)
        have hb : hasB (allOf (L.take q)) ri = true := by unfold hasB; rw [hid]; exact List.contains_iff_mem.2 hin
        rw [hb] at HH
        clear hb hc hcell hg ev2 ev3 hid hptw hin
        simp only [slv] at c0 c1 c2
        go_wp2_with fail
        refine HH.out.mono ?_
        clear HH
        rintro e w5 ⟨rfl, rfl⟩
        go_wp2_with fail
        go_roundw
        case rel => exact ⟨q + 1, HLT.out, congrArg _ (wrap_p HO.out.len HLT.out), HPN⟩
        case measure =>
          rw [wrap_p HO.out.len HLT.out]
          exact int_lessV HLT.out
      · obtain ⟨av', x1, ov', x2, ra, bx1, ro, HPX⟩ := HP.out.next hlt hin hptw HO.out.len
        have HPN := Lib.hid HPX
        have hb : hasB (allOf (L.take q)) ri = false := by unfold hasB; rw [hid, ← Bool.not_eq_true, List.contains_iff_mem]; exact hin
        rw [hb] at HH
        obtain ⟨d0, d1, d2⟩ := HCELL.out x1 bx1
        simp only [slv] at c0 c1 c2 d0 d1 d2 ra ro
        clear hb hc hcell hg ev2 ev3 hid hptw hin HPX bx1
        go_wp2_with fail
        refine HH.out.mono ?_
        clear HH
        rintro e w5 ⟨rfl, rfl⟩
        go_wp2_with (first | (at_builtin; refine wpList_append_run (by rfl) _ _ _ _ (by rfl) _ _ av' x1 (by rfl) (by rfl) ra ?_; clear ra) | (at_builtin; refine wpList_append_run (by rfl) _ _ _ _ (by rfl) _ _ ov' x2 (by rfl) (by rfl) ro ?_; clear ro))
        go_roundw
        case rel => exact ⟨q + 1, HLT.out, congrArg _ (wrap_p HO.out.len HLT.out), HPN⟩
        case measure =>
          rw [wrap_p HO.out.len HLT.out]
          exact int_lessV HLT.out
    · obtain rfl : q = L.length := by omega
      have hpts := HP.out.pts
      have hall := HP.out.all
      have hbel := HP.out.bel
      rw [List.take_length] at hpts hall
      have HPT := Lib.hid hpts
      have HAL := Lib.hid hall
      have HBW := Lib.hid hbel
      have HOK : Hid (OkL (ones L)) := Lib.hid ⟨by have := ones_len L; have := HO.out.len; omega, fun p hp => HO.out.ok p ((ones_take L L.length (Nat.le_refl _)).2.2 p (by rw [List.take_length]; exact hp))⟩
      have HLA : Hid ((allOf L).length ≤ 2513169434916) := Lib.hid (by have := ones_len L; have := HO.out.len; unfold allOf; simp only [List.length_map]; omega)
      have HS : Hid (∀ W, Below wo.heap.size wo W → W.cell? ⟨w.heap.size, 0, none⟩ = some (.int .i64 k0) ∧ W.cell? ⟨w.heap.size, 1, none⟩ = some (.string k1) ∧ W.cell? ⟨w.heap.size, 2, none⟩ = some (.int .i64 k2) ∧ W.cell? ⟨w.heap.size, 3, none⟩ = some (.int .i64 k3) ∧ W.cell? ⟨w.heap.size, 4, none⟩ = some (.string k4) ∧ W.cell? ⟨w.heap.size, 5, none⟩ = some (.int .i64 k5) ∧ W.cell? ⟨w.heap.size, 6, none⟩ = some (.int .i64 k6) ∧ W.cell? ⟨w.heap.size, 7, none⟩ = some (.slice k7 k8 k9)) := Lib.hid (fun W hW => by
        obtain ⟨a0, a1, a2, a3, a4, a5, a6, a7⟩ := cells8 ((hW.block _ (Nat.lt_of_lt_of_le (Rk.lt_of_block HZ.out) HBW.out.size)).trans ((HBW.out.block _ (Rk.lt_of_block HZ.out)).trans HZ.out))
        exact ⟨a0, a1, a2, a3, a4, a5, a6, a7⟩)
      have HCW := Lib.hid (fun W (hW : Below wo.heap.size wo W) => ((HC0.out.below HA.out).below HBW.out).below hW)
      have HB0 : Hid (Below wo.heap.size wo wo.drew) := Lib.hid (Below.refl _ _).drew
      have S0 := HS.out wo.drew HB0.out
      obtain ⟨ap, ac, rfl⟩ := hall.at.form
      obtain ⟨op, oc, rfl⟩ := hpts.form
      have HPL := Lib.hid (parts_len c L)
      clear hpts hall hbel hq hlt
      generalize (ones L).length = on at *
      obtain ⟨an, han⟩ : ∃ an, an = (allOf L).length := ⟨_, rfl⟩
      have HLE := Lib.hid han
      rw [← han] at HLA HPL HAL ⊢
      clear han
      go_wp2_with fail
      refine wp_region_L 8 (fun W => W.cell? ⟨w.heap.size, 0, none⟩ = some (.int .i64 k0) ∧ W.cell? ⟨w.heap.size, 1, none⟩ = some (.string k1) ∧ W.cell? ⟨w.heap.size, 2, none⟩ = some (.int .i64 k2) ∧ W.cell? ⟨w.heap.size, 3, none⟩ = some (.int .i64 k3) ∧ W.cell? ⟨w.heap.size, 4, none⟩ = some (.string k4) ∧ W.cell? ⟨w.heap.size, 5, none⟩ = some (.int .i64 k5) ∧ W.cell? ⟨w.heap.size, 6, none⟩ = some (.int .i64 k6) ∧ W.cell? ⟨w.heap.size, 7, none⟩ = some (.slice k7 k8 k9)) (by kernel_rfl) S0 fun hSS => ?_
      refine L_take' (i := 0) (v := ?vv0) rfl (by kernel_rfl) (by kernel_rfl) (by kernel_rfl) (by kernel_rfl) (fun _ _ _ h => h) (Or.inl ⟨by rfl, ?hy0⟩) (by assumption) ?rest0
      case hy0 =>
        intro wy hSx
        obtain ⟨s0, s1, s2, s3, s4, s5, s6, s7⟩ := hSx
        go_simp
        all_goals with_reducible rfl
      try simp only [Act.put, List.setIfInBounds_toArray, List.set_cons_zero, List.set_cons_succ]
      refine L_take' (i := 1) (v := ?vv1) rfl (by kernel_rfl) (by kernel_rfl) (by kernel_rfl) (by kernel_rfl) (fun _ _ _ h => h) (Or.inl ⟨by rfl, ?hy1⟩) (by assumption) ?rest1
      case hy1 =>
        intro wy hSx
        obtain ⟨s0, s1, s2, s3, s4, s5, s6, s7⟩ := hSx
        go_simp
        all_goals with_reducible rfl
      try simp only [Act.put, List.setIfInBounds_toArray, List.set_cons_zero, List.set_cons_succ]
      refine L_take' (i := 3) (v := ?vv3) rfl (by kernel_rfl) (by kernel_rfl) (by kernel_rfl) (by kernel_rfl) (fun _ _ _ h => h) (Or.inl ⟨by rfl, ?hy3⟩) (by assumption) ?rest3
      case hy3 =>
        intro wy hSx
        obtain ⟨s0, s1, s2, s3, s4, s5, s6, s7⟩ := hSx
        go_simp
        all_goals with_reducible rfl
      try simp only [Act.put, List.setIfInBounds_toArray, List.set_cons_zero, List.set_cons_succ]
      refine L_take' (i := 5) (v := ?vv5) rfl (by kernel_rfl) (by kernel_rfl) (by kernel_rfl) (by kernel_rfl) (fun _ _ _ h => h) (Or.inl ⟨by rfl, ?hy5⟩) (by assumption) ?rest5
      case hy5 =>
        intro wy hSx
        obtain ⟨s0, s1, s2, s3, s4, s5, s6, s7⟩ := hSx
        go_simp
        all_goals with_reducible rfl
      try simp only [Act.put, List.setIfInBounds_toArray, List.set_cons_zero, List.set_cons_succ]
      have C1 := Lib.hid (ids_any c ⟨k0, k1, ⟨k2, k3, k4⟩, k5, k6, ⟨k7, k8, k9⟩⟩ (ones L) (.slice op on oc) wo.drew (HCW.out _ HB0.out) HBG.out (HPT.out.below HB0.out) HOK.out)
      refine L_one' (i := 2) rfl (by kernel_rfl) fun K hK => ?_
      go_simp
      refine C1.out.mono ?_
      clear C1
      rintro e y1 ⟨u1, rfl, ho1, hb1⟩
      have HB1 := Lib.hid (HB0.out.trans (hb1.mono HB0.out.size))
      have HO1 := Lib.hid ho1
      obtain ⟨p1, c1, rfl⟩ := ho1.at.form
      have S1 := HS.out y1 HB1.out
      clear ho1 hb1 S0 hSS
      dsimp only
      refine hK _ _ (fun _ => S1) ?_
      clear K hK
      try simp only [Act.put, List.setIfInBounds_toArray, List.set_cons_zero, List.set_cons_succ]
      have C2 := Lib.hid (not_any ⟨k0, k1, ⟨k2, k3, k4⟩, k5, k6, ⟨k7, k8, k9⟩⟩ y1)
      refine L_one' (i := 4) rfl (by kernel_rfl) fun K hK => ?_
      go_simp
      refine C2.out.mono ?_
      clear C2
      rintro e y2 ⟨g2, rfl, hg2, hb2⟩
      have HB2 := Lib.hid (HB1.out.trans (hb2.mono HB1.out.size))
      have HN2 := Lib.hid (notC_at (HCW.out y1 HB1.out) hb2 hg2)
      have HO2 := Lib.hid (Go.Proofs.YtclmalaomofahaaGreatDoor.own_below HO1.out hb2)
      have S2 := HS.out y2 HB2.out
      clear hg2 hb2 S1
      dsimp only
      refine hK _ _ (fun _ => S2) ?_
      clear K hK
      try simp only [Act.put, List.setIfInBounds_toArray, List.set_cons_zero, List.set_cons_succ]
      have C3 := Lib.hid (ids_any (notC c) _ (ones L) (.slice op on oc) y2 HN2.out (big_notC HBG.out) (HPT.out.below HB2.out) HOK.out)
      refine L_one' (i := 6) rfl (by kernel_rfl) fun K hK => ?_
      go_simp
      refine C3.out.mono ?_
      clear C3
      rintro e y3 ⟨u3, rfl, ho3, hb3⟩
      have HB3 := Lib.hid (HB2.out.trans (hb3.mono HB2.out.size))
      have HA3 := Lib.hid (Go.Proofs.YtclmalaomofahaaGreatDoor.own_below HO2.out hb3)
      have HO3 := Lib.hid ho3
      obtain ⟨p3, c3, rfl⟩ := ho3.at.form
      have S3 := HS.out y3 HB3.out
      clear ho3 hb3 S2
      dsimp only
      refine hK _ _ (fun _ => S3) ?_
      clear K hK
      try simp only [Act.put, List.setIfInBounds_toArray, List.set_cons_zero, List.set_cons_succ]
      refine L_one' (i := 7) rfl (by kernel_rfl) fun K hK => ?_
      go_simp
      refine hK _ _ (fun _ => S3) ?_
      clear K hK
      try simp only [Act.put, List.setIfInBounds_toArray, List.set_cons_zero, List.set_cons_succ]
      refine L_one' (i := 8) rfl (by kernel_rfl) fun K hK => ?_
      go_simp
      refine hK _ _ (fun h => absurd rfl h) ?_
      clear K hK
      try simp only [Act.put, List.setIfInBounds_toArray, List.set_cons_zero, List.set_cons_succ]
      refine L_done (by kernel_rfl) ?_ _
      have HAL3 := Lib.hid (Go.Proofs.YtclmalaomofahaaGreatDoor.own_below HAL.out HB3.out)
      have HLB : Hid ((setL (idsOf c (ones L))).length ≤ 2513169434916 ∧ (setL (idsOf (notC c) (ones L))).length ≤ 2513169434916) := Lib.hid (by have h1 := HPL.out; have h2 := HLA.out; omega)
      have HW1 : Hid (wrap64 (((setL (idsOf c (ones L))).length : Int) + ((setL (idsOf (notC c) (ones L))).length : Int)) = (an : Int)) := Lib.hid (by have h1 := HPL.out; have h2 := HLA.out; unfold wrap64; omega)
      have CI := Lib.hid (interRef_any _ _ _ _ y3 HA3.out.at HO3.out.at (by have := HLB.out.1; omega) (by have := HLB.out.2; omega))
      rw [parts_inter] at CI
      clear S3
      go_wp2_with fail
      refine CI.out.mono ?_
      clear CI
      rintro e y4 ⟨x4, rfl, ho4, hb4⟩
      obtain ⟨p4, c4, rfl⟩ := ho4.at.form
      have HB4 := Lib.hid (HB3.out.trans (hb4.mono HB3.out.size))
      have HA4 := Lib.hid (HA3.out.at.below hb4)
      have HO4 := Lib.hid (HO3.out.at.below hb4)
      have HL4 := Lib.hid (HAL3.out.at.below hb4)
      have CU := Lib.hid (unionRef_any _ _ _ _ y4 HA4.out HO4.out (by have h1 := HPL.out; have h2 := HLA.out; omega))
      rw [parts_union] at CU
      clear ho4 hb4
      simp only [List.length_nil]
      go_wp2_with fail
      refine CU.out.mono ?_
      clear CU
      rintro e y5 ⟨x5, rfl, ho5, hb5⟩
      have HB5 := Lib.hid (HB4.out.trans (hb5.mono HB4.out.size))
      have HU5 := Lib.hid ho5
      have CS := Lib.hid (set_any (allOf L) _ y5 (HL4.out.below hb5) (by have h2 := HLA.out; have h3 := HLE.out; omega))
      clear ho5 hb5
      go_wp2_with fail
      refine CS.out.mono ?_
      clear CS
      rintro e y6 ⟨x6, rfl, ho6, hb6⟩
      have HB6 := Lib.hid (HB5.out.trans (hb6.mono HB5.out.size))
      have CQ := Lib.hid (sameRef_any _ _ _ _ y6 (HU5.out.at.below hb6) ho6.at (by have h1 := setL_len (allOf L); have h2 := HLA.out; have h3 := HLE.out; unfold maxLen; omega) (by have h1 := setL_len (allOf L); have h2 := HLA.out; have h3 := HLE.out; unfold maxLen; omega))
      rw [eqB_same] at CQ
      clear ho6 hb6
      go_wp2_with fail
      refine CQ.out.mono ?_
      clear CQ
      rintro e y7 ⟨rfl, hb7⟩
      have HB7 := Lib.hid (HB6.out.trans (hb7.mono HB6.out.size))
      have hw1 := HW1.out
      have ge : ((an : Int) == (an : Int)) = true := by simp
      clear hb7
      go_wp2_with fail
      refine (sure_any y7).mono ?_
      rintro e y8 ⟨rfl, hb8⟩
      have HB8 := Lib.hid (HA.out.trans ((HBW.out.trans ((HB7.out.trans (hb8.mono HB7.out.size)).mono HBW.out.size)).mono HA.out.size))
      clear hb8
      go_wp2_with fail
      go_ret
      exact ⟨rfl, HB8.out⟩
end Ft
end Go.Proofs.YtclmalaomofahaaGreatDoor
