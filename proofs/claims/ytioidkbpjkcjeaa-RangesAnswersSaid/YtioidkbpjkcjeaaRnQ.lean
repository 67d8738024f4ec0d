/- The walk of RangesOwn. Conditions: those that each theorem names. -/
import Derived.Test.YtioidkbpjkcjeaaRnP
namespace Go.Proofs.Ytioidkbpjkcjeaa
set_option linter.unusedVariables false
open Go Go.RowKit Go.Shelf Go.Sort Ids
namespace Rn
theorem ownH_form {w : World} {B : Nat} {v : Value} {A : List En} (h : OwnH w B v A) (h0 : 0 < A.length) : ∃ g cap, v = .slice (some ⟨g, 0, none⟩) A.length cap ∧ B ≤ g ∧ g < w.heap.size := by
  rcases h.2 with ⟨_, e⟩ | ⟨g, cap, cur, rfl, hb, hg, _⟩
  · omega
  · refine ⟨g, cap, rfl, hb, ?_⟩
    rcases Nat.lt_or_ge g w.heap.size with c | c
    · exact c
    · rw [Array.getElem?_eq_none c] at hg; cases hg
/-- An own row's element, and the row behind a store of nothing there. -/
theorem ownH_cell {w : World} {B g n cap : Nat} {A : List En} (h : OwnH w B (.slice (some ⟨g, 0, none⟩) n cap) A) (hn : A.length = n) {i : Nat} (hi : i < n) :
    ∃ y : En, w.cell? ⟨g, i * 2, none⟩ = some (.int .i64 y.1) ∧ w.cell? ⟨g, i * 2 + 1, none⟩ = some (.int .i64 y.2) ∧ w.frozen? ⟨g, i * 2, none⟩ = false ∧ w.frozen? ⟨g, i * 2 + 1, none⟩ = false ∧
      OwnH ((w.setCell ⟨g, i * 2, none⟩ (.int .i64 0)).setCell ⟨g, i * 2 + 1, none⟩ (.int .i64 0)) B (.slice (some ⟨g, 0, none⟩) n cap) (A.set i (0, 0)) := by
  subst hn
  obtain ⟨c0, c1⟩ := hCells_at A i hi
  have h2 := own_set h i (0, 0)
  exact ⟨A[i], (h.cellAt _ (by omega)).trans c0, (h.cellAt _ (by omega)).trans c1, h.frozenAt _, h.frozenAt _, h2⟩
theorem ownI_same {w w' : World} {B : Nat} {v : Value} {R : List Int} (h : Own w B v R) (hs : ∀ k, B ≤ k → w'.heap[k]? = w.heap[k]?) : Own w' B v R := by
  refine ⟨h.1, ?_⟩
  rcases h.2 with x | ⟨g', cap', cur, e, hb, hg, r⟩
  · exact .inl x
  · exact .inr ⟨g', cap', cur, e, hb, (hs _ hb).trans hg, r⟩
theorem ids_lenQ (R : List En) : (idsE R).length ≤ R.length := by
  have := uniL_length (R.map (fun x => x.2)) []
  unfold idsE
  simpa using this
set_option maxHeartbeats 8000000 in
set_option maxRecDepth 100000 in
theorem own_walk (v0 : Value) (l0 : List En) (low high : Int) (w : World) (wf0 : HsAt w v0 l0) (s0 : l0.length * 16 ≤ 140737488351232) (ok0 : ∀ y ∈ l0, OkH y) :
    Calls Try.prog 6 #[v0, .int .i64 low, .int .i64 high] w fun e w' => e = .returned (.bool true) ∧ Below w.heap.size w w' := by
  have HB := Lib.hid (build_any l0 v0 w wf0 (by omega))
  have HRB := Lib.hid (fun (W : World) (h : HsAt W v0 l0) => rbuild_any l0 v0 W h (by omega))
  have hcl : (can l0).length ≤ l0.length := (can_fact l0).2.2
  have G : Good (can l0) := can_good (fun e he => (ok0 e he).ok) (by omega)
  have hc16 : (can l0).length * 16 + 16 ≤ 140737488355328 := by omega
  have HWF := Lib.hid wf0
  obtain ⟨L, hL⟩ : ∃ L, L = can l0 := ⟨_, rfl⟩
  rw [← hL] at G HB HRB hc16
  obtain ⟨p, c, rfl⟩ := wf0.form
  have HEN := Lib.hid (fun (B K : Nat) (W : World) (h : IxO W B K L) => entries_any W h G.len)
  have HBT := Lib.hid (fun (B K : Nat) (W : World) (h : IxO W B K L) => between_any low high W h G)
  have HSM := Lib.hid (fun (u v : Value) (W : World) (hu : HsAt W u L) (hv : HsAt W v L) => same_any L L u v W hu hv (by have := G.len; unfold maxLen; omega))
  have hdd : decide (L = L) = true := decide_eq_true rfl
  rw [hdd] at HSM
  have HRW := Lib.hid (fun (u : Value) (W : World) (hu : HsAt W u L) => rbw_any L low high u W hu hc16)
  rw [bwL_is] at HRW
  have hil : (idsE (seg low high L)).length ≤ maxLen := by have h1 := ids_lenQ (seg low high L); have h2 := seg_len low high L; have h3 := G.len; unfold maxLen; omega
  have HIN := Lib.hid (fun (u v : Value) (W : World) (hu : IntsAt W u (idsE (seg low high L))) (hv : IntsAt W v (idsE (seg low high L))) => ints_any _ _ u v W hu hv hil hil)
  have hee : eqB (idsE (seg low high L)) (idsE (seg low high L)) = true := eqB_same _
  rw [hee] at HIN
  generalize idsE (seg low high L) = I at *
  obtain ⟨m, hm⟩ : ∃ m, m = L.length := ⟨_, rfl⟩
  obtain ⟨q, hq⟩ : ∃ q, q = I.length := ⟨_, rfl⟩
  have HM := Lib.hid hm
  have HQ := Lib.hid hq
  have HMX : Hid (m ≤ maxLen) := Lib.hid (by unfold maxLen; omega)
  have HQX : Hid (q ≤ maxLen) := Lib.hid (by rw [hq]; exact hil)
  obtain ⟨n0, hn0⟩ : ∃ n0, n0 = l0.length := ⟨_, rfl⟩
  rw [← hn0] at HB HRB HWF ⊢
  clear hL wf0 s0 ok0 hdd hee G hcl hc16 hil hm hq hn0
  go_enter Try.func6, Try.ntmps6
  go_wp2_with fail
  refine HB.out.mono ?_
  rintro e w1 ⟨K, rfl, hx, hb⟩
  have HX1 := Lib.hid hx
  have HB1 := Lib.hid hb
  clear hx hb HB
  go_wp2_with fail
  refine (awake_yes _).mono ?_
  rintro e w2 ⟨rfl, hb⟩
  have HX2 := Lib.hid (HX1.out.below hb)
  have HB2 := Lib.hid (HB1.out.trans (hb.mono HB1.out.size))
  clear hb HX1 HB1
  go_wp2_with fail
  refine (HRB.out _ (HWF.out.below HB2.out)).mono ?_
  rintro e w3 ⟨uw, rfl, ho, hb⟩
  have HW3 := Lib.hid (own_entries ho)
  have HX3 := Lib.hid (HX2.out.below hb)
  have HB3 := Lib.hid (HB2.out.trans (hb.mono HB2.out.size))
  obtain ⟨pw, cw, rfl⟩ := (own_entries ho).form
  rw [← HM.out] at HW3 ⊢
  clear ho hb HX2 HB2 HRB
  go_wp2_with fail
  refine (HEN.out _ _ _ HX3.out).mono ?_
  rintro e w4 ⟨ua, rfl, ho, hb⟩
  have HX4 := Lib.hid (HX3.out.below hb)
  have HW4 := Lib.hid (HW3.out.below hb)
  have HB4 := Lib.hid (HB3.out.trans (hb.mono HB3.out.size))
  obtain ⟨pa, ca, rfl⟩ := (own_entries ho).form
  have HA4 := Lib.hid ho
  rw [← HM.out]
  have H34 := Lib.hid hb
  clear ho hb
  go_wp2_with fail
  refine (HBT.out _ _ _ HX4.out).mono ?_
  rintro e w5 ⟨ub, rfl, ho, hb⟩
  have HA5 := Lib.hid (own_below HA4.out hb)
  have H35 := Lib.hid (H34.out.trans (hb.mono H34.out.size))
  obtain ⟨pb, cb, rfl⟩ := (Own.at ho).form
  rw [← HQ.out] at ho ⊢
  have HO5 := Lib.hid ho
  have H45 := Lib.hid hb
  clear ho hb HX4 HW4 HB4
  go_wp2_with fail
  have HPA : Hid (∀ g, pa = some ⟨g, 0, none⟩ → 0 < L.length → g < w4.heap.size) := Lib.hid (fun g e h0 => by
    obtain ⟨g', cap', e', _, hlt⟩ := ownH_form HA4.out h0
    injection e' with e1 _ _
    rw [e] at e1
    injection e1 with e1
    injection e1 with e1 _ _
    rw [e1]; exact hlt)
  have HS34 := Lib.hid H34.out.size
  clear HA4 H34
  go_loopw [11] (fun i wr => ∃ (k : Nat) (A : List En), k ≤ m ∧ i = .int .i64 k ∧ A.length = m ∧ OwnH wr w3.heap.size (.slice pa m ca) A ∧ Own wr w4.heap.size (.slice pb q cb) I ∧ Below w3.heap.size w3 wr) (fun i _ => m - (intOf i).toNat)
  case atStart => exact ⟨0, L, Nat.zero_le _, rfl, HM.out.symm, by rw [HM.out]; exact HA5.out, by rw [HQ.out] at HO5 ⊢; exact HO5.out, H35.out⟩
  case round =>
    obtain ⟨k, A, hk, rfl, hA, ho, hoi, hbel⟩ := hrel
    have HA := Lib.hid hA
    have HO := Lib.hid ho
    have HOI := Lib.hid hoi
    have HBL := Lib.hid hbel
    clear hA ho hoi hbel HA5 HO5 H35 H45
    by_cases hlt : k < m
    · obtain ⟨g, cap, he, hg, _⟩ := ownH_form HO.out (by rw [HA.out]; omega)
      injection he with e1 e2 e3
      subst e1 e3
      obtain ⟨y, c0, c1, f0, f1, ho2⟩ := ownH_cell HO.out HA.out hlt
      have HO2 := Lib.hid ho2
      have HG := Lib.hid hg
      have hgl : g < w4.heap.size := HPA.out g rfl (by rw [← HM.out]; omega)
      have HOI2 : Hid (Own ((wr.setCell ⟨g, k * 2, none⟩ (.int .i64 0)).setCell ⟨g, k * 2 + 1, none⟩ (.int .i64 0)) w4.heap.size (.slice pb q cb) I) := Lib.hid (ownI_same HOI.out (fun j hj => by
        rw [heap_setCell_other _ _ _ _ (by show j ≠ g; omega), heap_setCell_other _ _ _ _ (by show j ≠ g; omega)]))
      have HBL2 := Lib.hid ((HBL.out.setCell (p := ⟨g, k * 2, none⟩) hg (.int .i64 0)).setCell (p := ⟨g, k * 2 + 1, none⟩) hg (.int .i64 0))
      have HA2 : Hid ((A.set k (0, 0)).length = m) := Lib.hid (by rw [List.length_set]; exact HA.out)
      have hlt' : (k : Int) < (m : Int) := by omega
      clear ho2 HO e2 hg hgl HPA HOI HBL HA
      go_wp2_with fail
      go_roundw
      case rel => exact ⟨k + 1, A.set k (0, 0), by omega, congrArg _ (wrap_s HMX.out hlt), HA2.out, HO2.out, HOI2.out, HBL2.out⟩
      case measure =>
        rw [wrap_s HMX.out hlt]
        exact int_less hlt
    · have hlt' : ¬ (k : Int) < (m : Int) := by omega
      clear HA HO
      go_wp2_with fail
      go_loopw [12] (fun i wr => ∃ (k : Nat) (J : List Int), k ≤ q ∧ i = .int .i64 k ∧ J.length = q ∧ Own wr w4.heap.size (.slice pb q cb) J ∧ Below w3.heap.size w3 wr) (fun i _ => q - (intOf i).toNat)
      case atStart => exact ⟨0, I, Nat.zero_le _, rfl, HQ.out.symm, HOI.out, HBL.out⟩
      case round =>
        obtain ⟨k2, J, hk2, rfl, hJ, ho, hbel⟩ := hrel
        have HJ := Lib.hid hJ
        have HO := Lib.hid ho
        have HBL2 := Lib.hid hbel
        clear hJ ho hbel HOI HBL
        by_cases hlt2 : k2 < q
        · obtain ⟨g, cap, he, hg, _⟩ := own_form HO.out (by rw [HJ.out]; omega)
          injection he with e1 e2 e3
          subst e1 e3
          obtain ⟨c1, f1, s1⟩ := own_cell HO.out k2 J[k2]! (by rw [List.getElem?_eq_getElem (by rw [HJ.out]; exact hlt2)]; simp [HJ.out, hlt2])
          have HS2 := Lib.hid (s1 (-5))
          have HBL3 := Lib.hid (HBL2.out.setCell (p := ⟨g, k2, none⟩) (Nat.le_trans HS34.out hg) (.int .i64 (-5)))
          have HJ2 : Hid ((J.set k2 (-5)).length = q) := Lib.hid (by rw [List.length_set]; exact HJ.out)
          have hlt3 : (k2 : Int) < (q : Int) := by omega
          generalize J[k2]! = xx at c1
          clear s1 HO e2 hg HBL2 HJ
          go_wp2_with fail
          go_roundw
          case rel => exact ⟨k2 + 1, J.set k2 (-5), by omega, congrArg _ (wrap_s HQX.out hlt2), HJ2.out, HS2.out, HBL3.out⟩
          case measure =>
            rw [wrap_s HQX.out hlt2]
            exact int_less hlt2
        · have hlt3 : ¬ (k2 : Int) < (q : Int) := by omega
          have HX5 := Lib.hid (HX3.out.below HBL2.out)
          have HW5 := Lib.hid (HW3.out.below HBL2.out)
          have HB5 := Lib.hid (HB3.out.trans (HBL2.out.mono HB3.out.size))
          clear HJ HO HX3 HW3 HB3 HBL2
          go_wp2_with fail
          refine (least_nil _).mono ?_
          rintro e y1 ⟨rfl, hg⟩
          have HX6 := Lib.hid (HX5.out.below hg.below)
          have HW6 := Lib.hid (HW5.out.below hg.below)
          have HB6 := Lib.hid (HB5.out.trans (hg.below.mono HB5.out.size))
          clear hg HX5 HW5 HB5
          go_wp2_with fail
          refine (greatest_nil _).mono ?_
          rintro e y2 ⟨rfl, hg⟩
          have HX7 := Lib.hid (HX6.out.below hg.below)
          have HW7 := Lib.hid (HW6.out.below hg.below)
          have HB7 := Lib.hid (HB6.out.trans (hg.below.mono HB6.out.size))
          clear hg HX6 HW6 HB6
          go_wp2_with fail
          refine (HEN.out _ _ _ HX7.out).mono ?_
          rintro e y3 ⟨ue, rfl, ho, hb⟩
          have HX8 := Lib.hid (HX7.out.below hb)
          have HW8 := Lib.hid (HW7.out.below hb)
          have HB8 := Lib.hid (HB7.out.trans (hb.mono HB7.out.size))
          have HE8 := Lib.hid (own_entries ho)
          obtain ⟨pe, ce, rfl⟩ := (own_entries ho).form
          rw [← HM.out] at HE8 ⊢
          clear ho hb HX7 HW7 HB7
          go_wp2_with fail
          refine (HSM.out _ _ _ HE8.out HW8.out).mono ?_
          rintro e y4 ⟨rfl, hg⟩
          have HX9 := Lib.hid (HX8.out.below hg.below)
          have HW9 := Lib.hid (HW8.out.below hg.below)
          have HB9 := Lib.hid (HB8.out.trans (hg.below.mono HB8.out.size))
          clear hg HX8 HW8 HB8 HE8
          go_wp2_with fail
          refine (HBT.out _ _ _ HX9.out).mono ?_
          rintro e y5 ⟨uu, rfl, ho, hb⟩
          have HW10 := Lib.hid (HW9.out.below hb)
          have HB10 := Lib.hid (HB9.out.trans (hb.mono HB9.out.size))
          have HI10 := Lib.hid (Own.at ho)
          obtain ⟨pi, ci, rfl⟩ := (Own.at ho).form
          rw [← HQ.out] at HI10 ⊢
          clear ho hb HX9 HW9 HB9
          go_wp2_with fail
          refine (HRW.out _ _ HW10.out).mono ?_
          rintro e y6 ⟨uu, rfl, ho, hb⟩
          have HI11 := Lib.hid (HI10.out.below hb)
          have HB11 := Lib.hid (HB10.out.trans (hb.mono HB10.out.size))
          have HJ11 := Lib.hid (Own.at ho)
          obtain ⟨pj, cj, rfl⟩ := (Own.at ho).form
          rw [← HQ.out] at HJ11 ⊢
          clear ho hb HW10 HB10 HI10
          go_wp2_with fail
          refine (HIN.out _ _ _ HI11.out HJ11.out).mono ?_
          rintro e y7 ⟨rfl, hb⟩
          have HB12 := Lib.hid (HB11.out.trans (hb.mono HB11.out.size))
          clear hb HI11 HJ11 HB11
          go_wp2_with fail
          refine (between_nil _ _ _).mono ?_
          rintro e y8 ⟨p8, c8, rfl, hb⟩
          have HB13 := Lib.hid (HB12.out.trans (hb.mono HB12.out.size))
          clear hb HB12
          go_wp2_with fail
          refine (count_nil _ _ _).mono ?_
          rintro e y9 ⟨rfl, hg⟩
          have HB14 := Lib.hid (HB13.out.trans (hg.below.mono HB13.out.size))
          clear hg HB13
          go_wp2_with fail
          refine (len_none _).mono ?_
          rintro e y10 ⟨rfl, hg⟩
          have HB15 := Lib.hid (HB14.out.trans (hg.below.mono HB14.out.size))
          clear hg HB14
          go_wp2_with fail
          refine (entries_nil _).mono ?_
          rintro e y11 ⟨p11, c11, rfl, hb⟩
          have HB16 := Lib.hid (HB15.out.trans (hb.mono HB15.out.size))
          clear hb HB15
          go_wp2_with fail
          go_ret
          exact ⟨rfl, HB16.out⟩
end Rn
end Go.Proofs.Ytioidkbpjkcjeaa
