/- The walk of RangesAnswers. Conditions: those that each theorem names. -/
import Derived.Test.YtioidkbpjkcjeaaRnQ
namespace Go.Proofs.Ytioidkbpjkcjeaa
set_option linter.unusedVariables false
open Go Go.RowKit Go.Shelf Go.Sort Ids
namespace Rn
/-- A row of one's own, read without its last one. -/
theorem part_hs {w : World} {B g n cap : Nat} {l : List En} {x : En} (h : OwnH w B (.slice (some ⟨g, 0, none⟩) (n + 1) cap) (l ++ [x])) (hn : l.length = n) : HsAt w (.slice (some ⟨g, 0, none⟩) n cap) l := by
  rcases Nat.eq_zero_or_pos n with e | e
  · obtain rfl : l = [] := List.length_eq_zero_iff.1 (by omega)
    exact .inl ⟨rfl, _, _, by rw [e]⟩
  · have e2 : (l ++ [x]).length = n + 1 := by simp [hn]
    rw [← e2] at h
    have h2 := own_cut h (k := n) (by rw [e2]; omega) e
    have e3 : (l ++ [x]).take n = l := by rw [← hn]; simp
    rw [e3, hn] at h2
    exact own_entries h2
theorem ownH_cap {w : World} {B g n cap : Nat} {A : List En} (h : OwnH w B (.slice (some ⟨g, 0, none⟩) n cap) A) : A.length ≤ cap := by
  rcases h.2 with ⟨e, _⟩ | ⟨g', cap', cur, e, hb, hg, h1, h2, h3, h4⟩
  · cases e
  · injection e with e1 e2 e3
    rw [e3]; exact h1
/-- An own row's element, and the row behind a store there. -/
theorem ownH_put {w : World} {B g n cap : Nat} {A : List En} (h : OwnH w B (.slice (some ⟨g, 0, none⟩) n cap) A) (hn : A.length = n) {i : Nat} (hi : i < n) (x y : Int) :
    ∃ z : En, w.cell? ⟨g, i * 2, none⟩ = some (.int .i64 z.1) ∧ w.cell? ⟨g, i * 2 + 1, none⟩ = some (.int .i64 z.2) ∧ w.frozen? ⟨g, i * 2, none⟩ = false ∧ w.frozen? ⟨g, i * 2 + 1, none⟩ = false ∧
      OwnH ((w.setCell ⟨g, i * 2, none⟩ (.int .i64 x)).setCell ⟨g, i * 2 + 1, none⟩ (.int .i64 y)) B (.slice (some ⟨g, 0, none⟩) n cap) (A.set i (x, y)) := by
  subst hn
  obtain ⟨c0, c1⟩ := hCells_at A i hi
  exact ⟨A[i], (h.cellAt _ (by omega)).trans c0, (h.cellAt _ (by omega)).trans c1, h.frozenAt _, h.frozenAt _, own_set h i (x, y)⟩
theorem ownH_get {w : World} {B g n cap : Nat} {A : List En} (h : OwnH w B (.slice (some ⟨g, 0, none⟩) n cap) A) {i : Nat} {x : En} (hx : A[i]? = some x) :
    w.cell? ⟨g, i * 2, none⟩ = some (.int .i64 x.1) ∧ w.cell? ⟨g, i * 2 + 1, none⟩ = some (.int .i64 x.2) := by
  obtain ⟨hi, rfl⟩ := List.getElem?_eq_some_iff.1 hx
  obtain ⟨c0, c1⟩ := hCells_at A i hi
  have hn : n = A.length := by
    rcases h.2 with ⟨e, _⟩ | ⟨g', cap', cur, e, _⟩
    · cases e
    · injection e with e1 e2 e3
  subst hn
  exact ⟨(h.cellAt _ (by omega)).trans c0, (h.cellAt _ (by omega)).trans c1⟩
theorem own_none (w : World) (B : Nat) : OwnH w B (.slice none 0 0) [] := ⟨rfl, .inl ⟨rfl, rfl⟩⟩
/-- The ends of a row: none at all, or its first and its last. -/
theorem ends_fact (L : List En) {f zz : Int} {bb : Bool} {m : Nat} (hf : f = (L.head?.map (fun x => x.1)).getD 0) (hz : zz = lastN L) (hb : bb = !L.isEmpty) (hm : m = L.length) :
    (f = 0 ∧ zz = 0 ∧ bb = false ∧ m = 0) ∨ (bb = true ∧ ∃ r x y, m = r + 1 ∧ L[0]? = some x ∧ x.1 = f ∧ L[r]? = some y ∧ y.1 = zz) := by
  rcases List.eq_nil_or_concat L with e | ⟨A, y, e⟩
  · subst e; exact .inl ⟨hf, hz, hb, hm⟩
  · refine .inr ⟨by rw [hb, e]; simp, A.length, L[0]'(by rw [e]; simp), y, by rw [hm, e]; simp, List.getElem?_eq_getElem _, ?_, by rw [e]; simp, by rw [hz, e]; unfold lastN; simp⟩
    rw [hf]
    cases L with
    | nil => simp at e
    | cons a B => rfl
set_option maxHeartbeats 8000000 in
set_option maxRecDepth 100000 in
theorem answers_walk (v0 : Value) (l0 : List En) (low high : Int) (w : World) (wf0 : HsAt w v0 l0) (s0 : l0.length * 16 ≤ 140737488351232) (ok0 : ∀ y ∈ l0, OkH y) :
    Calls Try.prog 3 #[v0, .int .i64 low, .int .i64 high] w fun e w' => e = .returned (.bool true) ∧ Below w.heap.size w w' := by
  have HB := Lib.hid (fun (u : Value) (W : World) (h : HsAt W u l0) => build_any l0 u W h (by omega))
  have HRB := Lib.hid (fun (W : World) (h : HsAt W v0 l0) => rbuild_any l0 v0 W h (by omega))
  have hcl : (can l0).length ≤ l0.length := (can_fact l0).2.2
  have G : Good (can l0) := can_good (fun e he => (ok0 e he).ok) (by omega)
  have hc16 : (can l0).length * 16 + 16 ≤ 140737488355328 := by omega
  have HWF := Lib.hid wf0
  obtain ⟨L, hL⟩ : ∃ L, L = can l0 := ⟨_, rfl⟩
  rw [← hL] at G HB HRB hc16
  have HSL := Lib.hid (fun (u : Value) (W : World) (hu : HsAt W u l0) (hv : HsAt W v0 l0) => same_any l0 l0 u v0 W hu hv (by unfold maxLen; omega))
  have hdl : decide (l0 = l0) = true := decide_eq_true rfl
  rw [hdl] at HSL
  obtain ⟨p, c, rfl⟩ := wf0.form
  have HLE := Lib.hid (fun (B K : Nat) (W : World) (h : IxO W B K L) => least_any W h)
  have HGR := Lib.hid (fun (B K : Nat) (W : World) (h : IxO W B K L) => greatest_any W h (by have := G.len; omega))
  have HLN := Lib.hid (fun (B K : Nat) (W : World) (h : IxO W B K L) => len_any W h)
  have HEN := Lib.hid (fun (B K : Nat) (W : World) (h : IxO W B K L) => entries_any W h G.len)
  have HBT := Lib.hid (fun (B K : Nat) (W : World) (h : IxO W B K L) => between_any low high W h G)
  have HCT := Lib.hid (fun (B K : Nat) (W : World) (h : IxO W B K L) => count_any low high W h G)
  have HSM := Lib.hid (fun (u v : Value) (W : World) (hu : HsAt W u L) (hv : HsAt W v L) => same_any L L u v W hu hv (by have := G.len; unfold maxLen; omega))
  have hdd : decide (L = L) = true := decide_eq_true rfl
  rw [hdd] at HSM
  have HRW := Lib.hid (fun (u : Value) (W : World) (hu : HsAt W u L) => rbw_any L low high u W hu hc16)
  rw [bwL_is] at HRW
  have HRC := Lib.hid (fun (u : Value) (W : World) (hu : HsAt W u L) => rcount_any L low high u W hu (by omega))
  have hil : (idsE (seg low high L)).length ≤ maxLen := by have h1 := ids_lenQ (seg low high L); have h2 := seg_len low high L; have h3 := G.len; unfold maxLen; omega
  have HIN := Lib.hid (fun (u v : Value) (W : World) (hu : IntsAt W u (idsE (seg low high L))) (hv : IntsAt W v (idsE (seg low high L))) => ints_any _ _ u v W hu hv hil hil)
  have hee : eqB (idsE (seg low high L)) (idsE (seg low high L)) = true := eqB_same _
  rw [hee] at HIN
  generalize idsE (seg low high L) = I at *
  obtain ⟨cn, hcn⟩ : ∃ cn, cn = (seg low high L).length := ⟨_, rfl⟩
  rw [← hcn] at HCT HRC
  have hcc : ((cn : Int) == (cn : Int)) = true := by simp
  obtain ⟨m, hm⟩ : ∃ m, m = L.length := ⟨_, rfl⟩
  obtain ⟨q, hq⟩ : ∃ q, q = I.length := ⟨_, rfl⟩
  have hmm : ((m : Int) == (m : Int)) = true := by simp
  rw [← hm] at HLN
  obtain ⟨f, hf⟩ : ∃ f, f = (L.head?.map (fun x => x.1)).getD 0 := ⟨_, rfl⟩
  obtain ⟨zz, hz⟩ : ∃ zz, zz = lastN L := ⟨_, rfl⟩
  obtain ⟨bb, hbb0⟩ : ∃ bb, bb = !L.isEmpty := ⟨_, rfl⟩
  rw [← hf, ← hbb0] at HLE
  rw [← hz, ← hbb0] at HGR
  have HFZ := Lib.hid (ends_fact L hf hz hbb0 hm)
  clear hf hz hbb0
  have HM := Lib.hid hm
  have HQ := Lib.hid hq
  have HMX : Hid (m ≤ maxLen) := Lib.hid (by unfold maxLen; omega)
  obtain ⟨n0, hn0⟩ : ∃ n0, n0 = l0.length := ⟨_, rfl⟩
  have HN := Lib.hid hn0
  have HNX : Hid (n0 * 16 ≤ 140737488351232) := Lib.hid (by omega)
  rw [← hn0] at HRB HWF HSL ⊢
  clear hL wf0 s0 ok0 hdd hdl hee G hcl hc16 hil hm hq hn0 hcn
  obtain ⟨va, wa, hra, hoa, hga⟩ := append_all (own_none w w.heap.size) HWF.out (by have := HNX.out; have := HN.out; simp; omega) (Nat.le_refl _)
  have hba := grown_below (own_none w w.heap.size) hga (Nat.le_refl _)
  rw [List.nil_append] at hoa
  obtain ⟨vb, wb, hrb, hob, hbb⟩ := append_new (-77, 0) hoa (by have := HNX.out; have := HN.out; omega) hba.size
  obtain ⟨g, cap, rfl, hg0, hg1⟩ := ownH_form hob (by simp)
  have hll : (l0 ++ [((-77 : Int), (0 : Int))]).length = n0 + 1 := by rw [HN.out]; simp
  rw [hll] at hob hrb
  have HOB := Lib.hid hob
  have HBB := Lib.hid (hba.trans hbb)
  have hcap : n0 ≤ cap := by have := ownH_cap hob; simp at this; have := HN.out; omega
  have HGL := Lib.hid hg1
  have HG0 := Lib.hid hg0
  have HG1 := Lib.hid (part_hs hob HN.out.symm)
  obtain ⟨n1, hn1⟩ : ∃ n1, n1 = n0 + 1 := ⟨_, rfl⟩
  rw [← hn1] at HOB hrb
  have HN1 := Lib.hid hn1
  have hlt : (n0 : Int) < (n1 : Int) := by omega
  clear hoa hga hba hob hbb hll hg0 hg1 hn1
  go_enter Try.func3, Try.ntmps3
  go_wp2_with (first | (at_builtin; refine wpList_append_run rfl _ _ _ _ rfl _ _ _ _ rfl rfl hra ?_) | (at_builtin; refine wpList_append_run rfl _ _ _ _ rfl _ _ _ _ rfl rfl hrb ?_))
  refine (HB.out _ _ HG1.out).mono ?_
  rintro e w1 ⟨K, rfl, hx, hb⟩
  have HX1 := Lib.hid hx
  have HB1 := Lib.hid (HBB.out.trans (hb.mono HBB.out.size))
  have HW1 := Lib.hid hb
  clear hx hb HB hra hrb
  go_wp2_with fail
  refine (HRB.out _ (HWF.out.below HB1.out)).mono ?_
  rintro e w2 ⟨uw, rfl, ho, hb⟩
  have HX2 := Lib.hid (HX1.out.below hb)
  have HB2 := Lib.hid (HB1.out.trans (hb.mono HB1.out.size))
  have HW2 := Lib.hid (HW1.out.trans (hb.mono HW1.out.size))
  obtain ⟨pw, cw, rfl⟩ := (own_entries ho).form
  have HWO2 := Lib.hid ho
  rw [← HM.out]
  clear ho hb HX1 HB1 HRB
  go_wp2_with fail
  refine (HSL.out _ _ (HG1.out.below HW2.out) (HWF.out.below HB2.out)).mono ?_
  rintro e w3 ⟨rfl, hg⟩
  have HX3 := Lib.hid (HX2.out.below hg.below)
  have HB3 := Lib.hid (HB2.out.trans (hg.below.mono HB2.out.size))
  have HWO3 := Lib.hid (own_below HWO2.out hg.below)
  have HW3 := Lib.hid (HW2.out.trans (hg.below.mono HW2.out.size))
  have HOB3 := Lib.hid (own_below HOB.out HW3.out)
  have HS1 := Lib.hid (HW1.out.size)
  have hat : (l0 ++ [((-77 : Int), (0 : Int))])[n0]? = some (-77, 0) := by rw [HN.out]; simp
  obtain ⟨a0, a1⟩ := ownH_get HOB3.out hat
  have HL3 : Hid ((l0 ++ [((-77 : Int), (0 : Int))]).length = n1) := Lib.hid (by rw [HN1.out, HN.out]; simp)
  clear hg hat HX2 HB2 HWO2 HW2 HOB HW1 HG1 HBB
  go_wp2_with fail
  go_loopw [10] (fun i wr => ∃ (k : Nat) (A : List En), k ≤ n0 ∧ i = .int .i64 k ∧ A.length = n1 ∧ OwnH wr w.heap.size (.slice (some ⟨g, 0, none⟩) n1 cap) A ∧ Below w.heap.size w wr ∧ (∀ j, j ≠ g → wr.heap[j]? = w3.heap[j]?)) (fun i _ => n0 - (intOf i).toNat)
  case atStart => exact ⟨0, _, Nat.zero_le _, rfl, HL3.out, HOB3.out, HB3.out, fun _ _ => rfl⟩
  case round =>
    obtain ⟨k, A, hk, rfl, hA, ho, hbel, hs⟩ := hrel
    have HA := Lib.hid hA
    have HO := Lib.hid ho
    have HBL := Lib.hid hbel
    have HS := Lib.hid hs
    clear hA ho hbel hs HOB3 HL3 HB3
    by_cases hl : k < n0
    · obtain ⟨z, c0, c1, f0, f1, ho2⟩ := ownH_put HO.out HA.out (i := k) (by have := HN1.out; omega) 78 78
      have HO2 := Lib.hid ho2
      have HBL2 := Lib.hid ((HBL.out.setCell (p := ⟨g, k * 2, none⟩) HG0.out (.int .i64 78)).setCell (p := ⟨g, k * 2 + 1, none⟩) HG0.out (.int .i64 78))
      have HS2 : Hid (∀ j, j ≠ g → ((wr.setCell ⟨g, k * 2, none⟩ (.int .i64 78)).setCell ⟨g, k * 2 + 1, none⟩ (.int .i64 78)).heap[j]? = w3.heap[j]?) := Lib.hid (fun j hj => by
        rw [heap_setCell_other _ _ _ _ hj, heap_setCell_other _ _ _ _ hj]; exact HS.out j hj)
      have HA2 : Hid ((A.set k (78, 78)).length = n1) := Lib.hid (by rw [List.length_set]; exact HA.out)
      have HNM : Hid (n0 ≤ maxLen) := Lib.hid (by have := HNX.out; unfold maxLen; omega)
      have hlt2 : (k : Int) < (n0 : Int) := by omega
      have hlt3 : (k : Int) < (n1 : Int) := by have := HN1.out; omega
      clear ho2 HO HBL HA HS hcap hlt
      go_wp2_with fail
      go_roundw
      case rel => exact ⟨k + 1, A.set k (78, 78), by omega, congrArg _ (wrap_s HNM.out hl), HA2.out, HO2.out, HBL2.out, HS2.out⟩
      case measure =>
        rw [wrap_s HNM.out hl]
        exact int_less hl
    · have hlt2 : ¬ (k : Int) < (n0 : Int) := by omega
      have HX4 := Lib.hid (HX3.out.same (fun j hj => HS.out j (by have := HGL.out; omega)))
      have HW4 := Lib.hid (own_same HWO3.out (fun j hj => HS.out j (by have := HGL.out; have := HS1.out; omega)))
      clear HX3 HWO3 HS HA HO hcap hlt
      go_wp2_with fail
      refine (HLE.out _ _ _ HX4.out).mono ?_
      rintro e y1 ⟨rfl, hg⟩
      have HX5 := Lib.hid (HX4.out.below hg.below)
      have HW5 := Lib.hid (own_below HW4.out hg.below)
      have HB5 := Lib.hid (HBL.out.trans (hg.below.mono HBL.out.size))
      clear hg HX4 HW4 HBL HLE
      go_wp2_with fail
      refine (HGR.out _ _ _ HX5.out).mono ?_
      rintro e y2 ⟨rfl, hg⟩
      have HX6 := Lib.hid (HX5.out.below hg.below)
      have HW6 := Lib.hid (own_below HW5.out hg.below)
      have HB6 := Lib.hid (HB5.out.trans (hg.below.mono HB5.out.size))
      clear hg HX5 HW5 HB5 HGR
      rcases HFZ.out with ⟨rfl, rfl, rfl, rfl⟩ | ⟨rfl, r, x, y, hm1, hx, rfl, hy, rfl⟩
      · have HE6 := Lib.hid (own_entries HW6.out)
        clear HFZ HW6
        go_wp2_with fail
        refine (HEN.out _ _ _ HX6.out).mono ?_
        rintro e y3 ⟨ue, rfl, ho, hb⟩
        have HX7 := Lib.hid (HX6.out.below hb)
        have HW7 := Lib.hid (HE6.out.below hb)
        have HB7 := Lib.hid (HB6.out.trans (hb.mono HB6.out.size))
        have HE7 := Lib.hid (own_entries ho)
        obtain ⟨pe, ce, rfl⟩ := (own_entries ho).form
        rw [← HM.out] at HE7 HW7 ⊢
        clear ho hb HX6 HE6 HB6 HEN
        go_wp2_with fail
        refine (HSM.out _ _ _ HE7.out HW7.out).mono ?_
        rintro e y4 ⟨rfl, hg⟩
        have HX8 := Lib.hid (HX7.out.below hg.below)
        have HW8 := Lib.hid (HW7.out.below hg.below)
        have HB8 := Lib.hid (HB7.out.trans (hg.below.mono HB7.out.size))
        clear hg HX7 HW7 HB7 HE7 HSM
        go_wp2_with fail
        refine (HLN.out _ _ _ HX8.out).mono ?_
        rintro e y5 ⟨rfl, hg⟩
        have HX9 := Lib.hid (HX8.out.below hg.below)
        have HW9 := Lib.hid (HW8.out.below hg.below)
        have HB9 := Lib.hid (HB8.out.trans (hg.below.mono HB8.out.size))
        clear hg HX8 HW8 HB8 HLN
        go_wp2_with fail
        refine (HBT.out _ _ _ HX9.out).mono ?_
        rintro e y6 ⟨uu, rfl, ho, hb⟩
        have HX10 := Lib.hid (HX9.out.below hb)
        have HW10 := Lib.hid (HW9.out.below hb)
        have HB10 := Lib.hid (HB9.out.trans (hb.mono HB9.out.size))
        have HI10 := Lib.hid (Own.at ho)
        obtain ⟨pi, ci, rfl⟩ := (Own.at ho).form
        rw [← HQ.out] at HI10 ⊢
        clear ho hb HX9 HW9 HB9 HBT
        go_wp2_with fail
        refine (HRW.out _ _ HW10.out).mono ?_
        rintro e y7 ⟨uu, rfl, ho, hb⟩
        have HX11 := Lib.hid (HX10.out.below hb)
        have HW11 := Lib.hid (HW10.out.below hb)
        have HI11 := Lib.hid (HI10.out.below hb)
        have HB11 := Lib.hid (HB10.out.trans (hb.mono HB10.out.size))
        have HJ11 := Lib.hid (Own.at ho)
        obtain ⟨pj, cj, rfl⟩ := (Own.at ho).form
        rw [← HQ.out] at HJ11 ⊢
        clear ho hb HX10 HW10 HB10 HI10 HRW
        go_wp2_with fail
        refine (HIN.out _ _ _ HI11.out HJ11.out).mono ?_
        rintro e y8 ⟨rfl, hb⟩
        have HX12 := Lib.hid (HX11.out.below hb)
        have HW12 := Lib.hid (HW11.out.below hb)
        have HB12 := Lib.hid (HB11.out.trans (hb.mono HB11.out.size))
        clear hb HI11 HJ11 HB11 HX11 HW11 HIN
        go_wp2_with fail
        refine (HCT.out _ _ _ HX12.out).mono ?_
        rintro e y9 ⟨rfl, hg⟩
        have HW13 := Lib.hid (HW12.out.below hg.below)
        have HB13 := Lib.hid (HB12.out.trans (hg.below.mono HB12.out.size))
        clear hg HX12 HW12 HB12 HCT
        go_wp2_with fail
        refine (HRC.out _ _ HW13.out).mono ?_
        rintro e y10 ⟨rfl, rfl⟩
        clear HW13 HRC
        go_wp2_with fail
        refine (awake_yes _).mono ?_
        rintro e y11 ⟨rfl, hb⟩
        have HB14 := Lib.hid (HB13.out.trans (hb.mono HB13.out.size))
        clear hb HB13
        go_wp2_with fail
        go_ret
        exact ⟨by first | rfl | simp, HB14.out⟩
      · obtain ⟨gw, cw', he, _, _⟩ := ownH_form HW6.out (by rw [← HM.out]; omega)
        injection he with e1 e2 e3
        subst e1 e3
        obtain ⟨a0, a1⟩ := ownH_get HW6.out hx
        obtain ⟨b0, b1⟩ := ownH_get HW6.out hy
        rw [Nat.zero_mul] at a0 a1
        have HE6 := Lib.hid (own_entries HW6.out)
        have hr1 : wrap64 ((m : Int) - 1) = (r : Int) := by have := HMX.out; unfold maxLen at this; unfold wrap64; omega
        have hr2 : IntKind.i64.wrap ((m : Int) - 1) = (r : Int) := by rw [IntKind.wrap_i64]; have := HMX.out; unfold maxLen at this; omega
        have hr3 : (r : Int) < (m : Int) := by omega
        have hm2 : (0 : Int) < (m : Int) := by omega
        generalize x.1 = f at *
        generalize y.1 = zz at *
        generalize x.2 = f2 at *
        generalize y.2 = z2 at *
        clear HFZ HW6 hx hy hm1 e2
        go_wp2_with fail
        refine (HEN.out _ _ _ HX6.out).mono ?_
        rintro e y3 ⟨ue, rfl, ho, hb⟩
        have HX7 := Lib.hid (HX6.out.below hb)
        have HW7 := Lib.hid (HE6.out.below hb)
        have HB7 := Lib.hid (HB6.out.trans (hb.mono HB6.out.size))
        have HE7 := Lib.hid (own_entries ho)
        obtain ⟨pe, ce, rfl⟩ := (own_entries ho).form
        rw [← HM.out] at HE7 HW7 ⊢
        clear ho hb HX6 HE6 HB6 HEN
        go_wp2_with fail
        refine (HSM.out _ _ _ HE7.out HW7.out).mono ?_
        rintro e y4 ⟨rfl, hg⟩
        have HX8 := Lib.hid (HX7.out.below hg.below)
        have HW8 := Lib.hid (HW7.out.below hg.below)
        have HB8 := Lib.hid (HB7.out.trans (hg.below.mono HB7.out.size))
        clear hg HX7 HW7 HB7 HE7 HSM
        go_wp2_with fail
        refine (HLN.out _ _ _ HX8.out).mono ?_
        rintro e y5 ⟨rfl, hg⟩
        have HX9 := Lib.hid (HX8.out.below hg.below)
        have HW9 := Lib.hid (HW8.out.below hg.below)
        have HB9 := Lib.hid (HB8.out.trans (hg.below.mono HB8.out.size))
        clear hg HX8 HW8 HB8 HLN
        go_wp2_with fail
        refine (HBT.out _ _ _ HX9.out).mono ?_
        rintro e y6 ⟨uu, rfl, ho, hb⟩
        have HX10 := Lib.hid (HX9.out.below hb)
        have HW10 := Lib.hid (HW9.out.below hb)
        have HB10 := Lib.hid (HB9.out.trans (hb.mono HB9.out.size))
        have HI10 := Lib.hid (Own.at ho)
        obtain ⟨pi, ci, rfl⟩ := (Own.at ho).form
        rw [← HQ.out] at HI10 ⊢
        clear ho hb HX9 HW9 HB9 HBT
        go_wp2_with fail
        refine (HRW.out _ _ HW10.out).mono ?_
        rintro e y7 ⟨uu, rfl, ho, hb⟩
        have HX11 := Lib.hid (HX10.out.below hb)
        have HW11 := Lib.hid (HW10.out.below hb)
        have HI11 := Lib.hid (HI10.out.below hb)
        have HB11 := Lib.hid (HB10.out.trans (hb.mono HB10.out.size))
        have HJ11 := Lib.hid (Own.at ho)
        obtain ⟨pj, cj, rfl⟩ := (Own.at ho).form
        rw [← HQ.out] at HJ11 ⊢
        clear ho hb HX10 HW10 HB10 HI10 HRW
        go_wp2_with fail
        refine (HIN.out _ _ _ HI11.out HJ11.out).mono ?_
        rintro e y8 ⟨rfl, hb⟩
        have HX12 := Lib.hid (HX11.out.below hb)
        have HW12 := Lib.hid (HW11.out.below hb)
        have HB12 := Lib.hid (HB11.out.trans (hb.mono HB11.out.size))
        clear hb HI11 HJ11 HB11 HX11 HW11 HIN
        go_wp2_with fail
        refine (HCT.out _ _ _ HX12.out).mono ?_
        rintro e y9 ⟨rfl, hg⟩
        have HW13 := Lib.hid (HW12.out.below hg.below)
        have HB13 := Lib.hid (HB12.out.trans (hg.below.mono HB12.out.size))
        clear hg HX12 HW12 HB12 HCT
        go_wp2_with fail
        refine (HRC.out _ _ HW13.out).mono ?_
        rintro e y10 ⟨rfl, rfl⟩
        clear HW13 HRC
        go_wp2_with fail
        refine (awake_yes _).mono ?_
        rintro e y11 ⟨rfl, hb⟩
        have HB14 := Lib.hid (HB13.out.trans (hb.mono HB13.out.size))
        clear hb HB13
        go_wp2_with fail
        go_ret
        exact ⟨by first | rfl | simp, HB14.out⟩
end Rn
end Go.Proofs.Ytioidkbpjkcjeaa
