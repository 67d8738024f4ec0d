/- The walk of the law WordsBuilds over the program. Conditions: those that each theorem names. -/
import Derived.Test.YtkmfkgjkgnlfnaaWdSp
namespace Go.Proofs.Ytkmfkgjkgnlfnaa
set_option linter.unusedVariables false
namespace Wd
open Go Go.RowKit Go.Shelf Go.Sort Go.Maps Pq Pq.Pl Rk Ids
/-- The rows of ids and values that the index and the document's answer both have. -/
structure SameR (R RL : List (Rw Val)) : Prop where
  find : ∀ v, findL R v = findL RL v
  any : anyL R = anyL RL
  vals : valsL ltV R = valsL ltV RL
/-- Ids in a row of one's own, written over. -/
def AsW (w5 w6 w7 : World) (pa : Option Addr) (n ca : Nat) (wx : World) : Prop := (∃ L : List Int, L.length = n ∧ Go.Proofs.Ytkmfkgjkgnlfnaa.Own wx w5.heap.size (.slice pa n ca) L) ∧ (∀ g, w6.heap.size ≤ g → wx.heap[g]? = w7.heap[g]?) ∧ w7.heap.size ≤ wx.heap.size ∧ Below w5.heap.size w5 wx
theorem as_next {w5 w6 w7 wx : World} {pa : Option Addr} {n ca k : Nat} {A : List Int} (ho : Go.Proofs.Ytkmfkgjkgnlfnaa.Own w6 w5.heap.size (.slice pa n ca) A) (h : AsW w5 w6 w7 pa n ca wx) (hk : k < n) :
    ∃ g, pa = some ⟨g, 0, none⟩ ∧ (∃ x, wx.cell? ⟨g, k, none⟩ = some x) ∧ wx.frozen? ⟨g, k, none⟩ = false ∧ AsW w5 w6 w7 (some ⟨g, 0, none⟩) n ca (wx.setCell ⟨g, k, none⟩ (.int .i64 (-77))) := by
  obtain ⟨⟨L, hl, h1⟩, h2, h3, h4⟩ := h
  obtain ⟨g, cap, e, hg, _⟩ := Go.Proofs.Ytkmfkgjkgnlfnaa.own_form h1 (by omega)
  injection e with e1 e2 e3
  subst e1
  obtain ⟨c1, c2, c3⟩ := Go.Proofs.Ytkmfkgjkgnlfnaa.own_cell h1 k L[k] (List.getElem?_eq_getElem (by omega))
  have hg6 := (ho.block g rfl).2
  exact ⟨g, rfl, ⟨_, c1⟩, c2, ⟨_, by simpa using hl, c3 (-77)⟩, fun b hb => (set_ne (by omega)).trans (h2 b hb), by rw [show (wx.setCell ⟨g, k, none⟩ (.int .i64 (-77))).heap.size = wx.heap.size by simp [World.setCell]]; exact h3, h4.setCell (p := ⟨g, k, none⟩) hg _⟩
theorem vs_next {w6 wx : World} {pb : Option Addr} {n cb k : Nat} {L : List Val} (hl : L.length = n) (h : OwnV wx w6.heap.size (.slice pb n cb) L) (hk : k < n) :
    ∃ g, pb = some ⟨g, 0, none⟩ ∧ ((∃ x, wx.cell? ⟨g, k * 3, none⟩ = some x) ∧ wx.frozen? ⟨g, k * 3, none⟩ = false) ∧ ((∃ x, wx.cell? ⟨g, k * 3 + 1, none⟩ = some x) ∧ wx.frozen? ⟨g, k * 3 + 1, none⟩ = false) ∧ ((∃ x, wx.cell? ⟨g, k * 3 + 2, none⟩ = some x) ∧ wx.frozen? ⟨g, k * 3 + 2, none⟩ = false) ∧
      OwnV (((wx.setCell ⟨g, k * 3, none⟩ (.int .i64 0)).setCell ⟨g, k * 3 + 1, none⟩ (.int .i64 0)).setCell ⟨g, k * 3 + 2, none⟩ (.string ⟨#[]⟩)) w6.heap.size (.slice (some ⟨g, 0, none⟩) n cb) (L.set k ⟨0, 0, ⟨#[]⟩⟩) := by
  subst hl
  obtain ⟨g, cap, e, hg, _⟩ := Rk.own_form h (by omega)
  injection e with e1 e2 e3
  subst e1
  obtain ⟨a0, b0⟩ := Rk.own_cell flatV h k hk (i := 0) rfl
  obtain ⟨a1, b1⟩ := Rk.own_cell flatV h k hk (i := 1) rfl
  obtain ⟨a2, b2⟩ := Rk.own_cell flatV h k hk (i := 2) rfl
  exact ⟨g, rfl, ⟨⟨_, a0⟩, b0⟩, ⟨⟨_, a1⟩, b1⟩, ⟨⟨_, a2⟩, b2⟩, own_set flatV h k hk ⟨0, 0, ⟨#[]⟩⟩⟩
set_option maxHeartbeats 8000000 in
set_option maxRecDepth 100000 in
theorem builds_any (v0 : Value) (l0 : List Pt) (a1 : Nm) (x2 : Val) (w : World) (wf0 : PtsAt w v0 l0) (s0 : OkA l0) (o2 : OkV x2) :
    Calls Try.prog 3 #[v0, .string a1, vv x2] w fun e w' => e = .returned (.bool true) ∧ Below w.heap.size w w' := by
  obtain ⟨Z, hrow, rfl, hgood⟩ := pts_pairs wf0
  have HS0 := Lib.hid s0
  have HO2 := Lib.hid o2
  have HZL : Hid (Z.length * 56 ≤ 140737488351232) := Lib.hid (by have := s0.len; simpa [ptsZ] using this)
  have HB0 := Lib.hid (Rk.fresh_alloc w (vobj x2))
  have HV : Hid (∀ W : World, Below (w.heap.size + 1) (w.alloc (vobj x2)) W → W.cell? ⟨w.heap.size, 0, none⟩ = some (.int .i64 x2.kind) ∧ W.cell? ⟨w.heap.size, 1, none⟩ = some (.int .i64 x2.n) ∧ W.cell? ⟨w.heap.size, 2, none⟩ = some (.string x2.text)) := Lib.hid (fun W hW => cells3_of ((hW.block w.heap.size (by omega)).trans (Pq.heap_last w (vobj x2))))
  have HSZ : Hid ((w.alloc (vobj x2)).heap.size = w.heap.size + 1) := Lib.hid (by simp)
  have HWF := Lib.hid wf0
  have HTW := Lib.hid (twin_any v0 Z (w.alloc (vobj x2)) (hrow.below HB0.out) (fun z hz => (hgood z hz).below HB0.out) s0)
  obtain ⟨p0, c0, rfl⟩ : ∃ p c, v0 = .slice p Z.length c := by have := hrow.form; rwa [rowsZ_len] at this
  clear wf0 s0 o2 hrow hgood
  go_enter Try.func3, Try.ntmps3
  go_wp2_with fail
  generalize w.alloc (vobj x2) = wA at *
  refine HTW.out.mono ?_
  rintro e w1 ⟨vm, rfl, htw⟩
  obtain ⟨M, hM, hom, hb1, hel⟩ := htw
  rw [List.take_length] at hM
  obtain ⟨pm, cm, rfl⟩ := ownP_form hom
  have HOM := Lib.hid hom
  have HB1 := Lib.hid hb1
  have HEL := Lib.hid hel
  have HML : Hid (M.length = Z.length) := Lib.hid (by have := congrArg List.length hM; simpa [ptsZ] using this)
  have HLM : Hid (M.length ≤ maxLen) := Lib.hid (by have := HML.out; have := HZL.out; unfold maxLen; omega)
  have HBU := Lib.hid (build_any (ptsZ M) _ a1 w1 (tw_pts hom hel) (by rw [hM]; have := HS0.out.len; omega) (by rw [hM]; exact HS0.out.ok))
  rw [hM] at HBU
  have HFL : Hid (∀ z ∈ M, z.2.flds.length ≤ maxLen) := Lib.hid (fun z hz => by
    have h1 : z.2 ∈ ptsZ Z := by rw [← hM]; exact List.mem_map.2 ⟨z, hz, rfl⟩
    have := HS0.out.flen _ h1
    unfold maxLen
    omega)
  clear hM hom hb1 hel
  go_wp2_with fail
  refine HBU.out.mono ?_
  rintro e w2 ⟨B, R, rfl, hix, hmr, hb2⟩
  have HIX := Lib.hid hix
  have HB2 := Lib.hid hb2
  have HSR : Hid (SameR R (rowsL (rlOf (ptsZ Z) a1))) := Lib.hid (by
    obtain ⟨h1, h2, h3⟩ := same_rows ordV (R := R) (S := rowsL (rlOf (ptsZ Z) a1)) hmr
    exact ⟨h1, h2, h3⟩)
  have HRLL : Hid ((rowsL (rlOf (ptsZ Z) a1)).length * 48 ≤ 140737488355328) := Lib.hid (by
    have h1 := rowsL_length (rlOf (ptsZ Z) a1)
    have h2 : (rlOf (ptsZ Z) a1).length = Z.length := by simp [rlOf, ptsZ]
    have := HZL.out
    omega)
  have HBA2 : Hid (Below w.heap.size w w2) := Lib.hid (by
    have b := HB0.out.trans ((HB1.out.mono (by have := HSZ.out; omega)))
    exact b.trans (hb2.mono b.size))
  have HRR := Lib.hid (rrows_any (ptsZ Z) _ a1 w2 (HWF.out.below HBA2.out) (by have := HS0.out.len; omega) (fun p hp => (HS0.out.ok p hp).flds))
  clear hix hmr hb2
  go_wp2_with fail
  refine HRR.out.mono ?_
  rintro e w3 ⟨ur, rfl, hor, hb3⟩
  obtain ⟨pr, cr, rfl⟩ := (own_row flatR hor).form
  have HOR := Lib.hid hor
  have HB13 : Hid (Below w1.heap.size w1 w3) := Lib.hid (HB2.out.trans (hb3.mono HB2.out.size))
  have HIX3 := Lib.hid (HIX.out.below hb3)
  have HB12 := Lib.hid HB2.out.size
  have HSP := Lib.hid (sp_start HOM.out HB1.out HEL.out HB13.out)
  generalize rowsL (rlOf (ptsZ Z) a1) = RL at *
  clear hor hb3
  go_wp2_with fail
  go_loopw [10] (fun i wr => ∃ k : Nat, k ≤ M.length ∧ i = .int .i64 k ∧ SpW wA w3 w1.heap.size M (.slice pm M.length cm) wr) (fun i _ => M.length - (RowKit.intOf i).toNat)
  case atStart => exact ⟨0, Nat.zero_le _, rfl, HSP.out⟩
  case round =>
    obtain ⟨k, hk, rfl, hsp⟩ := hrel
    have HS := Lib.hid hsp
    obtain ⟨wo, rfl⟩ : ∃ wo : World, wo = wr := ⟨_, rfl⟩
    by_cases hlt : k < M.length
    · obtain ⟨g0, c, ev, g1, g2, hr, hf, hfl⟩ := hsp.row (by omega)
      injection ev with ev1 ev2 ev3
      subst ev1
      obtain ⟨u0, e0⟩ := hr.cell (i := k * 3) (by omega)
      have z0 := hr.soft (k * 3)
      have HS1 : Hid (SpW wA w3 w1.heap.size M (.slice (some ⟨g0, 0, none⟩) M.length cm) (wo.setCell ⟨g0, k * 3, none⟩ (.int .i64 (-77)))) := Lib.hid (hsp.set _ g1 g2 fun _ _ _ => .inr fun j => by omega)
      have hklt : (k : Int) < (M.length : Int) := by omega
      obtain ⟨fp, fc, hfm⟩ := hsp.form k hlt
      have HFM := Lib.hid hfm
      have HFR : Hid (∀ W, SpW wA w3 w1.heap.size M (.slice (some ⟨g0, 0, none⟩) M.length cm) W → W.cell? ⟨g0, k * 3 + 2, none⟩ = some (.slice fp (M[k]).2.flds.length fc)) := Lib.hid (fun W hW => by
        obtain ⟨g0', c', ev', _, _, _, hf', _⟩ := hW.row (by omega)
        injection ev' with e1 _ _
        injection e1 with e1
        injection e1 with e1 _
        subst e1
        rw [hf' k hlt, hfm])
      have HFI : Hid (0 < (M[k]).2.flds.length → ∃ g, fp = some ⟨g, 0, none⟩ ∧ g ≠ g0 ∧ wA.heap.size ≤ g ∧ g < w1.heap.size ∧ ∀ W, SpW wA w3 w1.heap.size M (.slice (some ⟨g0, 0, none⟩) M.length cm) W → Rect W g ((M[k]).2.flds.length * 4)) := Lib.hid (fun hl => by
        obtain ⟨g, c', e', _, n', l', t'⟩ := hfl k hlt hl
        rw [hfm] at e'
        injection e' with e1 _ _
        refine ⟨g, e1, n', l', t', fun W hW => ?_⟩
        obtain ⟨g0', c'', ev', _, _, _, _, hfl'⟩ := hW.row (by omega)
        obtain ⟨g2, c2, e2, r2, _⟩ := hfl' k hlt hl
        rw [hfm] at e2
        injection e2 with e3 _ _
        rw [e1] at e3
        injection e3 with e3
        injection e3 with e3 _
        subst e3
        exact r2)
      have HFN : Hid ((M[k]).2.flds.length ≤ maxLen) := Lib.hid (HFL.out _ (List.getElem_mem hlt))
      generalize (M[k]).2.flds.length = n at *
      clear hsp hf hfl hr g1 g2 ev2 ev3 hfm
      go_wp2_with fail
      clear e0 z0
      generalize wo.setCell ⟨g0, k * 3, none⟩ (.int .i64 (-77)) = wi at *
      go_loopw [11] (fun i wr => ∃ q : Nat, q ≤ n ∧ i = .int .i64 q ∧ SpW wA w3 w1.heap.size M (.slice (some ⟨g0, 0, none⟩) M.length cm) wr) (fun i _ => n - (RowKit.intOf i).toNat)
      case atStart => exact ⟨0, Nat.zero_le _, rfl, HS1.out⟩
      case round =>
        obtain ⟨q, hq, rfl, hsq⟩ := hrel
        have HSQ := Lib.hid hsq
        have f0 := HFR.out _ hsq
        by_cases hlq : q < n
        · obtain ⟨g, rfl, gne, gl, gt, hrc⟩ := HFI.out (by omega)
          have hrg := hrc _ hsq
          obtain ⟨u1, e1⟩ := hrg.cell (i := q * 4 + 1) (by omega)
          obtain ⟨u2, e2⟩ := hrg.cell (i := q * 4 + 2) (by omega)
          obtain ⟨u3, e3⟩ := hrg.cell (i := q * 4 + 3) (by omega)
          have z1 := hrg.soft (q * 4 + 1)
          have z2 := hrg.soft (q * 4 + 2)
          have z3 := hrg.soft (q * 4 + 3)
          have hql : (q : Int) < (n : Int) := by omega
          have HNX := Lib.hid (((hsq.set (g := g) (i := q * 4 + 1) (.int .i64 0) gl gt (fun _ _ e => .inl (by injection e with e _ _; injection e with e; injection e with e _; omega))).set (g := g) (i := q * 4 + 2) (.int .i64 0) gl gt (fun _ _ e => .inl (by injection e with e _ _; injection e with e; injection e with e _; omega))).set (g := g) (i := q * 4 + 3) (.string ⟨#[]⟩) gl gt (fun _ _ e => .inl (by injection e with e _ _; injection e with e; injection e with e _; omega)))
          clear hsq hrg hrc gl gt
          go_wp2_with fail
          go_roundw
          case rel => exact ⟨q + 1, by omega, congrArg _ (wrap_s HFN.out hlq), HNX.out⟩
          case measure =>
            rw [wrap_s HFN.out hlq]
            exact int_lessV hlq
        · obtain rfl : q = n := by omega
          clear hsq
          go_wp2_with fail
          go_roundw
          case rel => exact ⟨k + 1, by omega, congrArg _ (wrap_s HLM.out hlt), HSQ.out⟩
          case measure =>
            rw [wrap_s HLM.out hlt]
            exact int_lessV hlt
    · obtain rfl : k = M.length := by omega
      have HX5 := Lib.hid (HIX3.out.kept (Nat.le_of_eq hsp.size.symm) (fun b h1 h2 => hsp.out b h1))
      have HR5 : Hid (RowAt encR 5 wo (.slice pr RL.length cr) RL) := Lib.hid ((own_row flatR HOR.out).kept (Nat.le_of_eq hsp.size.symm) (fun b hb h2 => hsp.out b (by have := (Rk.own_block HOR.out b hb).1; have := HB12.out; omega)))
      have HBA : Hid (Below wA.heap.size wA wo) := Lib.hid hsp.bel
      have HRB : Hid (R.length * 56 ≤ 140737488355328 ∧ ∀ r ∈ R, ∀ v, r.2 = some v → OkV v) := Lib.hid (by
        obtain ⟨M, G, rb, h1, h2, h3, h4, h5, h6, h7, h8, h9, h10⟩ := HX5.out
        exact ⟨h9, h10⟩)
      have HLA : Hid ((anyL R).length ≤ maxLen) := Lib.hid (by have := any_len' R; have := HRB.out.1; unfold maxLen; omega)
      have HLV : Hid ((valsL ltV R).length ≤ maxLen) := Lib.hid (by have := valsL_length ordV R; have := HRB.out.1; unfold maxLen; omega)
      have HLF : Hid ((findL R x2).length ≤ maxLen) := Lib.hid (by
        have h1 : (findL R x2).length ≤ R.length := by have := findL_len R x2 R.length; rwa [List.take_length] at this
        have := HRB.out.1
        unfold maxLen
        omega)
      clear hsp
      have HBOX : Hid (∀ W, Below wo.heap.size wo W → W.cell? ⟨w.heap.size, 0, none⟩ = some (.int .i64 x2.kind) ∧ W.cell? ⟨w.heap.size, 1, none⟩ = some (.int .i64 x2.n) ∧ W.cell? ⟨w.heap.size, 2, none⟩ = some (.string x2.text)) := Lib.hid (fun W hW => HV.out W (by
        rw [← HSZ.out]
        exact HBA.out.trans (hW.mono HBA.out.size)))
      have CF : Hid (∀ W, Below wo.heap.size wo W → Calls Try.prog 11 #[.pointer (some ⟨B, 0, none⟩), vv x2] W fun e w' => ∃ u, e = .returned u ∧ Go.Proofs.Ytkmfkgjkgnlfnaa.IntsAt w' u (findL R x2) ∧ Below W.heap.size W w') := Lib.hid (fun W hW => (find_any (HX5.out.below hW) x2 HO2.out).mono fun e w' ⟨u, h1, h2, h3⟩ => ⟨u, h1, h2.at, h3⟩)
      have CA : Hid (∀ W, Below wo.heap.size wo W → Calls Try.prog 13 #[.pointer (some ⟨B, 0, none⟩)] W fun e w' => ∃ u, e = .returned u ∧ Go.Proofs.Ytkmfkgjkgnlfnaa.IntsAt w' u (anyL R) ∧ Below W.heap.size W w') := Lib.hid (fun W hW => (any_any (HX5.out.below hW)).mono fun e w' ⟨u, h1, h2, h3⟩ => ⟨u, h1, h2.at, h3⟩)
      have CV : Hid (∀ W, Below wo.heap.size wo W → Calls Try.prog 16 #[.pointer (some ⟨B, 0, none⟩)] W fun e w' => ∃ u, e = .returned u ∧ RowAt encV 3 w' u (valsL ltV R) ∧ Below W.heap.size W w') := Lib.hid (fun W hW => (values_any (HX5.out.below hW)).mono fun e w' ⟨u, h1, h2, h3⟩ => ⟨u, h1, own_row flatV h2, h3⟩)
      have CL : Hid (∀ W, Below wo.heap.size wo W → Calls Try.prog 18 #[.pointer (some ⟨B, 0, none⟩)] W fun e w' => e = .returned (.int .i64 (anyL R).length) ∧ Below W.heap.size W w') := Lib.hid (fun W hW => len_any (HX5.out.below hW))
      have RF : Hid (∀ W, Below wo.heap.size wo W → Calls Try.prog 12 #[.slice pr RL.length cr, vv x2] W fun e w' => ∃ u, e = .returned u ∧ Go.Proofs.Ytkmfkgjkgnlfnaa.IntsAt w' u (findL R x2) ∧ Below W.heap.size W w') := Lib.hid (fun W hW => by
        rw [HSR.out.find]
        exact (rfind_any RL _ x2 W (HR5.out.below hW) HRLL.out).mono fun e w' ⟨u, h1, h2, h3⟩ => ⟨u, h1, h2.at, h3⟩)
      have RA : Hid (∀ W, Below wo.heap.size wo W → Calls Try.prog 14 #[.slice pr RL.length cr] W fun e w' => ∃ p c, e = .returned (.slice p (anyL R).length c) ∧ Go.Proofs.Ytkmfkgjkgnlfnaa.IntsAt w' (.slice p (anyL R).length c) (anyL R) ∧ Below W.heap.size W w') := Lib.hid (fun W hW => by
        rw [HSR.out.any]
        exact (rany_any RL _ W (HR5.out.below hW) HRLL.out).mono fun e w' ⟨u, h1, h2, h3⟩ => by
          obtain ⟨p, c, rfl⟩ := h2.at.form
          exact ⟨p, c, h1, h2.at, h3⟩)
      have RV : Hid (∀ W, Below wo.heap.size wo W → Calls Try.prog 17 #[.slice pr RL.length cr] W fun e w' => ∃ u, e = .returned u ∧ RowAt encV 3 w' u (valsL ltV R) ∧ Below W.heap.size W w') := Lib.hid (fun W hW => by
        rw [HSR.out.vals]
        exact (rvalues_any RL _ W (HR5.out.below hW) HRLL.out).mono fun e w' ⟨u, h1, h2, h3⟩ => ⟨u, h1, own_row flatV h2, h3⟩)
      have CI : Hid (∀ (W : World) (u v : Value) (L : List Int), Go.Proofs.Ytkmfkgjkgnlfnaa.IntsAt W u L → Go.Proofs.Ytkmfkgjkgnlfnaa.IntsAt W v L → (L = findL R x2 ∨ L = anyL R) → Calls Try.prog 10 #[u, v] W fun e w' => e = .returned (.bool true) ∧ Below W.heap.size W w') := Lib.hid (fun W u v L hu hv hL => by
        have hl : L.length ≤ maxLen := by
          rcases hL with rfl | rfl
          · exact HLF.out
          · exact HLA.out
        have h := ids_any _ _ u v W hu hv hl hl
        rw [eqB_same] at h
        exact h)
      have CS : Hid (∀ (W : World) (u v : Value), RowAt encV 3 W u (valsL ltV R) → RowAt encV 3 W v (valsL ltV R) → Calls Try.prog 15 #[u, v] W fun e w' => e = .returned (.bool true) ∧ Below W.heap.size W w') := Lib.hid (fun W u v hu hv => by
        have h := rsame_any _ _ u v W hu hv HLV.out
        rw [decide_eq_true rfl] at h
        exact h)
      have HSU := Lib.hid (fun W => sure_any W)
      have HVAL := Lib.hid (fun W (hW : Below wo.heap.size wo W) => values_any (HX5.out.below hW))
      have HANY := Lib.hid (fun W (hW : Below wo.heap.size wo W) => any_any (HX5.out.below hW))
      generalize findL R x2 = F at *
      generalize anyL R = A at *
      generalize valsL ltV R = V at *
      obtain ⟨xk, xn, xt⟩ := x2
      simp only at HBOX
      have hbd : Below wo.heap.size wo wo.drew := (Below.refl wo.heap.size wo).drew
      have hS : wo.drew.cell? ⟨w.heap.size, 0, none⟩ = some (.int .i64 xk) ∧ wo.drew.cell? ⟨w.heap.size, 1, none⟩ = some (.int .i64 xn) ∧ wo.drew.cell? ⟨w.heap.size, 2, none⟩ = some (.string xt) ∧ Below wo.heap.size wo wo.drew := ⟨(HBOX.out _ hbd).1, (HBOX.out _ hbd).2.1, (HBOX.out _ hbd).2.2, hbd⟩
      have HK := Lib.hid (fun (y z : World) (b1 : Below wo.heap.size wo y) (b2 : Below y.heap.size y z) => show z.cell? ⟨w.heap.size, 0, none⟩ = some (.int .i64 xk) ∧ z.cell? ⟨w.heap.size, 1, none⟩ = some (.int .i64 xn) ∧ z.cell? ⟨w.heap.size, 2, none⟩ = some (.string xt) ∧ Below wo.heap.size wo z from by
        have b4 := b1.trans (b2.mono b1.size)
        exact ⟨(HBOX.out _ b4).1, (HBOX.out _ b4).2.1, (HBOX.out _ b4).2.2, b4⟩)
      have HBEL := Lib.hid (fun (z : World) (h : z.cell? ⟨w.heap.size, 0, none⟩ = some (.int .i64 xk) ∧ z.cell? ⟨w.heap.size, 1, none⟩ = some (.int .i64 xn) ∧ z.cell? ⟨w.heap.size, 2, none⟩ = some (.string xt) ∧ Below wo.heap.size wo z) => h.2.2.2)
      clear hbd
      go_wp2_with fail
      go_region_held3 (fun x => x.cell? ⟨w.heap.size, 0, none⟩ = some (.int .i64 xk) ∧ x.cell? ⟨w.heap.size, 1, none⟩ = some (.int .i64 xn) ∧ x.cell? ⟨w.heap.size, 2, none⟩ = some (.string xt) ∧ Below wo.heap.size wo x) (first | assumption | exact HK.out _ _ (HBEL.out _ (by assumption)) hb3)
        (first
          | (go_at_call 11; refine (CF.out _ (HBEL.out _ (by assumption))).mono ?_; rintro e wk ⟨u, rfl, hi, hb3⟩)
          | (go_at_call 12; refine (RF.out _ (HBEL.out _ (by assumption))).mono ?_; rintro e wk ⟨u, rfl, hi, hb3⟩; have hj := KAt.below (by assumption) hb3)
          | (go_at_call 10; refine (CI.out _ _ _ _ (by assumption) (by assumption) (by first | exact .inl rfl | exact .inr rfl)).mono ?_; rintro e wk ⟨rfl, hb3⟩)
          | (go_at_call 13; refine (CA.out _ (HBEL.out _ (by assumption))).mono ?_; rintro e wk ⟨u, rfl, hi, hb3⟩)
          | (go_at_call 14; refine (RA.out _ (HBEL.out _ (by assumption))).mono ?_; rintro e wk ⟨pq, cq, rfl, hi, hb3⟩; (first | (have hj := KAt.below (by assumption) hb3) | skip))
          | (go_at_call 16; refine (CV.out _ (HBEL.out _ (by assumption))).mono ?_; rintro e wk ⟨u, rfl, hi, hb3⟩)
          | (go_at_call 17; refine (RV.out _ (HBEL.out _ (by assumption))).mono ?_; rintro e wk ⟨u, rfl, hi, hb3⟩; have hj := RowAt.below (by assumption) hb3)
          | (go_at_call 15; refine (CS.out _ _ _ (by assumption) (by assumption)).mono ?_; rintro e wk ⟨rfl, hb3⟩)
          | (go_at_call 18; refine (CL.out _ (HBEL.out _ (by assumption))).mono ?_; rintro e wk ⟨rfl, hb3⟩))
      have hbk := HBEL.out _ (by assumption)
      obtain ⟨w5, rfl⟩ : ∃ w5 : World, w5 = wk := ⟨_, rfl⟩
      have HB5 := Lib.hid hbk
      clear hbk
      go_wp2_with fail
      refine (HANY.out _ HB5.out).mono ?_
      rintro e w6 ⟨ua, rfl, hoa, hb6⟩
      obtain ⟨pa, ca, rfl⟩ := hoa.at.form
      have HOA := Lib.hid hoa
      have HB56 := Lib.hid hb6
      have HB6 := Lib.hid (HB5.out.trans (hb6.mono HB5.out.size))
      clear hoa hb6
      go_wp2_with fail
      refine (HVAL.out _ HB6.out).mono ?_
      rintro e w7 ⟨ub, rfl, hov, hb7⟩
      obtain ⟨pb, cb, rfl⟩ := (own_row flatV hov).form
      have HOV := Lib.hid hov
      have HB7 := Lib.hid hb7
      have HB57 := Lib.hid (HB56.out.trans (hb7.mono HB56.out.size))
      have HOA7 := Lib.hid (Go.Proofs.Ytkmfkgjkgnlfnaa.own_below HOA.out hb7)
      clear hov hb7
      go_wp2_with fail
      go_loopw [14] (fun i wx => ∃ k : Nat, k ≤ A.length ∧ i = .int .i64 k ∧ AsW w5 w6 w7 pa A.length ca wx) (fun i _ => A.length - (RowKit.intOf i).toNat)
      case atStart => exact ⟨0, Nat.zero_le _, rfl, ⟨A, rfl, HOA7.out⟩, fun _ _ => rfl, Nat.le_refl _, HB57.out⟩
      case round =>
        obtain ⟨k, hk, rfl, has⟩ := hrel
        have HAS := Lib.hid has
        by_cases hlt : k < A.length
        · obtain ⟨g, rfl, k0, z0, hnx⟩ := as_next HOA.out has hlt
          have HNX := Lib.hid hnx
          have hklt : (k : Int) < (A.length : Int) := by omega
          obtain ⟨x0, k0⟩ := k0
          clear has hnx
          go_wp2_with fail
          go_roundw
          case rel => exact ⟨k + 1, by omega, congrArg _ (wrap_s HLA.out hlt), HNX.out⟩
          case measure =>
            rw [wrap_s HLA.out hlt]
            exact int_lessV hlt
        · obtain rfl : k = A.length := by omega
          obtain ⟨w8, rfl⟩ : ∃ w8 : World, w8 = wr := ⟨_, rfl⟩
          have HOV8 : Hid (OwnV w8 w6.heap.size (.slice pb V.length cb) V) := Lib.hid (own_keep HOV.out fun g hg _ => has.2.1 g (Rk.own_block HOV.out g hg).1)
          have HB8 : Hid (Below w5.heap.size w5 w8) := Lib.hid has.2.2.2
          clear has
          go_wp2_with fail
          go_loopw [15] (fun i wx => ∃ k : Nat, k ≤ V.length ∧ i = .int .i64 k ∧ ∃ L', L'.length = V.length ∧ OwnV wx w6.heap.size (.slice pb V.length cb) L' ∧ Below w5.heap.size w5 wx) (fun i _ => V.length - (RowKit.intOf i).toNat)
          case atStart => exact ⟨0, Nat.zero_le _, rfl, V, rfl, HOV8.out, HB8.out⟩
          case round =>
            obtain ⟨k, hk, rfl, L', hL', hov, hbv⟩ := hrel
            have HBV := Lib.hid hbv
            by_cases hlt : k < V.length
            · obtain ⟨g, rfl, ⟨⟨y0, k0⟩, z0⟩, ⟨⟨y1, k1⟩, z1⟩, ⟨⟨y2, k2⟩, z2⟩, hnx⟩ := vs_next hL' hov hlt
              have HNX := Lib.hid hnx
              have HBN := Lib.hid (fun (W : World) (hW : W = w5) => (Rk.own_block hov g rfl).1)
              have HBX := Lib.hid (((hbv.setCell (p := ⟨g, k * 3, none⟩) (by have := (Rk.own_block hov g rfl).1; have := HB56.out.size; show w5.heap.size ≤ g; omega) (.int .i64 0)).setCell (p := ⟨g, k * 3 + 1, none⟩) (by have := (Rk.own_block hov g rfl).1; have := HB56.out.size; show w5.heap.size ≤ g; omega) (.int .i64 0)).setCell (p := ⟨g, k * 3 + 2, none⟩) (by have := (Rk.own_block hov g rfl).1; have := HB56.out.size; show w5.heap.size ≤ g; omega) (.string ⟨#[]⟩))
              have hklt : (k : Int) < (V.length : Int) := by omega
              have HLL : Hid ((L'.set k ⟨0, 0, ⟨#[]⟩⟩).length = V.length) := Lib.hid (by simpa using hL')
              clear hov hnx hL' hbv HBN
              go_wp2_with fail
              go_roundw
              case rel => exact ⟨k + 1, by omega, congrArg _ (wrap_s HLV.out hlt), _, HLL.out, HNX.out, HBX.out⟩
              case measure =>
                rw [wrap_s HLV.out hlt]
                exact int_lessV hlt
            · obtain rfl : k = V.length := by omega
              obtain ⟨w9, rfl⟩ : ∃ w9 : World, w9 = wr := ⟨_, rfl⟩
              have HB9 := Lib.hid (HB5.out.trans (hbv.mono HB5.out.size))
              have HCA := Lib.hid (CA.out w9 HB9.out)
              clear hov hbv hL'
              go_wp2_with fail
              refine HCA.out.mono ?_
              rintro e wa ⟨ua, rfl, hia, hba⟩
              have HIA := Lib.hid hia
              have HBA1 := Lib.hid (HB9.out.trans (hba.mono HB9.out.size))
              have HRA := Lib.hid (RA.out wa HBA1.out)
              clear hia hba
              go_wp2_with fail
              refine HRA.out.mono ?_
              rintro e wb ⟨pq, cq, rfl, hib, hbb⟩
              have HBB1 := Lib.hid (HBA1.out.trans (hbb.mono HBA1.out.size))
              have HCI := Lib.hid (CI.out wb ua (.slice pq A.length cq) A (HIA.out.below hbb) hib (.inr rfl))
              clear hib hbb
              go_wp2_with fail
              refine HCI.out.mono ?_
              rintro e wc ⟨rfl, hbc⟩
              have HBC1 := Lib.hid (HBB1.out.trans (hbc.mono HBB1.out.size))
              have HCV := Lib.hid (CV.out wc HBC1.out)
              clear hbc
              go_wp2_with fail
              refine HCV.out.mono ?_
              rintro e wd ⟨ud, rfl, hid, hbd⟩
              have HID := Lib.hid hid
              have HBD1 := Lib.hid (HBC1.out.trans (hbd.mono HBC1.out.size))
              have HRV := Lib.hid (RV.out wd HBD1.out)
              clear hid hbd
              go_wp2_with fail
              refine HRV.out.mono ?_
              rintro e we ⟨ue, rfl, hie, hbe⟩
              have HBE1 := Lib.hid (HBD1.out.trans (hbe.mono HBD1.out.size))
              have HCS := Lib.hid (CS.out we ud ue (HID.out.below hbe) hie)
              clear hie hbe
              go_wp2_with fail
              refine HCS.out.mono ?_
              rintro e wf ⟨rfl, hbf⟩
              have HBF1 := Lib.hid (HBE1.out.trans (hbf.mono HBE1.out.size))
              clear hbf
              go_wp2_with fail
              refine (HSU.out wf).mono ?_
              rintro e wg ⟨rfl, hbg⟩
              have HBG1 := Lib.hid (HBF1.out.trans (hbg.mono HBF1.out.size))
              clear hbg
              go_wp2_with fail
              go_ret
              refine ⟨rfl, ?_⟩
              have b1 := HBA.out.trans (HBG1.out.mono HBA.out.size)
              exact HB0.out.trans (b1.mono (by have := HSZ.out; omega))
end Wd
end Go.Proofs.Ytkmfkgjkgnlfnaa
