/- The walk of PayloadFits. Conditions: those that the theorem names. -/
import Derived.Test.YtfppemgagifmpaaDoorPlKz
import Derived.Test.YtfppemgagifmpaaDoorPlKr
import Derived.Test.YtfppemgagifmpaaDoorPlAw
namespace Go.Proofs.YtfppemgagifmpaaDoor
set_option linter.unusedVariables false
open Go Go.RowKit Go.Shelf Pl
theorem ckAt_cells {w W : World} {vv fv uv xv : Value} {V : List VSp} {F : List FSp} {p : Pt} (h : CkAt w W vv fv uv xv V F p) : (W.cell? ⟨w.heap.size, 0, none⟩ = some vv ∧ W.cell? ⟨w.heap.size, 1, none⟩ = some fv) ∧ (W.cell? ⟨w.heap.size + 1, 0, none⟩ = some (.int .i64 p.id) ∧ W.cell? ⟨w.heap.size + 1, 1, none⟩ = some uv ∧ W.cell? ⟨w.heap.size + 1, 2, none⟩ = some xv) := ⟨cellsTwo h.1.1, cells3_of h.2.1⟩
set_option maxHeartbeats 4000000 in
set_option maxRecDepth 100000 in
theorem fits_no (V : List VSp) (F : List FSp) (vv fv : Value) (a : Pt) (uv xv : Value) (w : World) (G : Gp w) (hV : VSpAt w vv V) (hF : FSpAt w fv F) (kV : VSpOk V) (kF : FSpOk F) (hu : VecsAt w uv a.vecs) (hx : FldsAt w xv a.flds) (ku : VecsOk a.vecs) (kx : FldsOk a.flds)
    (hy : ckN V F a ≠ 0) :
    Calls Tryd.prog 4 #[.agg #[vv, fv], .agg #[.int .i64 a.id, uv, xv]] w fun e w' => e = .returned (.bool true) ∧ Below w.heap.size w w' := by
  have HN := Lib.hid (ckAt_new (w := w) (p := a) hV hF hu hx)
  have C3 := Lib.hid (fun W (h : CkAt w W vv fv uv xv V F a) => check_any vv fv uv xv V F a W (G.fresh h.2.2.2.2) h.1.2.1 h.1.2.2 kV kF h.2.2.1 h.2.2.2.1 ku kx)
  have C4 := Lib.hid (fun W (h : CkAt w W vv fv uv xv V F a) => rcheck_any vv fv uv xv V F a W h.1.2.1 h.1.2.2 kV kF h.2.2.1 h.2.2.2.1 ku kx)
  have C6 := Lib.hid (fun W (h : CkAt w W vv fv uv xv V F a) => awake_yes W (G.fresh h.2.2.2.2))
  generalize ckN V F a = y at *
  have hyy : (y != 0) = true := by simp [hy]
  have HE := Lib.hid (fun W (h : CkAt w W vv fv uv xv V F a) => ckAt_cells h)
  obtain ⟨pv, cv, rfl⟩ := hV.form
  obtain ⟨pf, cf, rfl⟩ := hF.form
  obtain ⟨pu, cu, rfl⟩ := hu.form
  obtain ⟨px, cx, rfl⟩ := hx.form
  clear hV hF hu hx kV kF ku kx hy G
  generalize V.length = nV at *
  generalize F.length = nF at *
  generalize a.vecs.length = nu at *
  generalize a.flds.length = nx at *
  go_enter Tryd.func4, Tryd.ntmps4
  obtain ⟨⟨d0, d1⟩, d2, d3, d4⟩ := HE.out _ HN.out
  go_wp2_with fail
  clear d0 d1 d2 d3 d4
  generalize (w.alloc (.cells #[.slice pv nV cv, .slice pf nF cf] 25)).alloc (.cells #[.int .i64 a.id, .slice pu nu cu, .slice px nx cx] 29) = W0 at *
  refine (C3.out _ HN.out).mono ?_
  rintro e w1 ⟨rfl, b1⟩
  have HN1 := Lib.hid (HN.out.below b1)
  clear b1
  obtain ⟨⟨d0, d1⟩, d2, d3, d4⟩ := HE.out _ HN1.out
  go_wp2_with fail
  refine (C4.out _ HN1.out).mono ?_
  rintro e w2 ⟨rfl, b2⟩
  have HN2 := Lib.hid (HN1.out.below b2)
  clear b2 d0 d1 d2 d3 d4
  go_wp2_with fail
  refine (C6.out _ HN2.out).mono ?_
  rintro e w3 ⟨rfl, b3⟩
  have HN3 := Lib.hid (HN2.out.below b3)
  clear b3
  go_wp2_with fail
  go_ret
  exact ⟨rfl, HN3.out.2.2.2.2⟩
set_option maxHeartbeats 4000000 in
set_option maxRecDepth 100000 in
theorem fits_yes (V : List VSp) (F : List FSp) (vv fv : Value) (i : Int) (x : Vec) (r : List Vec) (fs : List Fld) (uv xv : Value) (w : World) (G : Gp w) (hV : VSpAt w vv V) (hF : FSpAt w fv F) (kV : VSpOk V) (kF : FSpOk F) (hu : VecsAt w uv (x :: r)) (hx : FldsAt w xv fs) (ku : VecsOk (x :: r)) (kx : FldsOk fs)
    (c : (x :: r).length * 40 ≤ 140737488355328 ∧ (∀ y ∈ x :: r, y.v.length * 8 ≤ 140737488355328) ∧ fs.length * 48 ≤ 140737488355328) (hy : ckN V F ⟨i, x :: r, fs⟩ = 0) (hx1 : 1 ≤ x.v.length) :
    Calls Tryd.prog 4 #[.agg #[vv, fv], .agg #[.int .i64 i, uv, xv]] w fun e w' => e = .returned (.bool true) ∧ Below w.heap.size w w' := by
  have HN := Lib.hid (ckAt_new (w := w) (p := ⟨i, x :: r, fs⟩) hV hF hu hx)
  have C3 := Lib.hid (fun u2 x2 (vs : List Vec) (gs : List Fld) W (h : CkAt w W vv fv uv xv V F ⟨i, x :: r, fs⟩) (h1 : VecsAt W u2 vs) (h2 : FldsAt W x2 gs) (k1 : VecsOk vs) (k2 : FldsOk gs) => check_any vv fv u2 x2 V F ⟨i, vs, gs⟩ W (G.fresh h.2.2.2.2) h.1.2.1 h.1.2.2 kV kF h1 h2 k1 k2)
  have CE := Lib.hid (fun W (h : CkAt w W vv fv uv xv V F ⟨i, x :: r, fs⟩) => enc_in W (G.fresh h.2.2.2.2) (.agg #[.int .i64 i, uv, xv]) ⟨i, x :: r, fs⟩ ⟨uv, xv, rfl, h.2.2.1, h.2.2.2.1, ku, kx⟩)
  have CP := Lib.hid (fun W (h : CkAt w W vv fv uv xv V F ⟨i, x :: r, fs⟩) => pcopy_own ⟨i, x :: r, fs⟩ uv xv W h.2.2.1 h.2.2.2.1 c.1 c.2.1 c.2.2)
  have C6 := Lib.hid (fun W (h : CkAt w W vv fv uv xv V F ⟨i, x :: r, fs⟩) => awake_yes W (G.fresh h.2.2.2.2))
  have HE := Lib.hid (fun W (h : CkAt w W vv fv uv xv V F ⟨i, x :: r, fs⟩) => ckAt_cells h)
  have HFC := Lib.hid (fun W (h : CkAt w W vv fv uv xv V F ⟨i, x :: r, fs⟩) => h.2.2.2.1)
  obtain ⟨S, hS⟩ : ∃ S : ByteArray, EncV ⟨i, x :: r, fs⟩ = .tuple #[.string S, .int .i64 0] := ⟨_, by unfold EncV; rw [ck_may hy]; rfl⟩
  rw [hS] at CE
  have HY := Lib.hid hy
  have KU := Lib.hid ku
  have KX := Lib.hid kx
  have HX1 := Lib.hid hx1
  have HC8 : Hid (x.v.length * 8 ≤ 140737488355328) := Lib.hid (c.2.1 x (List.mem_cons_self ..))
  obtain ⟨pv, cv, rfl⟩ := hV.form
  obtain ⟨pf, cf, rfl⟩ := hF.form
  obtain ⟨pu, cu, rfl⟩ := hu.form
  obtain ⟨px, cx, rfl⟩ := hx.form
  clear hV hF hu hx kV kF ku kx hy G hS c hx1
  simp only at HN C3 CE CP C6 HE HFC
  generalize V.length = nV at *
  generalize F.length = nF at *
  obtain ⟨nu, hnu⟩ : ∃ n, n = (x :: r).length := ⟨_, rfl⟩
  obtain ⟨nx, hnx⟩ : ∃ n, n = fs.length := ⟨_, rfl⟩
  rw [← hnu] at HN C3 CE CP C6 HE HFC ⊢
  rw [← hnx] at HN C3 CE CP C6 HE HFC ⊢
  have NU := Lib.hid hnu
  have NX := Lib.hid hnx
  clear hnu hnx
  go_enter Tryd.func4, Tryd.ntmps4
  obtain ⟨⟨d0, d1⟩, d2, d3, d4⟩ := HE.out _ HN.out
  go_wp2_with fail
  clear d0 d1 d2 d3 d4
  generalize (w.alloc (.cells #[.slice pv nV cv, .slice pf nF cf] 25)).alloc (.cells #[.int .i64 i, .slice pu nu cu, .slice px nx cx] 29) = W0 at *
  refine (C3.out _ _ (x :: r) fs _ HN.out HN.out.2.2.1 HN.out.2.2.2.1 KU.out KX.out).mono ?_
  rw [HY.out]
  rintro e w1 ⟨rfl, b1⟩
  have HN1 := Lib.hid (HN.out.below b1)
  clear b1
  obtain ⟨⟨d0, d1⟩, d2, d3, d4⟩ := HE.out _ HN1.out
  go_wp2_with fail
  refine (CE.out _ HN1.out).mono ?_
  rintro e w2 ⟨rfl, b2⟩
  have HN2 := Lib.hid (HN1.out.below b2)
  clear b2 d0 d1 d2 d3 d4
  obtain ⟨⟨d0, d1⟩, d2, d3, d4⟩ := HE.out _ HN2.out
  go_wp2_with fail
  refine (CP.out _ HN2.out).mono ?_
  rintro e w3 ⟨u2, x2, m, rfl, h1, h2, hm, h3, b3⟩
  clear d0 d1 d2 d3 d4
  obtain ⟨p2, c2, rfl⟩ := h1.at.form
  obtain ⟨p3, c3, rfl⟩ := h2.form
  have hnu : r.length + 1 = nu := by rw [NU.out]; rfl
  have ba := fresh_alloc w3 (.cells #[.int .i64 i, .slice p2 (x :: r).length c2, .slice p3 fs.length c3] 29)
  have hbox := heap_last w3 (.cells #[.int .i64 i, .slice p2 (x :: r).length c2, .slice p3 fs.length c3] 29)
  have hgw : ∀ g, (Value.slice p2 (x :: r).length c2).ownBlock = some g → g < w3.heap.size := by
    intro g hg
    obtain ⟨g', _, _, _, he, _, hl, _⟩ := own_first h1
    rw [he] at hg
    simp [Value.ownBlock] at hg
    omega
  obtain ⟨g, cc0, ps, cs, hu2, hg, a1, a2, hcap, hcut⟩ := cut_copy (h1.kept ba.size fun g _ h => ba.block g h) (h2.belowD fun g h => ba.block g h) hm h3 (b3.trans (ba.mono b3.size))
  injection hu2 with e1 e2 e3
  subst e1 e3
  have hgl := hgw g rfl
  obtain ⟨n, hn⟩ : ∃ n, n = x.v.length := ⟨_, rfl⟩
  obtain ⟨q, hq⟩ : ∃ q : Nat, n = q + 1 := ⟨n - 1, by have := HX1.out; omega⟩
  have hcut2 := hcut q (by omega)
  rw [← hn] at a1 hcap
  have hwr : wrap64 ((n : Int) - 1) = (q : Int) := by have := HC8.out; unfold wrap64; omega
  have hq0 : (0 : Int) ≤ (q : Int) := by omega
  have hq1 : (q : Int) ≤ (cs : Int) := by omega
  have hn0 : (0 : Int) < (nu : Int) := by omega
  have hsh : Hid ((x.v.take q).length < x.v.length) := Lib.hid (by rw [List.length_take]; omega)
  have hkv : Hid (VecsOk (⟨x.name, x.v.take q⟩ :: r)) := Lib.hid ⟨KU.out.1, fun y hy => by
    rcases List.mem_cons.1 hy with rfl | hy
    · have := KU.out.2 x (List.mem_cons_self ..)
      exact ⟨this.1, by simp only [List.length_take]; have := this.2; omega⟩
    · exact KU.out.2 y (List.mem_cons_of_mem _ hy)⟩
  have e2' : (x :: r).length = nu := NU.out.symm
  have e3' : fs.length = nx := NX.out.symm
  rw [e2', e3'] at hcut2
  rw [e2', e3'] at a1 a2 hbox ba
  rw [e2', e3']
  obtain ⟨k0, k1, k2⟩ := cells3_of hbox
  have HBX := Lib.hid hbox
  have HG := Lib.hid hgl
  have HCUT := Lib.hid hcut2
  have HB3 := Lib.hid b3
  clear hcut hcut2 h1 h2 h3 hbox ba hgw e2 e2' e3' hnu hn hq hcap b3 hg hm hgl
  go_wp2_with fail
  generalize w3.alloc (.cells #[.int .i64 i, .slice (some ⟨g, 0, none⟩) nu c2, .slice p3 nx c3] 29) = W3 at *
  clear k2 k0
  go_region
  have hck := HN2.out.below HCUT.out.1.drew
  have hv4 := HCUT.out.2.1.below (Below.refl _ _).drew
  have hf4 := HCUT.out.2.2.below (Below.refl _ _).drew
  have hbx4 : (W3.setCell ⟨g, 1, none⟩ (.slice ps q cs)).drew.heap[w3.heap.size]? = some (.cells #[.int .i64 i, .slice (some ⟨g, 0, none⟩) nu c2, .slice p3 nx c3] 29 (0, 0)) := (heap_setCell_other _ _ _ _ (show w3.heap.size ≠ g by have := HG.out; omega)).trans HBX.out
  clear a1 a2 k1
  generalize (W3.setCell ⟨g, 1, none⟩ (.slice ps q cs)).drew = W4 at *
  have HCK4 := Lib.hid hck
  have HV4 := Lib.hid hv4
  have HF4 := Lib.hid hf4
  obtain ⟨⟨d0, d1⟩, d2, d3, d4⟩ := HE.out _ hck
  obtain ⟨k0, k1, k2⟩ := cells3_of hbx4
  clear hck hv4 hf4 hbx4 HBX HCUT HN2 hwr hq0 hq1 hn0
  go_wp2_with fail
  refine (C3.out _ _ (⟨x.name, x.v.take q⟩ :: r) fs W4 HCK4.out HV4.out HF4.out hkv.out KX.out).mono ?_
  rw [ck_less HY.out _ hsh.out]
  rintro e w5 ⟨rfl, b5⟩
  have HN5 := Lib.hid (HCK4.out.below b5)
  clear b5 d0 d1 d2 d3 d4 k0 k1 k2 HCK4 HV4 HF4
  obtain ⟨⟨d0, d1⟩, d2, d3, d4⟩ := HE.out _ HN5.out
  by_cases h0 : nx = 0
  · have h0' : ¬ (0 : Int) < (nx : Int) := by omega
    clear h0
    go_wp2_with fail
    refine (C6.out _ HN5.out).mono ?_
    rintro e w6 ⟨rfl, b6⟩
    have HN6 := Lib.hid (HN5.out.below b6)
    clear b6
    go_wp2_with fail
    go_ret
    exact ⟨rfl, HN6.out.2.2.2.2⟩
  · have h0' : (0 : Int) < (nx : Int) := by omega
    obtain ⟨f, gs, hfs⟩ : ∃ f gs, fs = f :: gs := by
      cases fs with
      | nil => exact absurd NX.out h0
      | cons f gs => exact ⟨f, gs, rfl⟩
    subst hfs
    clear h0
    go_wp2_with fail
    refine (CP.out _ HN5.out).mono ?_
    rintro e w6 ⟨u3, x3, m3, rfl, h1, h2, hm, h3, b6⟩
    clear d0 d1 d2 d3 d4
    obtain ⟨p5, c5, rfl⟩ := h1.at.form
    obtain ⟨p6, c6, rfl⟩ := h2.form
    have ba := fresh_alloc w6 (.cells #[.int .i64 i, .slice p5 (x :: r).length c5, .slice p6 (f :: gs).length c6] 29)
    have hbox := heap_last w6 (.cells #[.int .i64 i, .slice p5 (x :: r).length c5, .slice p6 (f :: gs).length c6] 29)
    have hgl : ∀ g, (Value.slice p6 (f :: gs).length c6).ownBlock = some g → g < w6.heap.size := by
      intro g hg
      obtain ⟨g', _, he, hl, _⟩ := own_field h2
      rw [he] at hg
      simp [Value.ownBlock] at hg
      omega
    obtain ⟨g3, cc3, hx3, hg3, ⟨f1, f2, f3⟩, ⟨e1, e2, e3⟩, hturn⟩ := turn_copy (h1.kept ba.size fun g _ h => ba.block g h) (h2.belowD fun g h => ba.block g h) h3 (b6.trans (ba.mono b6.size))
    injection hx3 with q1 q2 q3
    subst q1 q3
    have hgl3 := hgl g3 rfl
    have hkd : f.val.kind = 1 ∨ f.val.kind = 2 ∨ f.val.kind = 3 := by
      have h4 := (ck_ok HY.out).2.2.2
      simp only [List.all_cons, Bool.and_eq_true] at h4
      have h5 := h4.1
      unfold fldFit at h5
      rw [Bool.and_eq_true] at h5
      rcases val_kinds h5.2 with h | h | h
      · exact .inl h.1
      · exact .inr (.inl h.1)
      · exact .inr (.inr h.1)
    obtain ⟨t, k', htm, hw1, hw2, hkn⟩ : ∃ t k' : Int, f.val.kind.tmod 3 = t ∧ wrap64 t = t ∧ wrap64 (t + 1) = k' ∧ k' ≠ f.val.kind := by
      rcases hkd with h | h | h <;> rw [h]
      · exact ⟨1, 2, by decide, by unfold wrap64; omega, by unfold wrap64; omega, by decide⟩
      · exact ⟨2, 3, by decide, by unfold wrap64; omega, by unfold wrap64; omega, by decide⟩
      · exact ⟨0, 1, by decide, by unfold wrap64; omega, by unfold wrap64; omega, by decide⟩
    have hturn2 := hturn ⟨k', 0, ⟨#[]⟩⟩
    obtain ⟨gp, offp, hpx, hcp⟩ := flds_cell (HFC.out _ HN5.out) (j := 0) (by simp)
    have hpp := hcp _ (b6.trans (ba.mono b6.size))
    simp only [List.getElem_cons_zero, Nat.zero_mul, Nat.add_zero] at hpp
    obtain ⟨-, c1, -, -⟩ := hpp
    have HC6 := Lib.hid (HN5.out.below (b6.trans (ba.mono b6.size)))
    subst hpx
    have n1 : (x :: r).length = nu := NU.out.symm
    have n2 : (f :: gs).length = nx := NX.out.symm
    rw [n1, n2] at hturn2 f1 f2 f3 e1 e2 e3 hbox c1 HC6
    rw [n1, n2]
    have hkx : Hid (FldsOk (⟨f.name, ⟨k', 0, ⟨#[]⟩⟩⟩ :: gs)) := Lib.hid ⟨KX.out.1, fun y hy => by
      rcases List.mem_cons.1 hy with rfl | hy
      · exact ⟨(KX.out.2 f (List.mem_cons_self ..)).1, by show 0 ≤ Room; exact Nat.zero_le _⟩
      · exact KX.out.2 y (List.mem_cons_of_mem _ hy)⟩
    have HB6 := Lib.hid b6
    have HT := Lib.hid hturn2
    have HBX6 := Lib.hid hbox
    have HG6 := Lib.hid hgl3
    have HKN := Lib.hid hkn
    obtain ⟨k0, k1, k2⟩ := cells3_of hbox
    obtain ⟨⟨d0, d1⟩, d2, d3, d4⟩ := HE.out _ HC6.out
    generalize hfk : f.val.kind = kf at *
    clear h1 h2 h3 hm b6 ba hbox hgl hturn hturn2 hcp hg3 hgl3 hkd hkn q2 n1 n2
    go_wp2_with fail
    generalize w6.alloc (.cells #[.int .i64 i, .slice p5 nu c5, .slice (some ⟨g3, 0, none⟩) nx c6] 29) = W6 at *
    go_region
    have hck := HN5.out.below HT.out.1.drew
    have hv7 := HT.out.2.1.below (Below.refl _ _).drew
    have hf7 := HT.out.2.2.below (Below.refl _ _).drew
    have hbx7 : (((W6.setCell ⟨g3, 1, none⟩ (.int .i64 k')).setCell ⟨g3, 2, none⟩ (.int .i64 0)).setCell ⟨g3, 3, none⟩ (.string ⟨#[]⟩)).drew.heap[w6.heap.size]? = some (.cells #[.int .i64 i, .slice p5 nu c5, .slice (some ⟨g3, 0, none⟩) nx c6] 29 (0, 0)) := by
      have hne : w6.heap.size ≠ g3 := by have := HG6.out; omega
      exact (heap_setCell_other _ _ _ _ hne).trans ((heap_setCell_other _ _ _ _ hne).trans ((heap_setCell_other _ _ _ _ hne).trans HBX6.out))
    clear d0 d1 d2 d3 d4 k0 k1 k2 f1 f2 f3 e1 e2 e3 c1
    generalize (((W6.setCell ⟨g3, 1, none⟩ (.int .i64 k')).setCell ⟨g3, 2, none⟩ (.int .i64 0)).setCell ⟨g3, 3, none⟩ (.string ⟨#[]⟩)).drew = W7 at *
    have HCK7 := Lib.hid hck
    have HV7 := Lib.hid hv7
    have HF7 := Lib.hid hf7
    obtain ⟨⟨d0, d1⟩, d2, d3, d4⟩ := HE.out _ hck
    obtain ⟨k0, k1, k2⟩ := cells3_of hbx7
    clear hck hv7 hf7 hbx7 HBX6 HT htm hw1 hw2
    go_wp2_with fail
    refine (C3.out _ _ (x :: r) (⟨f.name, ⟨k', 0, ⟨#[]⟩⟩⟩ :: gs) W7 HCK7.out HV7.out HF7.out KU.out hkx.out).mono ?_
    rw [ck_other HY.out ⟨k', 0, ⟨#[]⟩⟩ (by rw [hfk]; exact HKN.out)]
    rintro e w8 ⟨rfl, b8⟩
    have HN8 := Lib.hid (HCK7.out.below b8)
    clear b8 d0 d1 d2 d3 d4 k0 k1 k2
    go_wp2_with fail
    refine (C6.out _ HN8.out).mono ?_
    rintro e w9 ⟨rfl, b9⟩
    have HN9 := Lib.hid (HN8.out.below b9)
    clear b9
    go_wp2_with fail
    go_ret
    exact ⟨rfl, HN9.out.2.2.2.2⟩
theorem fits_walk (V : List VSp) (F : List FSp) (vv fv : Value) (a : Pt) (uv xv : Value) (w : World) (G : Gp w) (hV : VSpAt w vv V) (hF : FSpAt w fv F) (kV : VSpOk V) (kF : FSpOk F) (hu : VecsAt w uv a.vecs) (hx : FldsAt w xv a.flds) (ku : VecsOk a.vecs) (kx : FldsOk a.flds)
    (c : a.vecs.length * 40 ≤ 140737488355328 ∧ (∀ y ∈ a.vecs, y.v.length * 8 ≤ 140737488355328) ∧ a.flds.length * 48 ≤ 140737488355328) :
    Calls Tryd.prog 4 #[.agg #[vv, fv], .agg #[.int .i64 a.id, uv, xv]] w fun e w' => e = .returned (.bool true) ∧ Below w.heap.size w w' := by
  by_cases hy : ckN V F a = 0
  · obtain ⟨x, r, e, h1⟩ := ck_some hy
    obtain ⟨i, vs, fs⟩ := a
    simp only at e
    subst e
    exact fits_yes V F vv fv i x r fs uv xv w G hV hF kV kF hu hx ku kx c hy h1
  · exact fits_no V F vv fv a uv xv w G hV hF kV kF hu hx ku kx hy
end Go.Proofs.YtfppemgagifmpaaDoor
