/- An index's Any, Values, walked. Conditions: those that each theorem names. -/
import Derived.Test.YtkmfkgjkgnlfnaaWdF
namespace Go.Proofs.Ytkmfkgjkgnlfnaa
set_option linter.unusedVariables false
namespace Wd
open Go Go.RowKit Go.Shelf Go.Sort Go.Maps Pq Pq.Pl Rk Ids
/-- One group's ids behind those that have come. -/
theorem any_step {w wr w' : World} {M rb cnt : Nat} {G Gd : List Gm} {R : List (Rw Val)} {v : Value} {g : Gm} (h2 : GrpAt w rb M G) (h3 : gpOf G = grpL R) (h8 : Ris (R.map Prod.fst)) (h9 : R.length * 56 ≤ 140737488355328) (hb : Below w.heap.size w wr)
    (ho : OwnI wr (w.heap.size + 1) v ((gpOf Gd).flatMap Prod.snd)) (hs : StepC wr w' M w.heap.size G Gd cnt g) :
    ∃ v' W5, (∀ ty, (Builtin.append_ #[37, 37] ty #[v, slv g.s]).run Try.prog w' = .ok v' W5) ∧ Below w.heap.size w W5 ∧ OwnI W5 (w.heap.size + 1) v' ((gpOf (Gd ++ [g])).flatMap Prod.snd) ∧ ∃ cnt', RgG W5 M w.heap.size G (Gd ++ [g]) cnt' ∧ cnt' < cnt := by
  obtain ⟨hgG, cn', hR, hlt, hgr, hsz⟩ := hs
  have hb' := hb.grown hgr hb.size (fun j hj => by cases hj; exact Nat.le_refl _)
  have ho' : OwnI w' (w.heap.size + 1) v ((gpOf Gd).flatMap Prod.snd) := own_keep ho fun k hk hkl => hgr.block k hkl (fun e => by
    have := (ho.lt k hk).1
    injection e with e
    omega)
  have hrow : RowAt encI 1 w' (slv g.s) g.l := own_row flatI ((h2.below hb').rows g hgG).1
  have hle := hR.len h3 h8
  rw [flat_snoc, List.length_append] at hle
  obtain ⟨v', W5, hr, h5, h6, _, _⟩ := append_row flatI ho' hrow (by omega) (by unfold maxLen; omega) (by have := hR.1.lt; omega)
  refine ⟨v', W5, hr, hb'.grown h6 hb'.size (fun j hj => by have := (ho'.lt j hj).1; omega), by rw [flat_snoc]; exact h5, cn', hR.kept (h6.block M (Nat.lt_of_lt_of_le h2.ltM hb'.size) fun e => ?_) (h6.block _ hR.1.lt fun e => ?_), hlt⟩
  · have := (ho'.lt M e.symm).1
    have := h2.ltM
    omega
  · have := (ho'.lt _ e.symm).1
    omega
set_option maxHeartbeats 4000000 in
set_option maxRecDepth 100000 in
theorem any_any {w : World} {base B : Nat} {R : List (Rw Val)} (h : IxAt w base B R) :
    Calls Try.prog 13 #[.pointer (some ⟨B, 0, none⟩)] w fun e w' => ∃ u, e = .returned u ∧ Go.Proofs.Ytkmfkgjkgnlfnaa.Own w' w.heap.size u (anyL R) ∧ Below w.heap.size w w' := by
  obtain ⟨M, G, rb, h1, h2, h3, h4, h5, h6, h7, h8, h9, h10⟩ := h
  have HLS := Lib.hid (lists_any h1)
  have HMP := Lib.hid h2.map
  clear h1
  go_enter Try.func13, Try.ntmps13
  go_wp2_with (first
    | (go_at_call 32; refine HLS.out.mono ?_; rintro e w1 ⟨rfl, rfl⟩)
    | (at_range; refine wpList_range_mp _ rfl _ 57 rfl 24 37 Try.underlying57 M G.length _ rfl HMP.out ?_; intro ob cnt hrg))
  go_frame
  have HBG : Hid (Below w.heap.size w (w.alloc ob)) := Lib.hid (Rk.fresh_alloc _ _)
  have H0 : Hid (RgG (w.alloc ob) M w.heap.size G [] cnt) := Lib.hid ⟨hrg, by simp⟩
  have HG := Lib.hid h2
  have H3 := Lib.hid h3
  have H8 := Lib.hid h8
  have H9 := Lib.hid h9
  clear hrg h2 h3 h4 h5 h6 h7 h8 h9 h10 HLS HMP
  go_loopw [3] (fun v wr => ∃ Gd cnt, RgG wr M w.heap.size G Gd cnt ∧ OwnI wr (w.heap.size + 1) v ((gpOf Gd).flatMap Prod.snd) ∧ Below w.heap.size w wr) (fun _ wr => wr.rangeLeft M w.heap.size)
  case atStart => exact ⟨[], cnt, H0.out, own_none _ _, HBG.out⟩
  case round =>
    obtain ⟨Gd, cn, hR, ho, hb⟩ := hrel
    have HR := Lib.hid hR
    have HB := Lib.hid hb
    have HO := Lib.hid ho
    clear hR hb ho H0 HBG
    go_wp2_with (at_next; refine wpList_next_gm rfl _ rfl _ rfl rfl HR.out ?_ ?_)
    · intro hd
      have e := (grp_all H8.out HR.out.keys (HR.out.all HG.out.keys hd H3.out)).1
      have hle := HR.out.len H3.out H8.out
      have HST := Lib.hid (sort_own _ _ (w.heap.size + 1) wr (own_int.2 HO.out) (by have := HR.out.1.lt; omega) (by have := H9.out; omega))
      rw [e] at HST
      clear e hle hd
      go_wp2_with fail
      refine HST.out.mono ?_
      rintro e w2 ⟨rfl, h1, h2⟩
      have HF := Lib.hid (HB.out.trans (h2.mono (Nat.le_succ _)))
      have HO2 := Lib.hid (own_base h1 (Nat.le_succ _))
      clear h1 h2
      go_wp2_with fail
      go_ret
      exact ⟨_, rfl, HO2.out, HF.out⟩
    · intro g w' hg hen
      obtain ⟨v', W5, hr, hb5, ho5, cn', hR5, hlt⟩ := any_step HG.out H3.out H8.out H9.out HB.out HO.out hg
      have HX : Hid (Below w.heap.size w W5 ∧ OwnI W5 (w.heap.size + 1) v' ((gpOf (Gd ++ [g])).flatMap Prod.snd) ∧ RgG W5 M w.heap.size G (Gd ++ [g]) cn' ∧ cn' < cn) := Lib.hid ⟨hb5, ho5, hR5, hlt⟩
      clear hg hb5 ho5 hR5 hlt
      obtain ⟨gv, ⟨gp, gn, gc⟩, gl⟩ := g
      simp only at hr hen
      go_wp2_with (at_builtin; refine wpList_append_run rfl _ _ _ _ rfl _ _ _ _ rfl rfl hr ?_)
      go_roundw
      all_goals obtain ⟨hb5, ho5, hR5, hlt⟩ := HX.out
      case rel => exact ⟨_, cn', hR5, ho5, hb5⟩
      case measure => rw [hR5.1.left_eq, HR.out.1.left_eq]; exact hlt
/-! ### Values -/
abbrev OwnV (w : World) (base : Nat) (v : Value) (L : List Val) : Prop := Rk.Own encV 3 24 w base v L
def vsOf (Gd : List Gm) : List Val := Gd.map fun x => x.v
theorem vs_snoc (Gd : List Gm) (g : Gm) : vsOf (Gd ++ [g]) = vsOf Gd ++ [g.v] := by simp [vsOf]
theorem RgG.count {w : World} {M r cnt : Nat} {G Gd : List Gm} {R : List (Rw Val)} (h : RgG w M r G Gd cnt) (h3 : gpOf G = grpL R) : (vsOf Gd).length ≤ R.length := by
  have h1 := h.1.length
  have h2 := grp_length R
  rw [← h3] at h2
  unfold gpOf at h2
  unfold vsOf
  rw [List.length_map] at *
  omega
/-- One value behind those that have come. -/
theorem vals_step {w wr w' : World} {M rb cnt : Nat} {G Gd : List Gm} {R : List (Rw Val)} {v : Value} {g : Gm} (h2 : GrpAt w rb M G) (h3 : gpOf G = grpL R) (h9 : R.length * 56 ≤ 140737488355328) (hb : Below w.heap.size w wr)
    (ho : OwnV wr (w.heap.size + 1) v (vsOf Gd)) (hs : StepC wr w' M w.heap.size G Gd cnt g) :
    ∃ v' W5, (∀ ty, (Builtin.append_ #[43, 43] ty #[v, .slice (some ⟨w'.heap.size + 1, 0, none⟩) 1 1]).run Try.prog ((w'.alloc (vobj g.v)).alloc (vobj g.v)) = .ok v' W5) ∧ Below w.heap.size w W5 ∧ OwnV W5 (w.heap.size + 1) v' (vsOf (Gd ++ [g])) ∧ ∃ cnt', RgG W5 M w.heap.size G (Gd ++ [g]) cnt' ∧ cnt' < cnt := by
  obtain ⟨hgG, cn', hR, hlt, hgr, hsz⟩ := hs
  have hb' := hb.grown hgr hb.size (fun j hj => by cases hj; exact Nat.le_refl _)
  have ho' : OwnV w' (w.heap.size + 1) v (vsOf Gd) := own_keep ho fun k hk hkl => hgr.block k hkl (fun e => by
    have := (ho.lt k hk).1
    injection e with e
    omega)
  have hrl := hR.1.lt
  have bA : Below w'.heap.size w' ((w'.alloc (vobj g.v)).alloc (vobj g.v)) := (Rk.fresh_alloc w' (vobj g.v)).trans ((Rk.fresh_alloc _ _).mono (by simp))
  have hlast := Rk.heap_last (w'.alloc (vobj g.v)) (vobj g.v)
  rw [show (w'.alloc (vobj g.v)).heap.size = w'.heap.size + 1 by simp] at hlast
  have hle := hR.count h3
  rw [vs_snoc, List.length_append] at hle
  simp only [List.length_cons, List.length_nil] at hle
  have hoA : OwnV ((w'.alloc (vobj g.v)).alloc (vobj g.v)) (w.heap.size + 1) v (vsOf Gd) := Rk.own_below ho' bA
  obtain ⟨v', W5, hr, h5, h6, _, _⟩ := append_el flatV hoA hlast (by omega) (by unfold maxLen; omega) (by simp; omega)
  have bF : Below w.heap.size w ((w'.alloc (vobj g.v)).alloc (vobj g.v)) := hb'.trans (bA.mono hb'.size)
  refine ⟨v', W5, hr, bF.grown h6 bF.size (fun j hj => by have := (hoA.lt j hj).1; omega), by rw [vs_snoc]; exact h5, cn', hR.kept ((h6.block M (Nat.lt_of_lt_of_le h2.ltM bF.size) fun e => ?_).trans (bA.block M (Nat.lt_of_lt_of_le h2.ltM hb'.size))) ((h6.block _ (Nat.lt_of_lt_of_le hrl bA.size) fun e => ?_).trans (bA.block _ hrl)), hlt⟩
  · have := (hoA.lt M e.symm).1
    have := h2.ltM
    omega
  · have := (hoA.lt _ e.symm).1
    omega
set_option maxHeartbeats 4000000 in
set_option maxRecDepth 100000 in
theorem values_any {w : World} {base B : Nat} {R : List (Rw Val)} (h : IxAt w base B R) :
    Calls Try.prog 16 #[.pointer (some ⟨B, 0, none⟩)] w fun e w' => ∃ u, e = .returned u ∧ OwnV w' w.heap.size u (valsL ltV R) ∧ Below w.heap.size w w' := by
  obtain ⟨M, G, rb, h1, h2, h3, h4, h5, h6, h7, h8, h9, h10⟩ := h
  have HLS := Lib.hid (lists_any h1)
  have HMP := Lib.hid h2.map
  clear h1
  go_enter Try.func16, Try.ntmps16
  go_wp2_with (first
    | (go_at_call 32; refine HLS.out.mono ?_; rintro e w1 ⟨rfl, rfl⟩)
    | (at_range; refine wpList_range_mp _ rfl _ 57 rfl 24 37 Try.underlying57 M G.length _ rfl HMP.out ?_; intro ob cnt hrg))
  go_frame
  have HBG : Hid (Below w.heap.size w (w.alloc ob)) := Lib.hid (Rk.fresh_alloc _ _)
  have H0 : Hid (RgG (w.alloc ob) M w.heap.size G [] cnt) := Lib.hid ⟨hrg, by simp⟩
  have HG := Lib.hid h2
  have H3 := Lib.hid h3
  have H8 := Lib.hid h8
  have H9 := Lib.hid h9
  clear hrg h2 h3 h4 h5 h6 h7 h8 h9 h10 HLS HMP
  go_loopw [3] (fun v wr => ∃ Gd cnt, RgG wr M w.heap.size G Gd cnt ∧ OwnV wr (w.heap.size + 1) v (vsOf Gd) ∧ Below w.heap.size w wr) (fun _ wr => wr.rangeLeft M w.heap.size)
  case atStart => exact ⟨[], cnt, H0.out, own_none _ _, HBG.out⟩
  case round =>
    obtain ⟨Gd, cn, hR, ho, hb⟩ := hrel
    have HR := Lib.hid hR
    have HB := Lib.hid hb
    have HO := Lib.hid ho
    clear hR hb ho H0 HBG
    go_wp2_with (at_next; refine wpList_next_gm rfl _ rfl _ rfl rfl HR.out ?_ ?_)
    · intro hd
      have hk := HR.out.keys
      have hal := HR.out.all HG.out.keys hd H3.out
      have e := grp_vals (R := R) (A := vsOf Gd) (by unfold vsOf; rw [← gp_map]; exact hk) (fun v => by
        unfold vsOf
        rw [← gp_map, List.mem_map, List.mem_map]
        exact ⟨fun ⟨x, hx, e⟩ => ⟨x, (hal x).1 hx, e⟩, fun ⟨x, hx, e⟩ => ⟨x, (hal x).2 hx, e⟩⟩)
      have hle := HR.out.count H3.out
      have HST := Lib.hid (sortvals_any _ _ (w.heap.size + 1) wr HO.out (by have := HR.out.1.lt; omega) (by have := H9.out; omega))
      rw [e] at HST
      clear e hle hd hk hal
      have hen2 := compare_enters
      go_wp2_with fail
      refine HST.out.mono ?_
      rintro e w2 ⟨rfl, h1, h2⟩
      have HF := Lib.hid (HB.out.trans (h2.mono (Nat.le_succ _)))
      have HO2 := Lib.hid (own_le h1 (Nat.le_succ _))
      clear h1 h2
      go_wp2_with fail
      go_ret
      exact ⟨_, rfl, HO2.out, HF.out⟩
    · intro g w' hg hen
      obtain ⟨v', W5, hr, hb5, ho5, cn', hR5, hlt⟩ := vals_step HG.out H3.out H9.out HB.out HO.out hg
      have HX : Hid (Below w.heap.size w W5 ∧ OwnV W5 (w.heap.size + 1) v' (vsOf (Gd ++ [g])) ∧ RgG W5 M w.heap.size G (Gd ++ [g]) cn' ∧ cn' < cn) := Lib.hid ⟨hb5, ho5, hR5, hlt⟩
      obtain ⟨d0, d1, d2⟩ := cells3_of (Pq.heap_last w' (vobj g.v))
      clear hg hb5 ho5 hR5 hlt
      obtain ⟨⟨gk, gm, gt⟩, ⟨gp, gn, gc⟩, gl⟩ := g
      simp only at hr hen d0 d1 d2
      go_wp2_with (at_builtin; refine wpList_append_run rfl _ _ _ _ rfl _ _ _ _ rfl rfl hr ?_)
      go_roundw
      all_goals obtain ⟨hb5, ho5, hR5, hlt⟩ := HX.out
      case rel => exact ⟨_, cn', hR5, ho5, hb5⟩
      case measure => rw [hR5.1.left_eq, HR.out.1.left_eq]; exact hlt
end Wd
end Go.Proofs.Ytkmfkgjkgnlfnaa
