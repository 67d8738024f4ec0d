/- The program's Passes, whole. Conditions: those that each theorem names. -/
import Derived.Test.YtclmalaomofahaaGreatDoorFtJ
import Derived.Deep.RegionHeld3
namespace Go.Proofs.YtclmalaomofahaaGreatDoor
set_option linter.unusedVariables false
namespace Ft
open Go Go.RowKit Go.Shelf Pq Pq.Pl Rk Px
theorem passes_parts (c : Cd) (ih : ∀ x ∈ c.list, PassOk 8 x) (F : List Fld) (r : Rc) (p : Rp) (w : World) (h : CdW (fun _ => True) w c r) (hbig : Big c) (hf : FldsAt w (.slice p.f.p p.f.n p.f.c) F) (hok : FldsOk F) :
    ∃ X, (∀ W, Below w.heap.size w W → Calls Tryz.prog 26 #[cv r] W fun e w' => e = .returned X ∧ Below W.heap.size W w') ∧
      ∀ W, Below w.heap.size w W → Calls Tryz.prog 25 #[X, pv p] W fun e w' => e = .returned (.bool (pass F c)) ∧ Below W.heap.size W w' := by
  have hln := h.len
  obtain ⟨p1, p2, p3, p4, p5, _⟩ := h.parts
  have hfW : ∀ W, Below w.heap.size w W → FldsAt W (.slice p.f.p p.f.n p.f.c) F := fun W hW => hf.below hW
  have hW : ∀ W, Below w.heap.size w W → CdW (fun _ => True) W c r := fun W hW => h.below hW
  have hkid := h.kid
  clear h
  obtain ⟨rk, rn, rv, rlo, rhi, ⟨rp, rl, rcap⟩⟩ := r
  simp only at hln p1 p2 p3 p4 p5
  subst p1 p2 p3 p4 p5 hln
  by_cases h1 : c.kind = 1
  · refine ⟨_, fun W _ => by rw [h1]; exact said_1 _ _ _ _ _ _ _ W, fun W hB => ?_⟩
    rw [pass1 h1]
    exact ps_const true F p W (hfW W hB) hok
  by_cases h2 : c.kind = 2
  · refine ⟨_, fun W _ => by rw [h2]; exact said_2 _ _ _ _ _ _ _ W, fun W hB => ?_⟩
    rw [pass0 (by omega) (by omega) (by omega) (by omega) (by omega) (by omega) (by omega)]
    exact ps_const false F p W (hfW W hB) hok
  by_cases h3 : c.kind = 3
  · refine ⟨_, fun W _ => by rw [h3]; exact said_3 _ _ _ _ _ _ _ W, fun W hB => ?_⟩
    rw [pass3 h3]
    exact ps_has _ F p W (hfW W hB) hok
  by_cases h4 : c.kind = 4
  · refine ⟨_, fun W _ => by rw [h4]; exact said_4 _ _ _ _ _ _ _ W, fun W hB => ?_⟩
    rw [pass4 h4]
    exact ps_is _ _ F p W (hfW W hB) hok
  by_cases h5 : c.kind = 5
  · refine ⟨_, fun W _ => by rw [h5]; exact said_5 _ _ _ _ _ _ _ W, fun W hB => ?_⟩
    rw [pass5 h5]
    exact ps_in _ _ _ F p W (hfW W hB) hok
  by_cases h6 : c.kind = 6
  · by_cases hl : c.list.length = 1
    · obtain ⟨g, off, cp, er, hg, r', hw', hc⟩ := hkid 0 (by omega)
      simp only [Sl.mk.injEq] at er
      obtain ⟨rfl, _, rfl⟩ := er
      simp only [Nat.zero_mul, Nat.add_zero] at hc
      refine ⟨_, fun W hB => by rw [h6, hl]; exact said_6 _ _ _ _ g off rcap r' W (fun W' hW' => hc W' (hW'.trans (hB.block g hg))) (Nat.lt_of_lt_of_le hg hB.size), fun W hB => ?_⟩
      rw [pass6 h6, not_one hl]
      exact ps_not _ (ih _ (List.getElem_mem _)) r' F p W (hw'.below hB) (hbig.parts.2.2.2 _ (List.getElem_mem _)) (hfW W hB) hok
    · refine ⟨_, fun W _ => by rw [h6]; exact said_6no _ _ _ _ _ _ _ W hl, fun W hB => ?_⟩
      rw [pass6 h6, not_else hl]
      exact ps_none F p W (hfW W hB) hok
  by_cases h7 : c.kind = 7
  · refine ⟨_, fun W _ => by rw [h7]; exact said_7 _ _ _ _ _ _ _ W, fun W hB => ?_⟩
    rw [pass7 h7]
    exact ps_and c ih ⟨c.kind, c.name, c.val, c.low, c.high, ⟨rp, c.list.length, rcap⟩⟩ F p W (hW W hB) hbig (hfW W hB) hok
  by_cases h8 : c.kind = 8
  · refine ⟨_, fun W _ => by rw [h8]; exact said_8 _ _ _ _ _ _ _ W, fun W hB => ?_⟩
    rw [pass8 h8]
    exact ps_or c ih ⟨c.kind, c.name, c.val, c.low, c.high, ⟨rp, c.list.length, rcap⟩⟩ F p W (hW W hB) hbig (hfW W hB) hok
  refine ⟨_, fun W _ => said_0 _ _ _ _ _ _ _ _ W h1 h2 h3 h4 h5 h6 h7 h8, fun W hB => ?_⟩
  rw [pass0 h1 h3 h4 h5 h6 h7 h8]
  exact ps_none F p W (hfW W hB) hok
set_option maxHeartbeats 2000000 in
set_option maxRecDepth 100000 in
theorem pass_step (c : Cd) (ih : ∀ x ∈ c.list, PassOk 8 x) : PassOk 8 c := by
  intro F r p w h hbig hf hok
  obtain ⟨X, hX1, hX2⟩ := passes_parts c ih F r p w h hbig hf hok
  have HT := Lib.hid (boxes w r p)
  obtain ⟨b, hb⟩ : ∃ b, b = pass F c := ⟨_, rfl⟩
  rw [← hb] at hX2 ⊢
  have HX1 := Lib.hid hX1
  have HX2 := Lib.hid hX2
  clear h hbig hf hok hX1 hX2 hb ih
  obtain ⟨k0, k1, ⟨k2, k3, k4⟩, k5, k6, ⟨k7, k8, k9⟩⟩ := r
  obtain ⟨pid, ⟨vp, vn, vc⟩, ⟨fp, fn, fc⟩⟩ := p
  obtain ⟨w1, hw1⟩ : ∃ w1, w1 = (w.alloc (cobj ⟨k0, k1, ⟨k2, k3, k4⟩, k5, k6, ⟨k7, k8, k9⟩⟩)).alloc (pbox ⟨pid, ⟨vp, vn, vc⟩, ⟨fp, fn, fc⟩⟩) := ⟨_, rfl⟩
  rw [← hw1] at HT
  have HS : Hid (∀ W, Below w1.heap.size w1 W → W.cell? ⟨w.heap.size, 0, none⟩ = some (.int .i64 k0) ∧ W.cell? ⟨w.heap.size, 1, none⟩ = some (.string k1) ∧ W.cell? ⟨w.heap.size, 2, none⟩ = some (.int .i64 k2) ∧ W.cell? ⟨w.heap.size, 3, none⟩ = some (.int .i64 k3) ∧ W.cell? ⟨w.heap.size, 4, none⟩ = some (.string k4) ∧ W.cell? ⟨w.heap.size, 5, none⟩ = some (.int .i64 k5) ∧ W.cell? ⟨w.heap.size, 6, none⟩ = some (.int .i64 k6) ∧ W.cell? ⟨w.heap.size, 7, none⟩ = some (.slice k7 k8 k9) ∧
    W.cell? ⟨w.heap.size + 1, 0, none⟩ = some (.int .i64 pid) ∧ W.cell? ⟨w.heap.size + 1, 1, none⟩ = some (.slice vp vn vc) ∧ W.cell? ⟨w.heap.size + 1, 2, none⟩ = some (.slice fp fn fc) ∧ Below w1.heap.size w1 W) := Lib.hid (fun W hW => by
    obtain ⟨a0, a1, a2, a3, a4, a5, a6, a7⟩ := cells8 ((hW.block _ (Rk.lt_of_block HT.out.2.1)).trans HT.out.2.1)
    obtain ⟨b0, b1, b2⟩ := cells3 ((hW.block _ (Rk.lt_of_block HT.out.2.2)).trans HT.out.2.2)
    exact ⟨a0, a1, a2, a3, a4, a5, a6, a7, b0, b1, b2, hW⟩)
  have HK := Lib.hid (fun (a b : World) (ha : Below w1.heap.size w1 a) (hb : Below a.heap.size a b) => HS.out b (ha.trans (hb.mono ha.size)))
  have HBEL := Lib.hid (fun (W : World) (hW : W.cell? ⟨w.heap.size, 0, none⟩ = some (.int .i64 k0) ∧ W.cell? ⟨w.heap.size, 1, none⟩ = some (.string k1) ∧ W.cell? ⟨w.heap.size, 2, none⟩ = some (.int .i64 k2) ∧ W.cell? ⟨w.heap.size, 3, none⟩ = some (.int .i64 k3) ∧ W.cell? ⟨w.heap.size, 4, none⟩ = some (.string k4) ∧ W.cell? ⟨w.heap.size, 5, none⟩ = some (.int .i64 k5) ∧ W.cell? ⟨w.heap.size, 6, none⟩ = some (.int .i64 k6) ∧ W.cell? ⟨w.heap.size, 7, none⟩ = some (.slice k7 k8 k9) ∧
    W.cell? ⟨w.heap.size + 1, 0, none⟩ = some (.int .i64 pid) ∧ W.cell? ⟨w.heap.size + 1, 1, none⟩ = some (.slice vp vn vc) ∧ W.cell? ⟨w.heap.size + 1, 2, none⟩ = some (.slice fp fn fc) ∧ Below w1.heap.size w1 W) => show Below w1.heap.size w1 W from hW.2.2.2.2.2.2.2.2.2.2.2)
  have HY1 := Lib.hid (fun W (hW : Below w1.heap.size w1 W) => HX1.out W (HT.out.1.trans (hW.mono HT.out.1.size)))
  have HY2 := Lib.hid (fun W (hW : Below w1.heap.size w1 W) => HX2.out W (HT.out.1.trans (hW.mono HT.out.1.size)))
  have hbd : Below w1.heap.size w1 w1.drew := (Below.refl _ _).drew
  have hS := HS.out w1.drew hbd
  go_enter Tryz.func8, Tryz.ntmps8
  go_wp2_with fail
  rw [← hw1]
  clear hw1
  go_region_held3 (fun W => W.cell? ⟨w.heap.size, 0, none⟩ = some (.int .i64 k0) ∧ W.cell? ⟨w.heap.size, 1, none⟩ = some (.string k1) ∧ W.cell? ⟨w.heap.size, 2, none⟩ = some (.int .i64 k2) ∧ W.cell? ⟨w.heap.size, 3, none⟩ = some (.int .i64 k3) ∧ W.cell? ⟨w.heap.size, 4, none⟩ = some (.string k4) ∧ W.cell? ⟨w.heap.size, 5, none⟩ = some (.int .i64 k5) ∧ W.cell? ⟨w.heap.size, 6, none⟩ = some (.int .i64 k6) ∧ W.cell? ⟨w.heap.size, 7, none⟩ = some (.slice k7 k8 k9) ∧
    W.cell? ⟨w.heap.size + 1, 0, none⟩ = some (.int .i64 pid) ∧ W.cell? ⟨w.heap.size + 1, 1, none⟩ = some (.slice vp vn vc) ∧ W.cell? ⟨w.heap.size + 1, 2, none⟩ = some (.slice fp fn fc) ∧ Below w1.heap.size w1 W)
    (first | assumption | exact HK.out _ _ (HBEL.out _ (by assumption)) hb3)
    (first
      | (go_at_call 26; refine (HY1.out _ (HBEL.out _ (by assumption))).mono ?_; rintro e w4 ⟨rfl, hb3⟩)
      | (go_at_call 25; refine (HY2.out _ (HBEL.out _ (by assumption))).mono ?_; rintro e w4 ⟨rfl, hb3⟩))
  have hb4 := HBEL.out _ (by assumption)
  clear hS
  go_wp2_with fail
  go_ret
  exact ⟨rfl, HT.out.1.trans (hb4.mono HT.out.1.size)⟩
theorem pass_any : ∀ c, PassOk 8 c := pass_all pass_step
end Ft
end Go.Proofs.YtclmalaomofahaaGreatDoor
