/- The walk of FilterPasses. Conditions: those that each theorem names. -/
import Derived.Test.YtclmalaomofahaaGreatDoorFtS
import Derived.Test.YtclmalaomofahaaGreatDoorFtD
namespace Go.Proofs.YtclmalaomofahaaGreatDoor
set_option linter.unusedVariables false
namespace Ft
open Go Go.RowKit Go.Shelf Pq Pq.Pl Px
set_option maxHeartbeats 4000000 in
set_option maxRecDepth 100000 in
theorem passes_walk (c : Cd) (r : Rc) (F : List Fld) (p : Rp) (w : World) (h : CdW (fun _ => True) w c r) (hbig : Big c) (hf : FldsAt w (.slice p.f.p p.f.n p.f.c) F) (hok : FldsOk F) :
    Calls Tryz.prog 3 #[cv r, pv p] w fun e w' => e = .returned (.bool true) ∧ Below w.heap.size w w' := by
  have HT := Lib.hid (boxes w r p)
  have HTW := Lib.hid (twin_any c r _ (h.below HT.out.1) hbig)
  have HC0 := Lib.hid h
  have HBG := Lib.hid hbig
  have HF0 := Lib.hid hf
  have HOK := Lib.hid hok
  obtain ⟨w1, hw1⟩ : ∃ w1, w1 = (w.alloc (cobj r)).alloc (pbox p) := ⟨_, rfl⟩
  rw [← hw1] at HT HTW
  obtain ⟨a0, a1, a2, a3, a4, a5, a6, a7⟩ := cells8 HT.out.2.1
  clear h hbig hf hok
  obtain ⟨k0, k1, ⟨k2, k3, k4⟩, k5, k6, ⟨k7, k8, k9⟩⟩ := r
  obtain ⟨pid, ⟨vp, vn, vc⟩, ⟨fp, fn, fc⟩⟩ := p
  simp only at a0 a1 a2 a3 a4 a5 a6 a7
  go_enter Tryz.func3, Tryz.ntmps3
  go_wp2_with fail
  rw [← hw1]
  clear hw1
  refine HTW.out.mono ?_
  clear HTW a0 a1 a2 a3 a4 a5 a6 a7
  rintro e w2 ⟨r', rfl, hm, hb2⟩
  have hA := Rk.fresh_alloc w2 (cobj r')
  have HM := Lib.hid ((hm.wide).below hA)
  have hz3 := Rk.heap_last w2 (cobj r')
  have HB3 := Lib.hid (hb2.trans (hA.mono hb2.size))
  obtain ⟨w3, hw3⟩ : ∃ w3, w3 = w2.alloc (cobj r') := ⟨_, rfl⟩
  rw [← hw3] at HM HB3 hz3
  have HZ3 := Lib.hid hz3
  have HBX := Lib.hid (HT.out.1.trans (HB3.out.mono HT.out.1.size))
  obtain ⟨l0, l1, ⟨l2, l3, l4⟩, l5, l6, ⟨l7, l8, l9⟩⟩ := r'
  clear hm hb2 hA hz3
  have HS : Hid (∀ W, Below w3.heap.size w3 W → W.cell? ⟨w.heap.size, 0, none⟩ = some (.int .i64 k0) ∧ W.cell? ⟨w.heap.size, 1, none⟩ = some (.string k1) ∧ W.cell? ⟨w.heap.size, 2, none⟩ = some (.int .i64 k2) ∧ W.cell? ⟨w.heap.size, 3, none⟩ = some (.int .i64 k3) ∧ W.cell? ⟨w.heap.size, 4, none⟩ = some (.string k4) ∧ W.cell? ⟨w.heap.size, 5, none⟩ = some (.int .i64 k5) ∧ W.cell? ⟨w.heap.size, 6, none⟩ = some (.int .i64 k6) ∧ W.cell? ⟨w.heap.size, 7, none⟩ = some (.slice k7 k8 k9) ∧ W.cell? ⟨w.heap.size + 1, 0, none⟩ = some (.int .i64 pid) ∧ W.cell? ⟨w.heap.size + 1, 1, none⟩ = some (.slice vp vn vc) ∧ W.cell? ⟨w.heap.size + 1, 2, none⟩ = some (.slice fp fn fc) ∧ W.cell? ⟨w2.heap.size, 0, none⟩ = some (.int .i64 l0) ∧ W.cell? ⟨w2.heap.size, 1, none⟩ = some (.string l1) ∧ W.cell? ⟨w2.heap.size, 2, none⟩ = some (.int .i64 l2) ∧ W.cell? ⟨w2.heap.size, 3, none⟩ = some (.int .i64 l3) ∧ W.cell? ⟨w2.heap.size, 4, none⟩ = some (.string l4) ∧ W.cell? ⟨w2.heap.size, 5, none⟩ = some (.int .i64 l5) ∧ W.cell? ⟨w2.heap.size, 6, none⟩ = some (.int .i64 l6) ∧ W.cell? ⟨w2.heap.size, 7, none⟩ = some (.slice l7 l8 l9) ∧ Below w3.heap.size w3 W) := Lib.hid (fun W hW => by
    have key : ∀ b o, w1.heap[b]? = some o → W.heap[b]? = some o := fun b o h => by
      have h2 := (HB3.out.block b (Rk.lt_of_block h)).trans h
      exact (hW.block b (Rk.lt_of_block h2)).trans h2
    obtain ⟨a0, a1, a2, a3, a4, a5, a6, a7⟩ := cells8 (key _ _ HT.out.2.1)
    obtain ⟨b0, b1, b2⟩ := cells3 (key _ _ HT.out.2.2)
    obtain ⟨c0, c1, c2, c3, c4, c5, c6, c7⟩ := cells8 ((hW.block _ (Rk.lt_of_block HZ3.out)).trans HZ3.out)
    exact ⟨a0, a1, a2, a3, a4, a5, a6, a7, b0, b1, b2, c0, c1, c2, c3, c4, c5, c6, c7, hW⟩)
  have HBEL : Hid (∀ W, (W.cell? ⟨w.heap.size, 0, none⟩ = some (.int .i64 k0) ∧ W.cell? ⟨w.heap.size, 1, none⟩ = some (.string k1) ∧ W.cell? ⟨w.heap.size, 2, none⟩ = some (.int .i64 k2) ∧ W.cell? ⟨w.heap.size, 3, none⟩ = some (.int .i64 k3) ∧ W.cell? ⟨w.heap.size, 4, none⟩ = some (.string k4) ∧ W.cell? ⟨w.heap.size, 5, none⟩ = some (.int .i64 k5) ∧ W.cell? ⟨w.heap.size, 6, none⟩ = some (.int .i64 k6) ∧ W.cell? ⟨w.heap.size, 7, none⟩ = some (.slice k7 k8 k9) ∧ W.cell? ⟨w.heap.size + 1, 0, none⟩ = some (.int .i64 pid) ∧ W.cell? ⟨w.heap.size + 1, 1, none⟩ = some (.slice vp vn vc) ∧ W.cell? ⟨w.heap.size + 1, 2, none⟩ = some (.slice fp fn fc) ∧ W.cell? ⟨w2.heap.size, 0, none⟩ = some (.int .i64 l0) ∧ W.cell? ⟨w2.heap.size, 1, none⟩ = some (.string l1) ∧ W.cell? ⟨w2.heap.size, 2, none⟩ = some (.int .i64 l2) ∧ W.cell? ⟨w2.heap.size, 3, none⟩ = some (.int .i64 l3) ∧ W.cell? ⟨w2.heap.size, 4, none⟩ = some (.string l4) ∧ W.cell? ⟨w2.heap.size, 5, none⟩ = some (.int .i64 l5) ∧ W.cell? ⟨w2.heap.size, 6, none⟩ = some (.int .i64 l6) ∧ W.cell? ⟨w2.heap.size, 7, none⟩ = some (.slice l7 l8 l9) ∧ Below w3.heap.size w3 W) → Below w3.heap.size w3 W) := Lib.hid (fun W hW => hW.2.2.2.2.2.2.2.2.2.2.2.2.2.2.2.2.2.2.2)
  have HK := Lib.hid (fun (a b : World) (ha : Below w3.heap.size w3 a) (hb : Below a.heap.size a b) => HS.out b (ha.trans (hb.mono ha.size)))
  obtain ⟨b, hb⟩ : ∃ b, b = pass F c := ⟨_, rfl⟩
  obtain ⟨z1, hz1⟩ : ∃ z1, z1 = sizeC c := ⟨_, rfl⟩
  obtain ⟨z2, hz2⟩ : ∃ z2, z2 = depthC c := ⟨_, rfl⟩
  have C1 : Hid (∀ W, Below w3.heap.size w3 W → Calls Tryz.prog 8 #[cv ⟨l0, l1, ⟨l2, l3, l4⟩, l5, l6, ⟨l7, l8, l9⟩⟩, pv ⟨pid, ⟨vp, vn, vc⟩, ⟨fp, fn, fc⟩⟩] W fun e w' => e = .returned (.bool b) ∧ Below W.heap.size W w') := Lib.hid (fun W hW => by
    rw [hb]; exact pass_any c F _ _ W (HM.out.below hW) HBG.out ((HF0.out.below HBX.out).below hW) HOK.out)
  have C2 : Hid (∀ W, Below w3.heap.size w3 W → Calls Tryz.prog 9 #[cv ⟨k0, k1, ⟨k2, k3, k4⟩, k5, k6, ⟨k7, k8, k9⟩⟩, pv ⟨pid, ⟨vp, vn, vc⟩, ⟨fp, fn, fc⟩⟩] W fun e w' => e = .returned (.bool b) ∧ Below W.heap.size W w') := Lib.hid (fun W hW => by
    rw [hb]; exact rpass_any c F _ _ W ((HC0.out.below HBX.out).below hW) HBG.out ((HF0.out.below HBX.out).below hW) HOK.out)
  have C3 : Hid (∀ W, Below w3.heap.size w3 W → Calls Tryz.prog 10 #[cv ⟨l0, l1, ⟨l2, l3, l4⟩, l5, l6, ⟨l7, l8, l9⟩⟩] W fun e w' => e = .returned (.int .i64 z1) ∧ Below W.heap.size W w') := Lib.hid (fun W hW => by
    rw [hz1]; exact size_any c _ W (HM.out.below hW) HBG.out)
  have C4 : Hid (∀ W, Below w3.heap.size w3 W → Calls Tryz.prog 11 #[cv ⟨k0, k1, ⟨k2, k3, k4⟩, k5, k6, ⟨k7, k8, k9⟩⟩] W fun e w' => e = .returned (.int .i64 z1) ∧ Below W.heap.size W w') := Lib.hid (fun W hW => by
    rw [hz1]; exact rsize_any c _ W ((HC0.out.below HBX.out).below hW) HBG.out)
  have C5 : Hid (∀ W, Below w3.heap.size w3 W → Calls Tryz.prog 12 #[cv ⟨l0, l1, ⟨l2, l3, l4⟩, l5, l6, ⟨l7, l8, l9⟩⟩] W fun e w' => e = .returned (.int .i64 z2) ∧ Below W.heap.size W w') := Lib.hid (fun W hW => by
    rw [hz2]; exact depth_any c _ W (HM.out.below hW) HBG.out)
  have C6 : Hid (∀ W, Below w3.heap.size w3 W → Calls Tryz.prog 13 #[cv ⟨k0, k1, ⟨k2, k3, k4⟩, k5, k6, ⟨k7, k8, k9⟩⟩] W fun e w' => e = .returned (.int .i64 z2) ∧ Below W.heap.size W w') := Lib.hid (fun W hW => by
    rw [hz2]; exact rdepth_any c _ W ((HC0.out.below HBX.out).below hW) HBG.out)
  have C7 : Hid (∀ W, Below w3.heap.size w3 W → Calls Tryz.prog 14 #[cv ⟨l0, l1, ⟨l2, l3, l4⟩, l5, l6, ⟨l7, l8, l9⟩⟩, cv ⟨k0, k1, ⟨k2, k3, k4⟩, k5, k6, ⟨k7, k8, k9⟩⟩] W fun e w' => e = .returned (.bool true) ∧ Below W.heap.size W w') := Lib.hid (fun W hW => rsame_any c _ _ W (HM.out.below hW) ((HC0.out.below HBX.out).below hW) HBG.out)
  have g1 : (b == b) = true := by simp
  have g2 : (z1 == z1) = true := by simp
  have g3 : (z2 == z2) = true := by simp
  have hS := HS.out w3.drew (Below.refl _ _).drew
  have hdr : Below w3.heap.size w3 w3.drew := (Below.refl _ _).drew
  clear hb hz1 hz2
  go_wp2_with fail
  rw [← hw3]
  clear hw3
  go_region_held3 (fun W => W.cell? ⟨w.heap.size, 0, none⟩ = some (.int .i64 k0) ∧ W.cell? ⟨w.heap.size, 1, none⟩ = some (.string k1) ∧ W.cell? ⟨w.heap.size, 2, none⟩ = some (.int .i64 k2) ∧ W.cell? ⟨w.heap.size, 3, none⟩ = some (.int .i64 k3) ∧ W.cell? ⟨w.heap.size, 4, none⟩ = some (.string k4) ∧ W.cell? ⟨w.heap.size, 5, none⟩ = some (.int .i64 k5) ∧ W.cell? ⟨w.heap.size, 6, none⟩ = some (.int .i64 k6) ∧ W.cell? ⟨w.heap.size, 7, none⟩ = some (.slice k7 k8 k9) ∧ W.cell? ⟨w.heap.size + 1, 0, none⟩ = some (.int .i64 pid) ∧ W.cell? ⟨w.heap.size + 1, 1, none⟩ = some (.slice vp vn vc) ∧ W.cell? ⟨w.heap.size + 1, 2, none⟩ = some (.slice fp fn fc) ∧ W.cell? ⟨w2.heap.size, 0, none⟩ = some (.int .i64 l0) ∧ W.cell? ⟨w2.heap.size, 1, none⟩ = some (.string l1) ∧ W.cell? ⟨w2.heap.size, 2, none⟩ = some (.int .i64 l2) ∧ W.cell? ⟨w2.heap.size, 3, none⟩ = some (.int .i64 l3) ∧ W.cell? ⟨w2.heap.size, 4, none⟩ = some (.string l4) ∧ W.cell? ⟨w2.heap.size, 5, none⟩ = some (.int .i64 l5) ∧ W.cell? ⟨w2.heap.size, 6, none⟩ = some (.int .i64 l6) ∧ W.cell? ⟨w2.heap.size, 7, none⟩ = some (.slice l7 l8 l9) ∧ Below w3.heap.size w3 W)
    (first | assumption | exact HK.out _ _ (HBEL.out _ (by assumption)) hb3)
    (first
      | (go_at_call 8; refine (C1.out _ (HBEL.out _ (by assumption))).mono ?_; rintro e w4 ⟨rfl, hb3⟩)
      | (go_at_call 9; refine (C2.out _ (HBEL.out _ (by assumption))).mono ?_; rintro e w4 ⟨rfl, hb3⟩)
      | (go_at_call 10; refine (C3.out _ (HBEL.out _ (by assumption))).mono ?_; rintro e w4 ⟨rfl, hb3⟩)
      | (go_at_call 11; refine (C4.out _ (HBEL.out _ (by assumption))).mono ?_; rintro e w4 ⟨rfl, hb3⟩)
      | (go_at_call 12; refine (C5.out _ (HBEL.out _ (by assumption))).mono ?_; rintro e w4 ⟨rfl, hb3⟩)
      | (go_at_call 13; refine (C6.out _ (HBEL.out _ (by assumption))).mono ?_; rintro e w4 ⟨rfl, hb3⟩)
      | (go_at_call 14; refine (C7.out _ (HBEL.out _ (by assumption))).mono ?_; rintro e w4 ⟨rfl, hb3⟩)
      | (go_at_call 15; refine (sure_any _).mono ?_; rintro e w4 ⟨rfl, hb3⟩))
  have hb4 := HBEL.out _ (by assumption)
  clear hS
  go_wp2_with fail
  go_ret
  exact ⟨rfl, HBX.out.trans (hb4.mono HBX.out.size)⟩
end Ft
end Go.Proofs.YtclmalaomofahaaGreatDoor
