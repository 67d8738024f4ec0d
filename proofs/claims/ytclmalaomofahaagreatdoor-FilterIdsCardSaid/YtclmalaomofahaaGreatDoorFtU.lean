/- The walk of FilterIds. Conditions: those that each theorem names. -/
import Derived.Test.YtclmalaomofahaaGreatDoorFtS
namespace Go.Proofs.YtclmalaomofahaaGreatDoor
set_option linter.unusedVariables false
namespace Ft
open Go Go.RowKit Go.Shelf Pq Pq.Pl Px Ids
set_option maxHeartbeats 4000000 in
set_option maxRecDepth 100000 in
theorem ids_walk (c : Cd) (r : Rc) (L : List Pt) (v : Value) (w : World) (h : CdW (fun _ => True) w c r) (hbig : Big c) (hL : PtsAt w v L) (hok : OkL L) :
    Calls Tryz.prog 4 #[cv r, v] w fun e w' => e = .returned (.bool true) ∧ Below w.heap.size w w' := by
  have HA := Lib.hid (Rk.fresh_alloc w (cobj r))
  have HZ := Lib.hid (Rk.heap_last w (cobj r))
  obtain ⟨w1, hw1⟩ : ∃ w1, w1 = w.alloc (cobj r) := ⟨_, rfl⟩
  rw [← hw1] at HA HZ
  have C1 := Lib.hid (fun W (hW : Below w1.heap.size w1 W) => ids_any c r L v W ((h.below HA.out).below hW) hbig ((hL.below HA.out).below hW) hok)
  have C2 := Lib.hid (fun W (hW : Below w1.heap.size w1 W) => rids_any c r L v W ((h.below HA.out).below hW) hbig ((hL.below HA.out).below hW) hok)
  have hlen : (setL (idsOf c L)).length ≤ maxLen := by
    have h1 := setL_len (idsOf c L)
    have h2 := idsOf_len c L
    have h3 := hok.len
    unfold maxLen
    omega
  have C3 := Lib.hid (fun (W : World) (u u' : Value) (a : IntsAt W u (setL (idsOf c L))) (b : IntsAt W u' (setL (idsOf c L))) => by
    have h := sameRef_any _ _ u u' W a b hlen hlen
    rw [eqB_same] at h
    exact h)
  obtain ⟨lp, lc, rfl⟩ := hL.form
  clear h hbig hL hok hlen
  obtain ⟨k0, k1, ⟨k2, k3, k4⟩, k5, k6, ⟨k7, k8, k9⟩⟩ := r
  have HS : Hid (∀ W, Below w1.heap.size w1 W → W.cell? ⟨w.heap.size, 0, none⟩ = some (.int .i64 k0) ∧ W.cell? ⟨w.heap.size, 1, none⟩ = some (.string k1) ∧ W.cell? ⟨w.heap.size, 2, none⟩ = some (.int .i64 k2) ∧ W.cell? ⟨w.heap.size, 3, none⟩ = some (.int .i64 k3) ∧ W.cell? ⟨w.heap.size, 4, none⟩ = some (.string k4) ∧ W.cell? ⟨w.heap.size, 5, none⟩ = some (.int .i64 k5) ∧ W.cell? ⟨w.heap.size, 6, none⟩ = some (.int .i64 k6) ∧ W.cell? ⟨w.heap.size, 7, none⟩ = some (.slice k7 k8 k9) ∧ Below w1.heap.size w1 W) := Lib.hid (fun W hW => by
    obtain ⟨a0, a1, a2, a3, a4, a5, a6, a7⟩ := cells8 ((hW.block _ (Rk.lt_of_block HZ.out)).trans HZ.out)
    exact ⟨a0, a1, a2, a3, a4, a5, a6, a7, hW⟩)
  have HBEL : Hid (∀ W, (W.cell? ⟨w.heap.size, 0, none⟩ = some (.int .i64 k0) ∧ W.cell? ⟨w.heap.size, 1, none⟩ = some (.string k1) ∧ W.cell? ⟨w.heap.size, 2, none⟩ = some (.int .i64 k2) ∧ W.cell? ⟨w.heap.size, 3, none⟩ = some (.int .i64 k3) ∧ W.cell? ⟨w.heap.size, 4, none⟩ = some (.string k4) ∧ W.cell? ⟨w.heap.size, 5, none⟩ = some (.int .i64 k5) ∧ W.cell? ⟨w.heap.size, 6, none⟩ = some (.int .i64 k6) ∧ W.cell? ⟨w.heap.size, 7, none⟩ = some (.slice k7 k8 k9) ∧ Below w1.heap.size w1 W) → Below w1.heap.size w1 W) := Lib.hid (fun W hW => hW.2.2.2.2.2.2.2.2)
  have HK := Lib.hid (fun (a b : World) (ha : Below w1.heap.size w1 a) (hb : Below a.heap.size a b) => HS.out b (ha.trans (hb.mono ha.size)))
  have hS := HS.out w1.drew (Below.refl _ _).drew
  generalize L.length = n at *
  go_enter Tryz.func4, Tryz.ntmps4
  go_wp2_with fail
  rw [← hw1]
  clear hw1
  go_region_held3 (fun W => W.cell? ⟨w.heap.size, 0, none⟩ = some (.int .i64 k0) ∧ W.cell? ⟨w.heap.size, 1, none⟩ = some (.string k1) ∧ W.cell? ⟨w.heap.size, 2, none⟩ = some (.int .i64 k2) ∧ W.cell? ⟨w.heap.size, 3, none⟩ = some (.int .i64 k3) ∧ W.cell? ⟨w.heap.size, 4, none⟩ = some (.string k4) ∧ W.cell? ⟨w.heap.size, 5, none⟩ = some (.int .i64 k5) ∧ W.cell? ⟨w.heap.size, 6, none⟩ = some (.int .i64 k6) ∧ W.cell? ⟨w.heap.size, 7, none⟩ = some (.slice k7 k8 k9) ∧ Below w1.heap.size w1 W)
    (first | assumption | exact HK.out _ _ (HBEL.out _ (by assumption)) hb3)
    (first
      | (go_at_call 17; refine (C1.out _ (HBEL.out _ (by assumption))).mono ?_; rintro e w4 ⟨u, rfl, ho, hb3⟩; have hi := ho.at; clear ho)
      | (go_at_call 18; refine (C2.out _ (HBEL.out _ (by assumption))).mono ?_; rintro e w4 ⟨u2, rfl, ho2, hb3⟩; have hi2 := ho2.at; have hi1 := KAt.below (by assumption) hb3; clear ho2)
      | (go_at_call 16; refine (C3.out _ _ _ (by assumption) (by assumption)).mono ?_; rintro e w4 ⟨rfl, hb3⟩)
      | (go_at_call 15; refine (sure_any _).mono ?_; rintro e w4 ⟨rfl, hb3⟩))
  have hb4 := HBEL.out _ (by assumption)
  clear hS
  go_wp2_with fail
  go_ret
  exact ⟨rfl, HA.out.trans (hb4.mono HA.out.size)⟩
end Ft
end Go.Proofs.YtclmalaomofahaaGreatDoor
