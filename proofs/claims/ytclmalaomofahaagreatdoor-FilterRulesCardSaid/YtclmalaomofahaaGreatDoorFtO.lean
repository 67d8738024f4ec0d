/- Check of the conditions that the law's sure asks of: sound, whole. Conditions: those that each theorem names. -/
import Derived.Test.YtclmalaomofahaaGreatDoorFtN
import Derived.Deep.DeepCutAuto
namespace Go.Proofs.YtclmalaomofahaaGreatDoor
set_option linter.unusedVariables false
namespace Ft
open Go Go.RowKit Go.Shelf Pq Pq.Pl Rk Px
theorem tain_has (v : Value) (w : World) : (Instr.typeAssert (.iface 66 v) 49 70 true).run Tryz.prog w = .ok (.tuple #[.agg #[.string ⟨#[]⟩, .int .i64 0, .int .i64 0], .bool false]) w := by kernel_rfl
set_option maxHeartbeats 2000000 in
set_option maxRecDepth 100000 in
theorem sound_in (w : World) : Calls Tryz.prog 55 #[cv ⟨5, ⟨#[97]⟩, v0, 5, 9, nil0⟩] w fun e w' => e = .returned (.bool true) ∧ Below w.heap.size w w' := by
  have HA := Lib.hid (Rk.fresh_alloc w (cobj ⟨5, ⟨#[97]⟩, v0, 5, 9, nil0⟩))
  have HZ := Lib.hid (Rk.heap_last w (cobj ⟨5, ⟨#[97]⟩, v0, 5, 9, nil0⟩))
  obtain ⟨w1, hw1⟩ : ∃ w1, w1 = w.alloc (cobj ⟨5, ⟨#[97]⟩, v0, 5, 9, nil0⟩) := ⟨_, rfl⟩
  rw [← hw1] at HA HZ
  have HC := Lib.hid (said_5 ⟨#[97]⟩ v0 5 9 none 0 0)
  have HM := Lib.hid (fun W => cond_in ⟨#[97]⟩ 5 9 W)
  have HK := Lib.hid (fun W => alike_yes 5 ⟨#[97]⟩ v0 5 9 none none 0 0 0 W)
  have hm := met_in
  simp [go_sem] at hm
  have hq := eqN_in
  have hta := ta_in_in
  have HS : Hid (∀ W, Below w1.heap.size w1 W → W.cell? ⟨w.heap.size, 0, none⟩ = some (.int .i64 5) ∧ W.cell? ⟨w.heap.size, 1, none⟩ = some (.string ⟨#[97]⟩) ∧ W.cell? ⟨w.heap.size, 2, none⟩ = some (.int .i64 0) ∧ W.cell? ⟨w.heap.size, 3, none⟩ = some (.int .i64 0) ∧ W.cell? ⟨w.heap.size, 4, none⟩ = some (.string ⟨#[]⟩) ∧ W.cell? ⟨w.heap.size, 5, none⟩ = some (.int .i64 5) ∧ W.cell? ⟨w.heap.size, 6, none⟩ = some (.int .i64 9) ∧ W.cell? ⟨w.heap.size, 7, none⟩ = some (.slice none 0 0) ∧ Below w1.heap.size w1 W) := Lib.hid (fun W hW => by
    obtain ⟨a0, a1, a2, a3, a4, a5, a6, a7⟩ := cells8 ((hW.block _ (Rk.lt_of_block HZ.out)).trans HZ.out)
    exact ⟨a0, a1, a2, a3, a4, a5, a6, a7, hW⟩)
  have HB : Hid (∀ W, (W.cell? ⟨w.heap.size, 0, none⟩ = some (.int .i64 5) ∧ W.cell? ⟨w.heap.size, 1, none⟩ = some (.string ⟨#[97]⟩) ∧ W.cell? ⟨w.heap.size, 2, none⟩ = some (.int .i64 0) ∧ W.cell? ⟨w.heap.size, 3, none⟩ = some (.int .i64 0) ∧ W.cell? ⟨w.heap.size, 4, none⟩ = some (.string ⟨#[]⟩) ∧ W.cell? ⟨w.heap.size, 5, none⟩ = some (.int .i64 5) ∧ W.cell? ⟨w.heap.size, 6, none⟩ = some (.int .i64 9) ∧ W.cell? ⟨w.heap.size, 7, none⟩ = some (.slice none 0 0) ∧ Below w1.heap.size w1 W) → Below w1.heap.size w1 W) := Lib.hid (fun W hW => hW.2.2.2.2.2.2.2.2)
  have HKE := Lib.hid (fun (a b : World) (ha : Below w1.heap.size w1 a) (hb : Below a.heap.size a b) => HS.out b (ha.trans (hb.mono ha.size)))
  go_enter Tryz.func55, Tryz.ntmps55
  go_wp2_with fail
  rw [← hw1]
  clear hw1
  refine (HC.out w1).mono ?_
  clear HC
  rintro e w2 ⟨rfl, hb2⟩
  have hS := HS.out w2.drew (hb2.drew)
  have HB2 := Lib.hid hb2
  clear hb2
  go_wp2_with fail
  go_region_held3 (fun W => W.cell? ⟨w.heap.size, 0, none⟩ = some (.int .i64 5) ∧ W.cell? ⟨w.heap.size, 1, none⟩ = some (.string ⟨#[97]⟩) ∧ W.cell? ⟨w.heap.size, 2, none⟩ = some (.int .i64 0) ∧ W.cell? ⟨w.heap.size, 3, none⟩ = some (.int .i64 0) ∧ W.cell? ⟨w.heap.size, 4, none⟩ = some (.string ⟨#[]⟩) ∧ W.cell? ⟨w.heap.size, 5, none⟩ = some (.int .i64 5) ∧ W.cell? ⟨w.heap.size, 6, none⟩ = some (.int .i64 9) ∧ W.cell? ⟨w.heap.size, 7, none⟩ = some (.slice none 0 0) ∧ Below w1.heap.size w1 W)
    (first | assumption | exact HKE.out _ _ (HB.out _ (by assumption)) hb3)
    (first
      | (go_at_call 140; refine (HM.out _).mono ?_; rintro e w4 ⟨rfl, hb3⟩)
      | (go_at_call 44; refine (HK.out _).mono ?_; rintro e w4 ⟨rfl, hb3⟩))
  have hb4 := HB.out _ (by assumption)
  obtain ⟨w5, rfl⟩ : ∃ w5 : World, w5 = w4 := ⟨_, rfl⟩
  have HB4 := Lib.hid (HA.out.trans (hb4.mono HA.out.size))
  have HA5 := Lib.hid (Rk.fresh_alloc w5 (.cells #[.string ⟨#[97]⟩, .int .i64 5, .int .i64 9] 70))
  have hz := Rk.heap_last w5 (.cells #[.string ⟨#[97]⟩, .int .i64 5, .int .i64 9] 70)
  have HZ5 := Lib.hid hz
  obtain ⟨y0, y1, y2⟩ := cells3 hz
  clear hb4 hS hz
  go_wp2_with fail
  refine (end_5 _).mono ?_
  rintro e w6 ⟨rfl, hb6⟩
  have HB6 := Lib.hid (HA5.out.trans (hb6.mono HA5.out.size))
  obtain ⟨z0, z1, z2⟩ := cells3 ((hb6.block _ (Rk.lt_of_block HZ5.out)).trans HZ5.out)
  clear hb6 y0 y1 y2
  go_wp2_with fail
  refine (end_9 _).mono ?_
  rintro e w7 ⟨rfl, hb7⟩
  have HB7 := Lib.hid (HB4.out.trans ((HB6.out.trans (hb7.mono HB6.out.size)).mono HB4.out.size))
  clear hb7
  go_wp2_with fail
  go_ret
  exact ⟨rfl, HB7.out⟩
set_option maxHeartbeats 2000000 in
set_option maxRecDepth 100000 in
theorem sound_has (w : World) : Calls Tryz.prog 55 #[cv ⟨3, ⟨#[122]⟩, v0, 0, 0, nil0⟩] w fun e w' => e = .returned (.bool true) ∧ Below w.heap.size w w' := by
  have HA := Lib.hid (Rk.fresh_alloc w (cobj ⟨3, ⟨#[122]⟩, v0, 0, 0, nil0⟩))
  have HZ := Lib.hid (Rk.heap_last w (cobj ⟨3, ⟨#[122]⟩, v0, 0, 0, nil0⟩))
  obtain ⟨w1, hw1⟩ : ∃ w1, w1 = w.alloc (cobj ⟨3, ⟨#[122]⟩, v0, 0, 0, nil0⟩) := ⟨_, rfl⟩
  rw [← hw1] at HA HZ
  have HC := Lib.hid (said_3 ⟨#[122]⟩ v0 0 0 none 0 0)
  have HM := Lib.hid (fun W => cond_has ⟨#[122]⟩ W)
  have HK := Lib.hid (fun W => alike_yes 3 ⟨#[122]⟩ v0 0 0 none none 0 0 0 W)
  have hm := met_has
  simp [go_sem] at hm
  have hq := eqN_has
  have hta := tain_has
  have HS : Hid (∀ W, Below w1.heap.size w1 W → W.cell? ⟨w.heap.size, 0, none⟩ = some (.int .i64 3) ∧ W.cell? ⟨w.heap.size, 1, none⟩ = some (.string ⟨#[122]⟩) ∧ W.cell? ⟨w.heap.size, 2, none⟩ = some (.int .i64 0) ∧ W.cell? ⟨w.heap.size, 3, none⟩ = some (.int .i64 0) ∧ W.cell? ⟨w.heap.size, 4, none⟩ = some (.string ⟨#[]⟩) ∧ W.cell? ⟨w.heap.size, 5, none⟩ = some (.int .i64 0) ∧ W.cell? ⟨w.heap.size, 6, none⟩ = some (.int .i64 0) ∧ W.cell? ⟨w.heap.size, 7, none⟩ = some (.slice none 0 0) ∧ Below w1.heap.size w1 W) := Lib.hid (fun W hW => by
    obtain ⟨a0, a1, a2, a3, a4, a5, a6, a7⟩ := cells8 ((hW.block _ (Rk.lt_of_block HZ.out)).trans HZ.out)
    exact ⟨a0, a1, a2, a3, a4, a5, a6, a7, hW⟩)
  have HB : Hid (∀ W, (W.cell? ⟨w.heap.size, 0, none⟩ = some (.int .i64 3) ∧ W.cell? ⟨w.heap.size, 1, none⟩ = some (.string ⟨#[122]⟩) ∧ W.cell? ⟨w.heap.size, 2, none⟩ = some (.int .i64 0) ∧ W.cell? ⟨w.heap.size, 3, none⟩ = some (.int .i64 0) ∧ W.cell? ⟨w.heap.size, 4, none⟩ = some (.string ⟨#[]⟩) ∧ W.cell? ⟨w.heap.size, 5, none⟩ = some (.int .i64 0) ∧ W.cell? ⟨w.heap.size, 6, none⟩ = some (.int .i64 0) ∧ W.cell? ⟨w.heap.size, 7, none⟩ = some (.slice none 0 0) ∧ Below w1.heap.size w1 W) → Below w1.heap.size w1 W) := Lib.hid (fun W hW => hW.2.2.2.2.2.2.2.2)
  have HKE := Lib.hid (fun (a b : World) (ha : Below w1.heap.size w1 a) (hb : Below a.heap.size a b) => HS.out b (ha.trans (hb.mono ha.size)))
  go_enter Tryz.func55, Tryz.ntmps55
  go_wp2_with fail
  rw [← hw1]
  clear hw1
  refine (HC.out w1).mono ?_
  clear HC
  rintro e w2 ⟨rfl, hb2⟩
  have hS := HS.out w2.drew (hb2.drew)
  have HB2 := Lib.hid hb2
  clear hb2
  go_wp2_with fail
  go_region_held3 (fun W => W.cell? ⟨w.heap.size, 0, none⟩ = some (.int .i64 3) ∧ W.cell? ⟨w.heap.size, 1, none⟩ = some (.string ⟨#[122]⟩) ∧ W.cell? ⟨w.heap.size, 2, none⟩ = some (.int .i64 0) ∧ W.cell? ⟨w.heap.size, 3, none⟩ = some (.int .i64 0) ∧ W.cell? ⟨w.heap.size, 4, none⟩ = some (.string ⟨#[]⟩) ∧ W.cell? ⟨w.heap.size, 5, none⟩ = some (.int .i64 0) ∧ W.cell? ⟨w.heap.size, 6, none⟩ = some (.int .i64 0) ∧ W.cell? ⟨w.heap.size, 7, none⟩ = some (.slice none 0 0) ∧ Below w1.heap.size w1 W)
    (first | assumption | exact HKE.out _ _ (HB.out _ (by assumption)) hb3)
    (first
      | (go_at_call 138; refine (HM.out _).mono ?_; rintro e w4 ⟨rfl, hb3⟩)
      | (go_at_call 44; refine (HK.out _).mono ?_; rintro e w4 ⟨rfl, hb3⟩))
  have hb4 := HB.out _ (by assumption)
  obtain ⟨w5, rfl⟩ : ∃ w5 : World, w5 = w4 := ⟨_, rfl⟩
  have HB4 := Lib.hid (HA.out.trans (hb4.mono HA.out.size))
  have HA5 := Lib.hid (HB4.out.alloc HB4.out.size (.cells #[.string ⟨#[]⟩, .int .i64 0, .int .i64 0] 70))
  clear hb4 hS
  go_wp2_with fail
  go_ret
  exact ⟨rfl, HA5.out⟩
set_option maxHeartbeats 2000000 in
set_option maxRecDepth 100000 in
theorem sound_two (p : Option Addr) (cc : Nat) (w : World) : Calls Tryz.prog 55 #[cv ⟨6, ⟨#[]⟩, v0, 0, 0, ⟨p, 2, cc⟩⟩] w fun e w' => e = .returned (.bool false) ∧ Below w.heap.size w w' := by
  have HA := Lib.hid (Rk.fresh_alloc w (cobj ⟨6, ⟨#[]⟩, v0, 0, 0, ⟨p, 2, cc⟩⟩))
  obtain ⟨w1, hw1⟩ : ∃ w1, w1 = w.alloc (cobj ⟨6, ⟨#[]⟩, v0, 0, 0, ⟨p, 2, cc⟩⟩) := ⟨_, rfl⟩
  rw [← hw1] at HA
  have HC := Lib.hid (said_6no ⟨#[]⟩ v0 0 0 p 2 cc w1 (by decide))
  have hq := eqN_nil
  go_enter Tryz.func55, Tryz.ntmps55
  go_wp2_with fail
  rw [← hw1]
  clear hw1
  refine HC.out.mono ?_
  clear HC
  rintro e w2 ⟨rfl, hb2⟩
  have HB2 := Lib.hid (HA.out.trans (hb2.mono HA.out.size))
  clear hb2
  go_wp2_with fail
  go_region
  go_wp2_with fail
  go_ret
  exact ⟨rfl, HB2.out.drew⟩
end Ft
end Go.Proofs.YtclmalaomofahaaGreatDoor
