/- Check of the conditions that the law's sure asks of, whole; the law's schema. Conditions: those that each theorem names. -/
import Derived.Test.YtclmalaomofahaaGreatDoorFtP
namespace Go.Proofs.YtclmalaomofahaaGreatDoor
set_option linter.unusedVariables false
namespace Ft
open Go Go.RowKit Go.Shelf Pq Pq.Pl Rk Px
theorem third (w : World) (a b c : Obj) : (((w.alloc a).alloc b).alloc c).heap[w.heap.size + 1 + 1]? = some c := by
  have s2 : ((w.alloc a).alloc b).heap.size = w.heap.size + 1 + 1 := by simp
  rw [← s2, Rk.heap_last]
abbrev sbox (g c : Nat) : Obj := .cells #[.slice (some ⟨g, 0, none⟩) 3 c] 57
set_option maxHeartbeats 2000000 in
set_option maxRecDepth 100000 in
theorem fits_in (g c : Nat) (w : World) (hg : w.heap[g]? = some fobj) : Calls Tryz.prog 43 #[cv ⟨5, ⟨#[97]⟩, v0, 5, 9, nil0⟩, .slice (some ⟨g, 0, none⟩) 3 c] w fun e w' => e = .returned (.bool true) ∧ Below w.heap.size w w' := by
  have b1 := Rk.fresh_alloc w (cobj ⟨5, ⟨#[97]⟩, v0, 5, 9, nil0⟩)
  have HA := Lib.hid (b1.alloc b1.size (sbox g c))
  have s1 : (w.alloc (cobj ⟨5, ⟨#[97]⟩, v0, 5, 9, nil0⟩)).heap.size = w.heap.size + 1 := by simp
  have HZ1 : Hid (((w.alloc (cobj ⟨5, ⟨#[97]⟩, v0, 5, 9, nil0⟩)).alloc (sbox g c)).heap[w.heap.size]? = some (cobj ⟨5, ⟨#[97]⟩, v0, 5, 9, nil0⟩)) := Lib.hid (by rw [Rk.heap_old _ _ (by omega), Rk.heap_last])
  have HZ2 : Hid (((w.alloc (cobj ⟨5, ⟨#[97]⟩, v0, 5, 9, nil0⟩)).alloc (sbox g c)).heap[w.heap.size + 1]? = some (sbox g c)) := Lib.hid (by rw [← s1, Rk.heap_last])
  obtain ⟨w1, hw1⟩ : ∃ w1, w1 = (w.alloc (cobj ⟨5, ⟨#[97]⟩, v0, 5, 9, nil0⟩)).alloc (sbox g c) := ⟨_, rfl⟩
  rw [← hw1] at HA HZ1 HZ2
  have HG := Lib.hid ((HA.out.block g (Rk.lt_of_block hg)).trans hg)
  have HC := Lib.hid (said_5 ⟨#[97]⟩ v0 5 9 none 0 0)
  have HU := Lib.hid (fun W (hW : Below w1.heap.size w1 W) => suits_in g c W ((hW.block g (Rk.lt_of_block HG.out)).trans HG.out))
  have HS : Hid (∀ W, Below w1.heap.size w1 W → W.cell? ⟨w.heap.size, 0, none⟩ = some (.int .i64 5) ∧ W.cell? ⟨w.heap.size, 1, none⟩ = some (.string ⟨#[97]⟩) ∧ W.cell? ⟨w.heap.size, 2, none⟩ = some (.int .i64 0) ∧ W.cell? ⟨w.heap.size, 3, none⟩ = some (.int .i64 0) ∧ W.cell? ⟨w.heap.size, 4, none⟩ = some (.string ⟨#[]⟩) ∧ W.cell? ⟨w.heap.size, 5, none⟩ = some (.int .i64 5) ∧ W.cell? ⟨w.heap.size, 6, none⟩ = some (.int .i64 9) ∧ W.cell? ⟨w.heap.size, 7, none⟩ = some (.slice none 0 0) ∧ W.cell? ⟨w.heap.size + 1, 0, none⟩ = some (.slice (some ⟨g, 0, none⟩) 3 c) ∧ Below w1.heap.size w1 W) := Lib.hid (fun W hW => by
    obtain ⟨a0, a1, a2, a3, a4, a5, a6, a7⟩ := cells8 ((hW.block _ (Rk.lt_of_block HZ1.out)).trans HZ1.out)
    exact ⟨a0, a1, a2, a3, a4, a5, a6, a7, Lib.cell_of_heap ((hW.block _ (Rk.lt_of_block HZ2.out)).trans HZ2.out) 0, hW⟩)
  have HB : Hid (∀ W, (W.cell? ⟨w.heap.size, 0, none⟩ = some (.int .i64 5) ∧ W.cell? ⟨w.heap.size, 1, none⟩ = some (.string ⟨#[97]⟩) ∧ W.cell? ⟨w.heap.size, 2, none⟩ = some (.int .i64 0) ∧ W.cell? ⟨w.heap.size, 3, none⟩ = some (.int .i64 0) ∧ W.cell? ⟨w.heap.size, 4, none⟩ = some (.string ⟨#[]⟩) ∧ W.cell? ⟨w.heap.size, 5, none⟩ = some (.int .i64 5) ∧ W.cell? ⟨w.heap.size, 6, none⟩ = some (.int .i64 9) ∧ W.cell? ⟨w.heap.size, 7, none⟩ = some (.slice none 0 0) ∧ W.cell? ⟨w.heap.size + 1, 0, none⟩ = some (.slice (some ⟨g, 0, none⟩) 3 c) ∧ Below w1.heap.size w1 W) → Below w1.heap.size w1 W) := Lib.hid (fun W hW => hW.2.2.2.2.2.2.2.2.2)
  have HKE := Lib.hid (fun (a b : World) (ha : Below w1.heap.size w1 a) (hb : Below a.heap.size a b) => HS.out b (ha.trans (hb.mono ha.size)))
  have hS := HS.out w1.drew (Below.refl _ _).drew
  clear hg s1 b1
  go_enter Tryz.func43, Tryz.ntmps43
  go_wp2_with fail
  rw [← hw1]
  clear hw1
  go_region_held3 (fun W => W.cell? ⟨w.heap.size, 0, none⟩ = some (.int .i64 5) ∧ W.cell? ⟨w.heap.size, 1, none⟩ = some (.string ⟨#[97]⟩) ∧ W.cell? ⟨w.heap.size, 2, none⟩ = some (.int .i64 0) ∧ W.cell? ⟨w.heap.size, 3, none⟩ = some (.int .i64 0) ∧ W.cell? ⟨w.heap.size, 4, none⟩ = some (.string ⟨#[]⟩) ∧ W.cell? ⟨w.heap.size, 5, none⟩ = some (.int .i64 5) ∧ W.cell? ⟨w.heap.size, 6, none⟩ = some (.int .i64 9) ∧ W.cell? ⟨w.heap.size, 7, none⟩ = some (.slice none 0 0) ∧ W.cell? ⟨w.heap.size + 1, 0, none⟩ = some (.slice (some ⟨g, 0, none⟩) 3 c) ∧ Below w1.heap.size w1 W)
    (first | assumption | exact HKE.out _ _ (HB.out _ (by assumption)) hb3)
    (first
      | (go_at_call 26; refine (HC.out _).mono ?_; rintro e w4 ⟨rfl, hb3⟩)
      | (go_at_call 56; refine (HU.out _ (HB.out _ (by assumption))).mono ?_; rintro e w4 ⟨rfl, hb3⟩))
  have hb4 := HB.out _ (by assumption)
  obtain ⟨w5, rfl⟩ : ∃ w5 : World, w5 = w4 := ⟨_, rfl⟩
  have HB4 := Lib.hid (HA.out.trans (hb4.mono HA.out.size))
  obtain ⟨_, _, _, _, _, _, _, c7, c8, _⟩ := HS.out w5 hb4
  clear hb4 hS
  go_wp2_with fail
  refine (contains_none _ _ _).mono ?_
  rintro e w6 ⟨rfl, rfl⟩
  go_wp2_with fail
  go_ret
  exact ⟨rfl, HB4.out⟩
set_option maxHeartbeats 2000000 in
set_option maxRecDepth 100000 in
theorem fits_has (g c : Nat) (w : World) (hg : w.heap[g]? = some fobj) : Calls Tryz.prog 43 #[cv ⟨3, ⟨#[122]⟩, v0, 0, 0, nil0⟩, .slice (some ⟨g, 0, none⟩) 3 c] w fun e w' => e = .returned (.bool false) ∧ Below w.heap.size w w' := by
  have b1 := Rk.fresh_alloc w (cobj ⟨3, ⟨#[122]⟩, v0, 0, 0, nil0⟩)
  have HA := Lib.hid (b1.alloc b1.size (sbox g c))
  have s1 : (w.alloc (cobj ⟨3, ⟨#[122]⟩, v0, 0, 0, nil0⟩)).heap.size = w.heap.size + 1 := by simp
  have HZ1 : Hid (((w.alloc (cobj ⟨3, ⟨#[122]⟩, v0, 0, 0, nil0⟩)).alloc (sbox g c)).heap[w.heap.size]? = some (cobj ⟨3, ⟨#[122]⟩, v0, 0, 0, nil0⟩)) := Lib.hid (by rw [Rk.heap_old _ _ (by omega), Rk.heap_last])
  have HZ2 : Hid (((w.alloc (cobj ⟨3, ⟨#[122]⟩, v0, 0, 0, nil0⟩)).alloc (sbox g c)).heap[w.heap.size + 1]? = some (sbox g c)) := Lib.hid (by rw [← s1, Rk.heap_last])
  obtain ⟨w1, hw1⟩ : ∃ w1, w1 = (w.alloc (cobj ⟨3, ⟨#[122]⟩, v0, 0, 0, nil0⟩)).alloc (sbox g c) := ⟨_, rfl⟩
  rw [← hw1] at HA HZ1 HZ2
  have HG := Lib.hid ((HA.out.block g (Rk.lt_of_block hg)).trans hg)
  have HC := Lib.hid (said_3 ⟨#[122]⟩ v0 0 0 none 0 0)
  have HU := Lib.hid (fun W (hW : Below w1.heap.size w1 W) => suits_has g c W ((hW.block g (Rk.lt_of_block HG.out)).trans HG.out))
  have HS : Hid (∀ W, Below w1.heap.size w1 W → W.cell? ⟨w.heap.size, 0, none⟩ = some (.int .i64 3) ∧ W.cell? ⟨w.heap.size, 1, none⟩ = some (.string ⟨#[122]⟩) ∧ W.cell? ⟨w.heap.size, 2, none⟩ = some (.int .i64 0) ∧ W.cell? ⟨w.heap.size, 3, none⟩ = some (.int .i64 0) ∧ W.cell? ⟨w.heap.size, 4, none⟩ = some (.string ⟨#[]⟩) ∧ W.cell? ⟨w.heap.size, 5, none⟩ = some (.int .i64 0) ∧ W.cell? ⟨w.heap.size, 6, none⟩ = some (.int .i64 0) ∧ W.cell? ⟨w.heap.size, 7, none⟩ = some (.slice none 0 0) ∧ W.cell? ⟨w.heap.size + 1, 0, none⟩ = some (.slice (some ⟨g, 0, none⟩) 3 c) ∧ Below w1.heap.size w1 W) := Lib.hid (fun W hW => by
    obtain ⟨a0, a1, a2, a3, a4, a5, a6, a7⟩ := cells8 ((hW.block _ (Rk.lt_of_block HZ1.out)).trans HZ1.out)
    exact ⟨a0, a1, a2, a3, a4, a5, a6, a7, Lib.cell_of_heap ((hW.block _ (Rk.lt_of_block HZ2.out)).trans HZ2.out) 0, hW⟩)
  have HB : Hid (∀ W, (W.cell? ⟨w.heap.size, 0, none⟩ = some (.int .i64 3) ∧ W.cell? ⟨w.heap.size, 1, none⟩ = some (.string ⟨#[122]⟩) ∧ W.cell? ⟨w.heap.size, 2, none⟩ = some (.int .i64 0) ∧ W.cell? ⟨w.heap.size, 3, none⟩ = some (.int .i64 0) ∧ W.cell? ⟨w.heap.size, 4, none⟩ = some (.string ⟨#[]⟩) ∧ W.cell? ⟨w.heap.size, 5, none⟩ = some (.int .i64 0) ∧ W.cell? ⟨w.heap.size, 6, none⟩ = some (.int .i64 0) ∧ W.cell? ⟨w.heap.size, 7, none⟩ = some (.slice none 0 0) ∧ W.cell? ⟨w.heap.size + 1, 0, none⟩ = some (.slice (some ⟨g, 0, none⟩) 3 c) ∧ Below w1.heap.size w1 W) → Below w1.heap.size w1 W) := Lib.hid (fun W hW => hW.2.2.2.2.2.2.2.2.2)
  have HKE := Lib.hid (fun (a b : World) (ha : Below w1.heap.size w1 a) (hb : Below a.heap.size a b) => HS.out b (ha.trans (hb.mono ha.size)))
  have hS := HS.out w1.drew (Below.refl _ _).drew
  clear hg s1 b1
  go_enter Tryz.func43, Tryz.ntmps43
  go_wp2_with fail
  rw [← hw1]
  clear hw1
  go_region_held3 (fun W => W.cell? ⟨w.heap.size, 0, none⟩ = some (.int .i64 3) ∧ W.cell? ⟨w.heap.size, 1, none⟩ = some (.string ⟨#[122]⟩) ∧ W.cell? ⟨w.heap.size, 2, none⟩ = some (.int .i64 0) ∧ W.cell? ⟨w.heap.size, 3, none⟩ = some (.int .i64 0) ∧ W.cell? ⟨w.heap.size, 4, none⟩ = some (.string ⟨#[]⟩) ∧ W.cell? ⟨w.heap.size, 5, none⟩ = some (.int .i64 0) ∧ W.cell? ⟨w.heap.size, 6, none⟩ = some (.int .i64 0) ∧ W.cell? ⟨w.heap.size, 7, none⟩ = some (.slice none 0 0) ∧ W.cell? ⟨w.heap.size + 1, 0, none⟩ = some (.slice (some ⟨g, 0, none⟩) 3 c) ∧ Below w1.heap.size w1 W)
    (first | assumption | exact HKE.out _ _ (HB.out _ (by assumption)) hb3)
    (first
      | (go_at_call 26; refine (HC.out _).mono ?_; rintro e w4 ⟨rfl, hb3⟩)
      | (go_at_call 56; refine (HU.out _ (HB.out _ (by assumption))).mono ?_; rintro e w4 ⟨rfl, hb3⟩))
  have hb4 := HB.out _ (by assumption)
  obtain ⟨w5, rfl⟩ : ∃ w5 : World, w5 = w4 := ⟨_, rfl⟩
  have HB4 := Lib.hid (HA.out.trans (hb4.mono HA.out.size))
  obtain ⟨_, _, _, _, _, _, _, c7, c8, _⟩ := HS.out w5 hb4
  clear hb4 hS
  go_wp2_with fail
  go_ret
  exact ⟨rfl, HB4.out⟩
set_option maxHeartbeats 2000000 in
set_option maxRecDepth 100000 in
theorem check_in (g c : Nat) (uv : Value) (hu : ∃ q n k, uv = .slice q n k) (w : World) (hg : w.heap[g]? = some fobj) : Calls Tryz.prog 30 #[cv ⟨5, ⟨#[97]⟩, v0, 5, 9, nil0⟩, .agg #[uv, .slice (some ⟨g, 0, none⟩) 3 c]] w fun e w' => e = .returned (.int .i64 0) ∧ Below w.heap.size w w' := by
  obtain ⟨q, n, k, rfl⟩ := hu
  have b1 := Rk.fresh_alloc w (cobj ⟨5, ⟨#[97]⟩, v0, 5, 9, nil0⟩)
  have s1 : (w.alloc (cobj ⟨5, ⟨#[97]⟩, v0, 5, 9, nil0⟩)).heap.size = w.heap.size + 1 := by simp
  have b2 := b1.alloc b1.size (.cells #[.slice q n k, .slice (some ⟨g, 0, none⟩) 3 c] 59)
  have s2 : ((w.alloc (cobj ⟨5, ⟨#[97]⟩, v0, 5, 9, nil0⟩)).alloc (.cells #[.slice q n k, .slice (some ⟨g, 0, none⟩) 3 c] 59)).heap.size = w.heap.size + 1 + 1 := by simp
  have HA := Lib.hid (b2.alloc b2.size robj)
  have HZ1 : Hid ((((w.alloc (cobj ⟨5, ⟨#[97]⟩, v0, 5, 9, nil0⟩)).alloc (.cells #[.slice q n k, .slice (some ⟨g, 0, none⟩) 3 c] 59)).alloc robj).heap[w.heap.size]? = some (cobj ⟨5, ⟨#[97]⟩, v0, 5, 9, nil0⟩)) := Lib.hid (by rw [Rk.heap_old _ _ (by omega), Rk.heap_old _ _ (by omega), Rk.heap_last])
  have HZ2 : Hid ((((w.alloc (cobj ⟨5, ⟨#[97]⟩, v0, 5, 9, nil0⟩)).alloc (.cells #[.slice q n k, .slice (some ⟨g, 0, none⟩) 3 c] 59)).alloc robj).heap[w.heap.size + 1]? = some (.cells #[.slice q n k, .slice (some ⟨g, 0, none⟩) 3 c] 59)) := Lib.hid (by rw [Rk.heap_old _ _ (by omega), ← s1, Rk.heap_last])
  have HZ3 : Hid ((((w.alloc (cobj ⟨5, ⟨#[97]⟩, v0, 5, 9, nil0⟩)).alloc (.cells #[.slice q n k, .slice (some ⟨g, 0, none⟩) 3 c] 59)).alloc robj).heap[w.heap.size + 1 + 1]? = some robj) := Lib.hid (by rw [← s2, Rk.heap_last])
  have HBF := Lib.hid (HA.out)
  obtain ⟨a0, a1, a2, a3, a4, a5, a6, a7⟩ := cells8 HZ1.out
  have HFO := Lib.hid (formed_in (w.heap.size + 1 + 1) _ HZ3.out)
  have HG := Lib.hid hg
  clear b1 b2 s1 s2 hg
  go_enter Tryz.func30, Tryz.ntmps30
  go_wp2_with fail
  refine HFO.out.mono ?_
  clear HFO
  rintro e w2 ⟨rfl, hbut⟩
  have HBW := Lib.hid (hbut.2 w.heap.size w (by omega) HA.out)
  obtain ⟨d0, d1, d2, d3, d4, d5, d6, d7⟩ := cells8 (but_cell hbut HZ1.out (by omega))
  have hz2 := but_cell hbut HZ2.out (by omega)
  have e0 := Lib.cell_of_heap hz2 0
  have e1 := Lib.cell_of_heap hz2 1
  simp at e0 e1
  have HFI := Lib.hid (fits_in g c w2 ((HBW.out.block g (Rk.lt_of_block HG.out)).trans HG.out))
  clear hz2 hbut a0 a1 a2 a3 a4 a5 a6 a7
  go_wp2_with fail
  refine HFI.out.mono ?_
  clear HFI
  rintro e w3 ⟨rfl, hb3⟩
  have HB3 := Lib.hid (HBW.out.trans (hb3.mono HBW.out.size))
  clear hb3
  go_wp2_with fail
  go_ret
  exact ⟨rfl, HB3.out⟩
set_option maxHeartbeats 2000000 in
set_option maxRecDepth 100000 in
theorem check_has (g c : Nat) (uv : Value) (hu : ∃ q n k, uv = .slice q n k) (w : World) (hg : w.heap[g]? = some fobj) : Calls Tryz.prog 30 #[cv ⟨3, ⟨#[122]⟩, v0, 0, 0, nil0⟩, .agg #[uv, .slice (some ⟨g, 0, none⟩) 3 c]] w fun e w' => e = .returned (.int .i64 51) ∧ Below w.heap.size w w' := by
  obtain ⟨q, n, k, rfl⟩ := hu
  have b1 := Rk.fresh_alloc w (cobj ⟨3, ⟨#[122]⟩, v0, 0, 0, nil0⟩)
  have s1 : (w.alloc (cobj ⟨3, ⟨#[122]⟩, v0, 0, 0, nil0⟩)).heap.size = w.heap.size + 1 := by simp
  have b2 := b1.alloc b1.size (.cells #[.slice q n k, .slice (some ⟨g, 0, none⟩) 3 c] 59)
  have s2 : ((w.alloc (cobj ⟨3, ⟨#[122]⟩, v0, 0, 0, nil0⟩)).alloc (.cells #[.slice q n k, .slice (some ⟨g, 0, none⟩) 3 c] 59)).heap.size = w.heap.size + 1 + 1 := by simp
  have HA := Lib.hid (b2.alloc b2.size robj)
  have HZ1 : Hid ((((w.alloc (cobj ⟨3, ⟨#[122]⟩, v0, 0, 0, nil0⟩)).alloc (.cells #[.slice q n k, .slice (some ⟨g, 0, none⟩) 3 c] 59)).alloc robj).heap[w.heap.size]? = some (cobj ⟨3, ⟨#[122]⟩, v0, 0, 0, nil0⟩)) := Lib.hid (by rw [Rk.heap_old _ _ (by omega), Rk.heap_old _ _ (by omega), Rk.heap_last])
  have HZ2 : Hid ((((w.alloc (cobj ⟨3, ⟨#[122]⟩, v0, 0, 0, nil0⟩)).alloc (.cells #[.slice q n k, .slice (some ⟨g, 0, none⟩) 3 c] 59)).alloc robj).heap[w.heap.size + 1]? = some (.cells #[.slice q n k, .slice (some ⟨g, 0, none⟩) 3 c] 59)) := Lib.hid (by rw [Rk.heap_old _ _ (by omega), ← s1, Rk.heap_last])
  have HZ3 : Hid ((((w.alloc (cobj ⟨3, ⟨#[122]⟩, v0, 0, 0, nil0⟩)).alloc (.cells #[.slice q n k, .slice (some ⟨g, 0, none⟩) 3 c] 59)).alloc robj).heap[w.heap.size + 1 + 1]? = some robj) := Lib.hid (by rw [← s2, Rk.heap_last])
  have HBF := Lib.hid (HA.out)
  obtain ⟨a0, a1, a2, a3, a4, a5, a6, a7⟩ := cells8 HZ1.out
  have HFO := Lib.hid (formed_has (w.heap.size + 1 + 1) _ HZ3.out)
  have HG := Lib.hid hg
  clear b1 b2 s1 s2 hg
  go_enter Tryz.func30, Tryz.ntmps30
  go_wp2_with fail
  refine HFO.out.mono ?_
  clear HFO
  rintro e w2 ⟨rfl, hbut⟩
  have HBW := Lib.hid (hbut.2 w.heap.size w (by omega) HA.out)
  obtain ⟨d0, d1, d2, d3, d4, d5, d6, d7⟩ := cells8 (but_cell hbut HZ1.out (by omega))
  have hz2 := but_cell hbut HZ2.out (by omega)
  have e0 := Lib.cell_of_heap hz2 0
  have e1 := Lib.cell_of_heap hz2 1
  simp at e0 e1
  have HFI := Lib.hid (fits_has g c w2 ((HBW.out.block g (Rk.lt_of_block HG.out)).trans HG.out))
  clear hz2 hbut a0 a1 a2 a3 a4 a5 a6 a7
  go_wp2_with fail
  refine HFI.out.mono ?_
  clear HFI
  rintro e w3 ⟨rfl, hb3⟩
  have HB3 := Lib.hid (HBW.out.trans (hb3.mono HBW.out.size))
  clear hb3
  go_wp2_with fail
  go_ret
  exact ⟨rfl, HB3.out⟩
set_option maxHeartbeats 2000000 in
set_option maxRecDepth 100000 in
theorem check_two (p : Option Addr) (cc : Nat) (g c : Nat) (uv : Value) (hu : ∃ q n k, uv = .slice q n k) (w : World) (hg : w.heap[g]? = some fobj) : Calls Tryz.prog 30 #[cv ⟨6, ⟨#[]⟩, v0, 0, 0, ⟨p, 2, cc⟩⟩, .agg #[uv, .slice (some ⟨g, 0, none⟩) 3 c]] w fun e w' => e = .returned (.int .i64 160) ∧ Below w.heap.size w w' := by
  obtain ⟨q, n, k, rfl⟩ := hu
  have b1 := Rk.fresh_alloc w (cobj ⟨6, ⟨#[]⟩, v0, 0, 0, ⟨p, 2, cc⟩⟩)
  have s1 : (w.alloc (cobj ⟨6, ⟨#[]⟩, v0, 0, 0, ⟨p, 2, cc⟩⟩)).heap.size = w.heap.size + 1 := by simp
  have b2 := b1.alloc b1.size (.cells #[.slice q n k, .slice (some ⟨g, 0, none⟩) 3 c] 59)
  have s2 : ((w.alloc (cobj ⟨6, ⟨#[]⟩, v0, 0, 0, ⟨p, 2, cc⟩⟩)).alloc (.cells #[.slice q n k, .slice (some ⟨g, 0, none⟩) 3 c] 59)).heap.size = w.heap.size + 1 + 1 := by simp
  have HA := Lib.hid (b2.alloc b2.size robj)
  have HZ1 : Hid ((((w.alloc (cobj ⟨6, ⟨#[]⟩, v0, 0, 0, ⟨p, 2, cc⟩⟩)).alloc (.cells #[.slice q n k, .slice (some ⟨g, 0, none⟩) 3 c] 59)).alloc robj).heap[w.heap.size]? = some (cobj ⟨6, ⟨#[]⟩, v0, 0, 0, ⟨p, 2, cc⟩⟩)) := Lib.hid (by rw [Rk.heap_old _ _ (by omega), Rk.heap_old _ _ (by omega), Rk.heap_last])
  have HZ2 : Hid ((((w.alloc (cobj ⟨6, ⟨#[]⟩, v0, 0, 0, ⟨p, 2, cc⟩⟩)).alloc (.cells #[.slice q n k, .slice (some ⟨g, 0, none⟩) 3 c] 59)).alloc robj).heap[w.heap.size + 1]? = some (.cells #[.slice q n k, .slice (some ⟨g, 0, none⟩) 3 c] 59)) := Lib.hid (by rw [Rk.heap_old _ _ (by omega), ← s1, Rk.heap_last])
  have HZ3 : Hid ((((w.alloc (cobj ⟨6, ⟨#[]⟩, v0, 0, 0, ⟨p, 2, cc⟩⟩)).alloc (.cells #[.slice q n k, .slice (some ⟨g, 0, none⟩) 3 c] 59)).alloc robj).heap[w.heap.size + 1 + 1]? = some robj) := Lib.hid (by rw [← s2, Rk.heap_last])
  have HBF := Lib.hid (HA.out)
  obtain ⟨a0, a1, a2, a3, a4, a5, a6, a7⟩ := cells8 HZ1.out
  have HFO := Lib.hid (formed_two p cc (w.heap.size + 1 + 1) _ HZ3.out)
  have HG := Lib.hid hg
  clear b1 b2 s1 s2 hg
  go_enter Tryz.func30, Tryz.ntmps30
  go_wp2_with fail
  refine HFO.out.mono ?_
  clear HFO
  rintro e w2 ⟨rfl, hbut⟩
  have HBW := Lib.hid (hbut.2 w.heap.size w (by omega) HA.out)
  clear hbut
  go_wp2_with fail
  go_ret
  exact ⟨rfl, HBW.out⟩
/-! ### The schema -/
abbrev vobj3 : Obj := .cells #[.string ⟨#[118]⟩, .int .i64 2, .int .i64 1, .string ⟨#[119]⟩, .int .i64 1, .int .i64 2, .string ⟨#[120]⟩, .int .i64 2, .int .i64 3] 79
set_option maxHeartbeats 2000000 in
set_option maxRecDepth 100000 in
theorem schema_any (w : World) : Calls Tryz.prog 29 #[] w fun e w' => ∃ q n k g c, e = .returned (.agg #[.slice q n k, .slice (some ⟨g, 0, none⟩) 3 c]) ∧ w'.heap[g]? = some fobj ∧ Below w.heap.size w w' := by
  have b1 := Rk.fresh_alloc w (.cells #[.slice (some ⟨w.heap.size + 1, 0, none⟩) 3 3, .slice (some ⟨w.heap.size + 1 + 1, 0, none⟩) 3 3] 59)
  have s1 : (w.alloc (.cells #[.slice (some ⟨w.heap.size + 1, 0, none⟩) 3 3, .slice (some ⟨w.heap.size + 1 + 1, 0, none⟩) 3 3] 59)).heap.size = w.heap.size + 1 := by simp
  have b2 := b1.alloc b1.size vobj3
  have s2 : ((w.alloc (.cells #[.slice (some ⟨w.heap.size + 1, 0, none⟩) 3 3, .slice (some ⟨w.heap.size + 1 + 1, 0, none⟩) 3 3] 59)).alloc vobj3).heap.size = w.heap.size + 1 + 1 := by simp
  have HA := Lib.hid (b2.alloc b2.size fobj)
  have hz : (((w.alloc (.cells #[.slice (some ⟨w.heap.size + 1, 0, none⟩) 3 3, .slice (some ⟨w.heap.size + 1 + 1, 0, none⟩) 3 3] 59)).alloc vobj3).alloc fobj).heap[w.heap.size]? = some (.cells #[.slice (some ⟨w.heap.size + 1, 0, none⟩) 3 3, .slice (some ⟨w.heap.size + 1 + 1, 0, none⟩) 3 3] 59) := by rw [Rk.heap_old _ _ (by omega), Rk.heap_old _ _ (by omega), Rk.heap_last]
  have HF : Hid ((((w.alloc (.cells #[.slice (some ⟨w.heap.size + 1, 0, none⟩) 3 3, .slice (some ⟨w.heap.size + 1 + 1, 0, none⟩) 3 3] 59)).alloc vobj3).alloc fobj).heap[w.heap.size + 1 + 1]? = some fobj) := Lib.hid (third w _ _ _)
  have d0 := Lib.cell_of_heap hz 0
  have d1 := Lib.cell_of_heap hz 1
  simp only [List.getElem?_toArray, List.getElem?_cons_zero, List.getElem?_cons_succ] at d0 d1
  clear hz s1 s2 b1 b2
  go_enter Tryz.func29, Tryz.ntmps29
  go_wp2_with fail
  refine bodyPost_ret (v := .agg #[.slice (some ⟨w.heap.size + 1, 0, none⟩) 3 3, .slice (some ⟨w.heap.size + 1 + 1, 0, none⟩) 3 3]) (by simp [results, Tryz.results29, go_sem, d0, d1]) rfl ?_
  exact ⟨_, _, _, _, _, rfl, HF.out, HA.out⟩
end Ft
end Go.Proofs.YtclmalaomofahaaGreatDoor
