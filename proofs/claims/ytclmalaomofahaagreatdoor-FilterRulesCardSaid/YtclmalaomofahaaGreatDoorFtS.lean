/- The law's sure, whole. Conditions: none. -/
import Derived.Test.YtclmalaomofahaaGreatDoorFtR
namespace Go.Proofs.YtclmalaomofahaaGreatDoor
set_option linter.unusedVariables false
namespace Ft
open Go Go.RowKit Go.Shelf Pq Pq.Pl Px Ids
set_option maxHeartbeats 4000000 in
set_option maxRecDepth 100000 in
theorem sure_any (w : World) : Calls Tryz.prog 15 #[] w fun e w' => e = .returned (.bool true) ∧ Below w.heap.size w w' := by
  obtain ⟨W0, eW, hB0, h0, h1, h2, h3, h4, h5, h6⟩ := seven w (.cells #[.string ⟨#[97]⟩, .int .i64 1, .int .i64 5, .string ⟨#[]⟩] 55) (.cells #[.int .i64 1, .slice none 0 0, .slice (some ⟨w.heap.size, 0, none⟩) 1 1] 30) (.cells #[.int .i64 5, .string ⟨#[97]⟩, .int .i64 0, .int .i64 0, .string ⟨#[]⟩, .int .i64 5, .int .i64 9, .slice none 0 0] 26) (.cells #[.int .i64 5, .string ⟨#[97]⟩, .int .i64 0, .int .i64 0, .string ⟨#[]⟩, .int .i64 5, .int .i64 9, .slice none 0 0] 26) (.cells #[.int .i64 6, .string ⟨#[]⟩, .int .i64 0, .int .i64 0, .string ⟨#[]⟩, .int .i64 0, .int .i64 0, .slice (some ⟨w.heap.size + 1 + 1 + 1, 0, none⟩) 1 1] 26) (.cells #[.int .i64 5, .string ⟨#[97]⟩, .int .i64 0, .int .i64 0, .string ⟨#[]⟩, .int .i64 5, .int .i64 9, .slice none 0 0, .int .i64 5, .string ⟨#[97]⟩, .int .i64 0, .int .i64 0, .string ⟨#[]⟩, .int .i64 5, .int .i64 9, .slice none 0 0] 26) (.cells #[.int .i64 6, .string ⟨#[]⟩, .int .i64 0, .int .i64 0, .string ⟨#[]⟩, .int .i64 0, .int .i64 0, .slice (some ⟨w.heap.size + 1 + 1 + 1 + 1 + 1, 0, none⟩) 2 2] 26)
  have HB0 := Lib.hid hB0
  have H0 := Lib.hid h0
  have H1 := Lib.hid h1
  have H2 := Lib.hid h2
  have H3 := Lib.hid h3
  have H4 := Lib.hid h4
  have H5 := Lib.hid h5
  have H6 := Lib.hid h6
  have HSC := Lib.hid (schema_any W0)
  clear h0 h1 h2 h3 h4 h5 h6 hB0
  go_enter Tryz.func15, Tryz.ntmps15
  go_wp2_with fail
  rw [← eW]
  clear eW
  refine HSC.out.mono ?_
  clear HSC
  rintro e w2 ⟨q, n, k, g, c, rfl, hg, hb2⟩
  have HB2 := Lib.hid hb2
  have hb3 := hb2.alloc hb2.size (.cells #[.slice q n k, .slice (some ⟨g, 0, none⟩) 3 c] 59)
  have HB3 := Lib.hid hb3
  have HG := Lib.hid ((Rk.heap_old w2 (.cells #[.slice q n k, .slice (some ⟨g, 0, none⟩) 3 c] 59) (Rk.lt_of_block hg)).trans hg)
  have H7 := Lib.hid (Rk.heap_last w2 (.cells #[.slice q n k, .slice (some ⟨g, 0, none⟩) 3 c] 59))
  obtain ⟨W3, eW3⟩ : ∃ W3, W3 = w2.alloc (.cells #[.slice q n k, .slice (some ⟨g, 0, none⟩) 3 c] 59) := ⟨_, rfl⟩
  rw [← eW3] at HB3 HG H7
  have HS : Hid (∀ W, Below W3.heap.size W3 W → W.cell? ⟨w.heap.size + 1, 0, none⟩ = some (.int .i64 1) ∧ W.cell? ⟨w.heap.size + 1, 1, none⟩ = some (.slice none 0 0) ∧ W.cell? ⟨w.heap.size + 1, 2, none⟩ = some (.slice (some ⟨w.heap.size, 0, none⟩) 1 1) ∧ W.cell? ⟨w.heap.size + 1 + 1, 0, none⟩ = some (.int .i64 5) ∧ W.cell? ⟨w.heap.size + 1 + 1, 1, none⟩ = some (.string ⟨#[97]⟩) ∧ W.cell? ⟨w.heap.size + 1 + 1, 2, none⟩ = some (.int .i64 0) ∧ W.cell? ⟨w.heap.size + 1 + 1, 3, none⟩ = some (.int .i64 0) ∧ W.cell? ⟨w.heap.size + 1 + 1, 4, none⟩ = some (.string ⟨#[]⟩) ∧ W.cell? ⟨w.heap.size + 1 + 1, 5, none⟩ = some (.int .i64 5) ∧ W.cell? ⟨w.heap.size + 1 + 1, 6, none⟩ = some (.int .i64 9) ∧ W.cell? ⟨w.heap.size + 1 + 1, 7, none⟩ = some (.slice none 0 0) ∧ W.cell? ⟨w.heap.size + 1 + 1 + 1 + 1, 0, none⟩ = some (.int .i64 6) ∧ W.cell? ⟨w.heap.size + 1 + 1 + 1 + 1, 1, none⟩ = some (.string ⟨#[]⟩) ∧ W.cell? ⟨w.heap.size + 1 + 1 + 1 + 1, 2, none⟩ = some (.int .i64 0) ∧ W.cell? ⟨w.heap.size + 1 + 1 + 1 + 1, 3, none⟩ = some (.int .i64 0) ∧ W.cell? ⟨w.heap.size + 1 + 1 + 1 + 1, 4, none⟩ = some (.string ⟨#[]⟩) ∧ W.cell? ⟨w.heap.size + 1 + 1 + 1 + 1, 5, none⟩ = some (.int .i64 0) ∧ W.cell? ⟨w.heap.size + 1 + 1 + 1 + 1, 6, none⟩ = some (.int .i64 0) ∧ W.cell? ⟨w.heap.size + 1 + 1 + 1 + 1, 7, none⟩ = some (.slice (some ⟨w.heap.size + 1 + 1 + 1, 0, none⟩) 1 1) ∧ W.cell? ⟨w.heap.size + 1 + 1 + 1 + 1 + 1 + 1, 0, none⟩ = some (.int .i64 6) ∧ W.cell? ⟨w.heap.size + 1 + 1 + 1 + 1 + 1 + 1, 1, none⟩ = some (.string ⟨#[]⟩) ∧ W.cell? ⟨w.heap.size + 1 + 1 + 1 + 1 + 1 + 1, 2, none⟩ = some (.int .i64 0) ∧ W.cell? ⟨w.heap.size + 1 + 1 + 1 + 1 + 1 + 1, 3, none⟩ = some (.int .i64 0) ∧ W.cell? ⟨w.heap.size + 1 + 1 + 1 + 1 + 1 + 1, 4, none⟩ = some (.string ⟨#[]⟩) ∧ W.cell? ⟨w.heap.size + 1 + 1 + 1 + 1 + 1 + 1, 5, none⟩ = some (.int .i64 0) ∧ W.cell? ⟨w.heap.size + 1 + 1 + 1 + 1 + 1 + 1, 6, none⟩ = some (.int .i64 0) ∧ W.cell? ⟨w.heap.size + 1 + 1 + 1 + 1 + 1 + 1, 7, none⟩ = some (.slice (some ⟨w.heap.size + 1 + 1 + 1 + 1 + 1, 0, none⟩) 2 2) ∧ W.cell? ⟨w2.heap.size, 0, none⟩ = some (.slice q n k) ∧ W.cell? ⟨w2.heap.size, 1, none⟩ = some (.slice (some ⟨g, 0, none⟩) 3 c)) := Lib.hid (fun W hW => by
    have key : ∀ b o, W0.heap[b]? = some o → W.heap[b]? = some o := fun b o h => by
      have h2 := (HB3.out.block b (Rk.lt_of_block h)).trans h
      exact (hW.block b (Rk.lt_of_block h2)).trans h2
    obtain ⟨a0, a1, a2⟩ := cells3 (key _ _ H1.out)
    obtain ⟨b0, b1, b2, b3, b4, b5, b6, b7⟩ := cells8 (key _ _ H2.out)
    obtain ⟨c0, c1, c2, c3, c4, c5, c6, c7⟩ := cells8 (key _ _ H4.out)
    obtain ⟨d0, d1, d2, d3, d4, d5, d6, d7⟩ := cells8 (key _ _ H6.out)
    have e7 := (hW.block _ (Rk.lt_of_block H7.out)).trans H7.out
    exact ⟨a0, a1, a2, b0, b1, b2, b3, b4, b5, b6, b7, c0, c1, c2, c3, c4, c5, c6, c7, d0, d1, d2, d3, d4, d5, d6, d7, Lib.cell_of_heap e7 0, Lib.cell_of_heap e7 1⟩)
  have HK : Hid (∀ W, Below W3.heap.size W3 W → (∀ b o, W0.heap[b]? = some o → W.heap[b]? = some o)) := Lib.hid (fun W hW b o h => by
    have h2 := (HB3.out.block b (Rk.lt_of_block h)).trans h
    exact (hW.block b (Rk.lt_of_block h2)).trans h2)
  have HGW := Lib.hid (fun W (hW : Below W3.heap.size W3 W) => (hW.block g (Rk.lt_of_block HG.out)).trans HG.out)
  have HPin : Hid (∀ W, Below W3.heap.size W3 W → Calls Tryz.prog 8 #[cv rIn, pv ⟨1, nil0, ⟨some ⟨w.heap.size, 0, none⟩, 1, 1⟩⟩] W fun e w' => e = .returned (.bool true) ∧ Below W.heap.size W w') := Lib.hid (fun W hW => by
    have h := pass_any cIn F0 rIn ⟨1, nil0, ⟨some ⟨w.heap.size, 0, none⟩, 1, 1⟩⟩ W (leaf_at W 5 ⟨#[97]⟩ 5 9) big_in (f0_at (HK.out W hW _ _ H0.out) 1) f0_ok
    rw [p_in] at h
    exact h)
  have HPnot : Hid (∀ W, Below W3.heap.size W3 W → Calls Tryz.prog 8 #[cv (rNot (w.heap.size + 1 + 1 + 1)), pv ⟨1, nil0, ⟨some ⟨w.heap.size, 0, none⟩, 1, 1⟩⟩] W fun e w' => e = .returned (.bool false) ∧ Below W.heap.size W w') := Lib.hid (fun W hW => by
    have h := pass_any cNot F0 (rNot (w.heap.size + 1 + 1 + 1)) ⟨1, nil0, ⟨some ⟨w.heap.size, 0, none⟩, 1, 1⟩⟩ W (not_at (HK.out W hW _ _ H3.out)) big_not (f0_at (HK.out W hW _ _ H0.out) 1) f0_ok
    rw [p_not] at h
    exact h)
  have HPtwo : Hid (∀ W, Below W3.heap.size W3 W → Calls Tryz.prog 8 #[cv (rTwo (w.heap.size + 1 + 1 + 1 + 1 + 1)), pv ⟨1, nil0, ⟨some ⟨w.heap.size, 0, none⟩, 1, 1⟩⟩] W fun e w' => e = .returned (.bool false) ∧ Below W.heap.size W w') := Lib.hid (fun W hW => by
    have h := pass_any cTwo F0 (rTwo (w.heap.size + 1 + 1 + 1 + 1 + 1)) ⟨1, nil0, ⟨some ⟨w.heap.size, 0, none⟩, 1, 1⟩⟩ W (two_at (HK.out W hW _ _ H5.out)) big_two (f0_at (HK.out W hW _ _ H0.out) 1) f0_ok
    rw [p_two] at h
    exact h)
  have HPand : Hid (∀ W, Below W3.heap.size W3 W → Calls Tryz.prog 8 #[cv ⟨7, ⟨#[]⟩, v0, 0, 0, nil0⟩, pv ⟨1, nil0, ⟨some ⟨w.heap.size, 0, none⟩, 1, 1⟩⟩] W fun e w' => e = .returned (.bool true) ∧ Below W.heap.size W w') := Lib.hid (fun W hW => by
    have h := pass_any cAnd F0 ⟨7, ⟨#[]⟩, v0, 0, 0, nil0⟩ ⟨1, nil0, ⟨some ⟨w.heap.size, 0, none⟩, 1, 1⟩⟩ W (leaf_at W 7 ⟨#[]⟩ 0 0) big_and (f0_at (HK.out W hW _ _ H0.out) 1) f0_ok
    rw [p_and] at h
    exact h)
  have HPor : Hid (∀ W, Below W3.heap.size W3 W → Calls Tryz.prog 8 #[cv ⟨8, ⟨#[]⟩, v0, 0, 0, nil0⟩, pv ⟨1, nil0, ⟨some ⟨w.heap.size, 0, none⟩, 1, 1⟩⟩] W fun e w' => e = .returned (.bool false) ∧ Below W.heap.size W w') := Lib.hid (fun W hW => by
    have h := pass_any cOr F0 ⟨8, ⟨#[]⟩, v0, 0, 0, nil0⟩ ⟨1, nil0, ⟨some ⟨w.heap.size, 0, none⟩, 1, 1⟩⟩ W (leaf_at W 8 ⟨#[]⟩ 0 0) big_or (f0_at (HK.out W hW _ _ H0.out) 1) f0_ok
    rw [p_or] at h
    exact h)
  have HCin : Hid (∀ W, Below W3.heap.size W3 W → Calls Tryz.prog 30 #[cv rIn, .agg #[.slice q n k, .slice (some ⟨g, 0, none⟩) 3 c]] W fun e w' => e = .returned (.int .i64 0) ∧ Below W.heap.size W w') := Lib.hid (fun W hW => check_in g c (.slice q n k) ⟨q, n, k, rfl⟩ W (HGW.out W hW))
  have HCtwo : Hid (∀ W, Below W3.heap.size W3 W → Calls Tryz.prog 30 #[cv (rTwo (w.heap.size + 1 + 1 + 1 + 1 + 1)), .agg #[.slice q n k, .slice (some ⟨g, 0, none⟩) 3 c]] W fun e w' => e = .returned (.int .i64 160) ∧ Below W.heap.size W w') := Lib.hid (fun W hW => check_two (some ⟨w.heap.size + 1 + 1 + 1 + 1 + 1, 0, none⟩) 2 g c (.slice q n k) ⟨q, n, k, rfl⟩ W (HGW.out W hW))
  have HChas : Hid (∀ W, Below W3.heap.size W3 W → Calls Tryz.prog 30 #[cv ⟨3, ⟨#[122]⟩, v0, 0, 0, nil0⟩, .agg #[.slice q n k, .slice (some ⟨g, 0, none⟩) 3 c]] W fun e w' => e = .returned (.int .i64 51) ∧ Below W.heap.size W w') := Lib.hid (fun W hW => check_has g c (.slice q n k) ⟨q, n, k, rfl⟩ W (HGW.out W hW))
  have HZsize : Hid (∀ W, Below W3.heap.size W3 W → Calls Tryz.prog 10 #[cv (rNot (w.heap.size + 1 + 1 + 1))] W fun e w' => e = .returned (.int .i64 2) ∧ Below W.heap.size W w') := Lib.hid (fun W hW => by
    have h := size_any cNot (rNot (w.heap.size + 1 + 1 + 1)) W (not_at (HK.out W hW _ _ H3.out)) big_not
    simp only [size_not] at h
    exact h)
  have HZdepth : Hid (∀ W, Below W3.heap.size W3 W → Calls Tryz.prog 12 #[cv (rNot (w.heap.size + 1 + 1 + 1))] W fun e w' => e = .returned (.int .i64 2) ∧ Below W.heap.size W w') := Lib.hid (fun W hW => by
    have h := depth_any cNot (rNot (w.heap.size + 1 + 1 + 1)) W (not_at (HK.out W hW _ _ H3.out)) big_not
    simp only [depth_not] at h
    exact h)
  have HSM : Hid (∀ W, Below W3.heap.size W3 W → Calls Tryz.prog 31 #[cv (rNot (w.heap.size + 1 + 1 + 1)), cv (rNot (w.heap.size + 1 + 1 + 1))] W fun e w' => e = .returned (.bool true) ∧ Below W.heap.size W w') := Lib.hid (fun W hW => same_any cNot (rNot (w.heap.size + 1 + 1 + 1)) (rNot (w.heap.size + 1 + 1 + 1)) W (not_at (HK.out W hW _ _ H3.out)) (not_at (HK.out W hW _ _ H3.out)) big_not)
  have HID : Hid (∀ W, Below W3.heap.size W3 W → Calls Tryz.prog 17 #[cv rIn, .slice (some ⟨W.heap.size, 0, none⟩) 2 2] (W.alloc (.cells #[.int .i64 1, .slice none 0 0, .slice (some ⟨w.heap.size, 0, none⟩) 1 1, .int .i64 1, .slice none 0 0, .slice (some ⟨w.heap.size, 0, none⟩) 1 1] 30)) fun e w' => ∃ p c, e = .returned (.slice p 1 c) ∧ Below W.heap.size W w') := Lib.hid (fun W hW => by
    have hA := Rk.fresh_alloc W (.cells #[.int .i64 1, .slice none 0 0, .slice (some ⟨w.heap.size, 0, none⟩) 1 1, .int .i64 1, .slice none 0 0, .slice (some ⟨w.heap.size, 0, none⟩) 1 1] 30)
    have hW2 : Below W3.heap.size W3 (W.alloc (.cells #[.int .i64 1, .slice none 0 0, .slice (some ⟨w.heap.size, 0, none⟩) 1 1, .int .i64 1, .slice none 0 0, .slice (some ⟨w.heap.size, 0, none⟩) 1 1] 30)) := hW.trans (hA.mono hW.size)
    have hrow := row_lit flatP (L := [(⟨1, nil0, ⟨some ⟨w.heap.size, 0, none⟩, 1, 1⟩⟩ : Rp), ⟨1, nil0, ⟨some ⟨w.heap.size, 0, none⟩, 1, 1⟩⟩]) (Rk.heap_last W (.cells #[.int .i64 1, .slice none 0 0, .slice (some ⟨w.heap.size, 0, none⟩) 1 1, .int .i64 1, .slice none 0 0, .slice (some ⟨w.heap.size, 0, none⟩) 1 1] 30)) 2
    have hp : PtW (W.alloc (.cells #[.int .i64 1, .slice none 0 0, .slice (some ⟨w.heap.size, 0, none⟩) 1 1, .int .i64 1, .slice none 0 0, .slice (some ⟨w.heap.size, 0, none⟩) 1 1] 30)) ⟨1, nil0, ⟨some ⟨w.heap.size, 0, none⟩, 1, 1⟩⟩ P0 := ⟨rfl, .inl ⟨rfl, _, _, rfl⟩, f0_at (HK.out _ hW2 _ _ H0.out) 1⟩
    refine (ids_any cIn rIn [P0, P0] _ _ (leaf_at _ 5 ⟨#[97]⟩ 5 9) big_in ⟨_, hrow, rfl, fun j h1 h2 => ?_⟩ ⟨by simp, fun x hx => by simp at hx; rcases hx with rfl | rfl <;> exact f0_ok⟩).mono ?_
    · have hj : j = 0 ∨ j = 1 := by simp at h2; omega
      rcases hj with rfl | rfl
      · exact hp
      · exact hp
    · rintro e w' ⟨u, rfl, ho, hb⟩
      rw [ids_two] at ho
      obtain ⟨p, c, rfl⟩ := ho.at.form
      exact ⟨p, c, rfl, hA.trans (hb.mono hA.size)⟩)
  obtain ⟨a0, a1, a2, b0, b1, b2, b3, b4, b5, b6, b7, c0, c1, c2, c3, c4, c5, c6, c7, d0, d1, d2, d3, d4, d5, d6, d7, e0, e1⟩ := HS.out W3 (Below.refl _ _)
  rw [eW3] at a0 a1 a2 b0 b1 b2 b3 b4 b5 b6 b7 c0 c1 c2 c3 c4 c5 c6 c7 d0 d1 d2 d3 d4 d5 d6 d7 e0 e1
  clear hg hb2 hb3
  go_wp2_with fail
  rw [← eW3]
  clear eW3 a0 a1 a2 b0 b1 b2 b3 b4 b5 b6 b7 c0 c1 c2 c3 c4 c5 c6 c7 d0 d1 d2 d3 d4 d5 d6 d7 e0 e1
  refine (HPin.out W3 (Below.refl _ _)).mono ?_
  rintro e x1 ⟨rfl, hx1⟩
  obtain ⟨a0, a1, a2, b0, b1, b2, b3, b4, b5, b6, b7, c0, c1, c2, c3, c4, c5, c6, c7, d0, d1, d2, d3, d4, d5, d6, d7, e0, e1⟩ := HS.out x1 hx1
  have HX1 := Lib.hid hx1
  clear hx1
  go_wp2_with fail
  clear a0 a1 a2 b0 b1 b2 b3 b4 b5 b6 b7 c0 c1 c2 c3 c4 c5 c6 c7 d0 d1 d2 d3 d4 d5 d6 d7 e0 e1
  refine (HPnot.out x1 HX1.out).mono ?_
  rintro e x2 ⟨rfl, hy⟩
  have hx2 := HX1.out.trans (hy.mono HX1.out.size)
  clear hy
  obtain ⟨a0, a1, a2, b0, b1, b2, b3, b4, b5, b6, b7, c0, c1, c2, c3, c4, c5, c6, c7, d0, d1, d2, d3, d4, d5, d6, d7, e0, e1⟩ := HS.out x2 hx2
  have HX2 := Lib.hid hx2
  clear hx2
  go_wp2_with fail
  clear a0 a1 a2 b0 b1 b2 b3 b4 b5 b6 b7 c0 c1 c2 c3 c4 c5 c6 c7 d0 d1 d2 d3 d4 d5 d6 d7 e0 e1
  refine (HPtwo.out x2 HX2.out).mono ?_
  rintro e x3 ⟨rfl, hy⟩
  have hx3 := HX2.out.trans (hy.mono HX2.out.size)
  clear hy
  obtain ⟨a0, a1, a2, b0, b1, b2, b3, b4, b5, b6, b7, c0, c1, c2, c3, c4, c5, c6, c7, d0, d1, d2, d3, d4, d5, d6, d7, e0, e1⟩ := HS.out x3 hx3
  have HX3 := Lib.hid hx3
  clear hx3
  go_wp2_with fail
  clear a0 a1 a2 b0 b1 b2 b3 b4 b5 b6 b7 c0 c1 c2 c3 c4 c5 c6 c7 d0 d1 d2 d3 d4 d5 d6 d7 e0 e1
  refine (HPand.out x3 HX3.out).mono ?_
  rintro e x4 ⟨rfl, hy⟩
  have hx4 := HX3.out.trans (hy.mono HX3.out.size)
  clear hy
  obtain ⟨a0, a1, a2, b0, b1, b2, b3, b4, b5, b6, b7, c0, c1, c2, c3, c4, c5, c6, c7, d0, d1, d2, d3, d4, d5, d6, d7, e0, e1⟩ := HS.out x4 hx4
  have HX4 := Lib.hid hx4
  clear hx4
  go_wp2_with fail
  clear a0 a1 a2 b0 b1 b2 b3 b4 b5 b6 b7 c0 c1 c2 c3 c4 c5 c6 c7 d0 d1 d2 d3 d4 d5 d6 d7 e0 e1
  refine (HPor.out x4 HX4.out).mono ?_
  rintro e x5 ⟨rfl, hy⟩
  have hx5 := HX4.out.trans (hy.mono HX4.out.size)
  clear hy
  obtain ⟨a0, a1, a2, b0, b1, b2, b3, b4, b5, b6, b7, c0, c1, c2, c3, c4, c5, c6, c7, d0, d1, d2, d3, d4, d5, d6, d7, e0, e1⟩ := HS.out x5 hx5
  have HX5 := Lib.hid hx5
  clear hx5
  go_wp2_with fail
  clear a0 a1 a2 b0 b1 b2 b3 b4 b5 b6 b7 c0 c1 c2 c3 c4 c5 c6 c7 d0 d1 d2 d3 d4 d5 d6 d7 e0 e1
  refine (HCin.out x5 HX5.out).mono ?_
  rintro e x6 ⟨rfl, hy⟩
  have hx6 := HX5.out.trans (hy.mono HX5.out.size)
  clear hy
  obtain ⟨a0, a1, a2, b0, b1, b2, b3, b4, b5, b6, b7, c0, c1, c2, c3, c4, c5, c6, c7, d0, d1, d2, d3, d4, d5, d6, d7, e0, e1⟩ := HS.out x6 hx6
  have HX6 := Lib.hid hx6
  clear hx6
  go_wp2_with fail
  clear a0 a1 a2 b0 b1 b2 b3 b4 b5 b6 b7 c0 c1 c2 c3 c4 c5 c6 c7 d0 d1 d2 d3 d4 d5 d6 d7 e0 e1
  refine (HCtwo.out x6 HX6.out).mono ?_
  rintro e x7 ⟨rfl, hy⟩
  have hx7 := HX6.out.trans (hy.mono HX6.out.size)
  clear hy
  obtain ⟨a0, a1, a2, b0, b1, b2, b3, b4, b5, b6, b7, c0, c1, c2, c3, c4, c5, c6, c7, d0, d1, d2, d3, d4, d5, d6, d7, e0, e1⟩ := HS.out x7 hx7
  have HX7 := Lib.hid hx7
  clear hx7
  go_wp2_with fail
  clear a0 a1 a2 b0 b1 b2 b3 b4 b5 b6 b7 c0 c1 c2 c3 c4 c5 c6 c7 d0 d1 d2 d3 d4 d5 d6 d7 e0 e1
  refine (HChas.out x7 HX7.out).mono ?_
  rintro e x8 ⟨rfl, hy⟩
  have hx8 := HX7.out.trans (hy.mono HX7.out.size)
  clear hy
  obtain ⟨a0, a1, a2, b0, b1, b2, b3, b4, b5, b6, b7, c0, c1, c2, c3, c4, c5, c6, c7, d0, d1, d2, d3, d4, d5, d6, d7, e0, e1⟩ := HS.out x8 hx8
  have HX8 := Lib.hid hx8
  clear hx8
  go_wp2_with fail
  clear a0 a1 a2 b0 b1 b2 b3 b4 b5 b6 b7 c0 c1 c2 c3 c4 c5 c6 c7 d0 d1 d2 d3 d4 d5 d6 d7 e0 e1
  refine (HZsize.out x8 HX8.out).mono ?_
  rintro e x9 ⟨rfl, hy⟩
  have hx9 := HX8.out.trans (hy.mono HX8.out.size)
  clear hy
  obtain ⟨a0, a1, a2, b0, b1, b2, b3, b4, b5, b6, b7, c0, c1, c2, c3, c4, c5, c6, c7, d0, d1, d2, d3, d4, d5, d6, d7, e0, e1⟩ := HS.out x9 hx9
  have HX9 := Lib.hid hx9
  clear hx9
  go_wp2_with fail
  clear a0 a1 a2 b0 b1 b2 b3 b4 b5 b6 b7 c0 c1 c2 c3 c4 c5 c6 c7 d0 d1 d2 d3 d4 d5 d6 d7 e0 e1
  refine (HZdepth.out x9 HX9.out).mono ?_
  rintro e x10 ⟨rfl, hy⟩
  have hx10 := HX9.out.trans (hy.mono HX9.out.size)
  clear hy
  obtain ⟨a0, a1, a2, b0, b1, b2, b3, b4, b5, b6, b7, c0, c1, c2, c3, c4, c5, c6, c7, d0, d1, d2, d3, d4, d5, d6, d7, e0, e1⟩ := HS.out x10 hx10
  have HX10 := Lib.hid hx10
  clear hx10
  go_wp2_with fail
  clear a0 a1 a2 b0 b1 b2 b3 b4 b5 b6 b7 c0 c1 c2 c3 c4 c5 c6 c7 d0 d1 d2 d3 d4 d5 d6 d7 e0 e1
  refine (HSM.out x10 HX10.out).mono ?_
  rintro e x11 ⟨rfl, hy⟩
  have hx11 := HX10.out.trans (hy.mono HX10.out.size)
  clear hy
  obtain ⟨a0, a1, a2, b0, b1, b2, b3, b4, b5, b6, b7, c0, c1, c2, c3, c4, c5, c6, c7, d0, d1, d2, d3, d4, d5, d6, d7, e0, e1⟩ := HS.out x11 hx11
  have HX11 := Lib.hid hx11
  clear hx11
  go_wp2_with fail
  clear a0 a1 a2 b0 b1 b2 b3 b4 b5 b6 b7 c0 c1 c2 c3 c4 c5 c6 c7 d0 d1 d2 d3 d4 d5 d6 d7 e0 e1
  refine (HID.out x11 HX11.out).mono ?_
  rintro e y ⟨p, c', rfl, hy⟩
  have HY := Lib.hid (HB0.out.trans ((HB3.out.trans ((HX11.out.trans (hy.mono HX11.out.size)).mono HB3.out.size)).mono HB0.out.size))
  clear hy
  go_wp2_with fail
  go_ret
  exact ⟨rfl, HY.out⟩
end Ft
end Go.Proofs.YtclmalaomofahaaGreatDoor
