/- An index that is none: each call. Conditions: those that each theorem names. -/
import Derived.Test.YtioidkbpjkcjeaaRnO
namespace Go.Proofs.Ytioidkbpjkcjeaa
set_option linter.unusedVariables false
open Go Go.RowKit Go.Shelf Go.Sort Ids
namespace Rn
set_option maxHeartbeats 2000000 in
set_option maxRecDepth 100000 in
theorem search_nil (x : En) (f : Value) (w : World) :
    Calls Try.prog 38 #[.slice none 0 0, hv x, f] w fun e w' => e = .returned (.tuple #[.int .i64 0, .bool false]) ∧ Gn w w' := by
  have HG0 : Hid (Gn w (w.alloc (hobj x))) := Lib.hid ((Gn.refl w).alloc _)
  go_enter Try.func38, Try.ntmps38
  go_wp2
  refine wp_loop_rounds 1 ?_
  rw [rounds_succ]
  go_wp2
  go_quiet (fail)
  go_wp2
  go_ret2
  exact ⟨rfl, HG0.out.drewN _⟩
set_option maxHeartbeats 2000000 in
set_option maxRecDepth 100000 in
theorem rbetween_nil (x y : En) (w : World) :
    Calls Try.prog 33 #[.agg #[.nilFunc, .slice none 0 0], hv x, hv y] w fun e w' => e = .returned (.slice none 0 0) ∧ Gn w w' := by
  obtain ⟨t1, t2, t3, t4⟩ := three_boxes w .nilFunc (.slice none 0 0) x y
  have HS := Lib.hid (fun (z : En) (W : World) => search_nil z .nilFunc W)
  have HB : Hid (∀ W, Gn (((w.alloc (rowO .nilFunc (.slice none 0 0))).alloc (hobj x)).alloc (hobj y)) W → (W.cell? ⟨w.heap.size, 0, none⟩ = some .nilFunc ∧ W.cell? ⟨w.heap.size, 1, none⟩ = some (.slice none 0 0)) ∧ (W.cell? ⟨w.heap.size + 1, 0, none⟩ = some (.int .i64 x.1) ∧ W.cell? ⟨w.heap.size + 1, 1, none⟩ = some (.int .i64 x.2)) ∧ W.cell? ⟨w.heap.size + 2, 0, none⟩ = some (.int .i64 y.1) ∧ W.cell? ⟨w.heap.size + 2, 1, none⟩ = some (.int .i64 y.2)) := Lib.hid (fun W hW =>
    ⟨two_cells ((hW.block (by simp <;> omega)).trans t1), two_cells ((hW.block (by simp <;> omega)).trans t2), two_cells ((hW.block (by simp <;> omega)).trans t3)⟩)
  have HG1 := Lib.hid t4
  clear t1 t2 t3 t4
  obtain ⟨⟨r0, r1⟩, ⟨x0, x1⟩, y0, y1⟩ := HB.out _ (Gn.refl _)
  go_enter Try.func33, Try.ntmps33
  go_wp2_with fail
  refine (HS.out x _).mono ?_
  rintro e w1 ⟨rfl, g1⟩
  obtain ⟨⟨r0, r1⟩, ⟨x0, x1⟩, y0, y1⟩ := HB.out _ g1
  have HG2 := Lib.hid (HG1.out.trans g1)
  have HG2' := Lib.hid g1
  clear g1 HG1
  go_wp2_with fail
  refine (HS.out y _).mono ?_
  rintro e w2 ⟨rfl, g2⟩
  obtain ⟨⟨r0, r1⟩, ⟨x0, x1⟩, y0, y1⟩ := HB.out _ (HG2'.out.trans g2)
  have HG3 := Lib.hid (HG2.out.trans g2)
  clear g2 HG2 HG2' HB
  go_wp2_with fail
  go_ret
  exact ⟨rfl, HG3.out⟩
set_option maxHeartbeats 2000000 in
set_option maxRecDepth 100000 in
theorem ibetween_nil (low high : Int) (w : World) :
    Calls Try.prog 26 #[.pointer none, .int .i64 low, .int .i64 high] w fun e w' => e = .returned (.slice none 0 0) ∧ Gn w w' := by
  have HC := Lib.hid (all_none w)
  have HB := Lib.hid (fun (W : World) => rbetween_nil (low, -9223372036854775808) (high, 9223372036854775807) W)
  go_enter Try.func26, Try.ntmps26
  go_wp2_with fail
  refine HC.out.mono ?_
  rintro e w1 ⟨rfl, hg⟩
  have HG := Lib.hid hg
  clear hg HC
  go_wp2_with fail
  refine (HB.out _).mono ?_
  rintro e w2 ⟨rfl, hg⟩
  have HF := Lib.hid (HG.out.trans hg)
  clear hg HB
  go_wp2_with fail
  go_ret
  exact ⟨rfl, HF.out⟩
set_option maxHeartbeats 2000000 in
set_option maxRecDepth 100000 in
theorem count_nil (low high : Int) (w : World) :
    Calls Try.prog 17 #[.pointer none, .int .i64 low, .int .i64 high] w fun e w' => e = .returned (.int .i64 0) ∧ Gn w w' := by
  have HB := Lib.hid (ibetween_nil low high w)
  go_enter Try.func17, Try.ntmps17
  go_wp2_with fail
  refine HB.out.mono ?_
  rintro e w2 ⟨rfl, hg⟩
  have HF := Lib.hid hg
  clear hg HB
  go_wp2_with fail
  go_ret
  exact ⟨rfl, HF.out⟩
set_option maxHeartbeats 2000000 in
set_option maxRecDepth 100000 in
theorem between_nil (low high : Int) (w : World) :
    Calls Try.prog 15 #[.pointer none, .int .i64 low, .int .i64 high] w fun e w' => ∃ p c, e = .returned (.slice p 0 c) ∧ Below w.heap.size w w' := by
  have HB := Lib.hid (ibetween_nil low high w)
  have HU := Lib.hid (fun (W : World) => union_any [] [] (.slice none 0 0) (.slice none 0 0) W (.inl ⟨rfl, none, 0, rfl⟩) (.inl ⟨rfl, none, 0, rfl⟩) (by simp))
  have hu : uniL [] [] = [] := rfl
  rw [hu] at HU
  clear hu
  go_enter Try.func15, Try.ntmps15
  go_wp2_with fail
  refine HB.out.mono ?_
  rintro e w1 ⟨rfl, hg⟩
  have HG := Lib.hid hg.below
  clear hg HB
  go_wp2_with fail
  refine wp_loop_rounds 1 ?_
  rw [rounds_succ]
  go_wp2_with fail
  refine (HU.out _).mono ?_
  rintro e w2 ⟨u, rfl, ho, hb⟩
  obtain ⟨p, c, rfl⟩ := (Own.at ho).form
  have HF := Lib.hid (HG.out.trans (hb.mono HG.out.size))
  clear ho hb
  go_wp2_with fail
  go_ret
  exact ⟨p, c, rfl, HF.out⟩
set_option maxHeartbeats 2000000 in
set_option maxRecDepth 100000 in
theorem entries_nil (w : World) :
    Calls Try.prog 12 #[.pointer none] w fun e w' => ∃ p c, e = .returned (.slice p 0 c) ∧ Below w.heap.size w w' := by
  have HC := Lib.hid (all_none w)
  have HO := Lib.hid (fun (W : World) => clone_all [] (.slice none 0 0) W (.inl ⟨rfl, none, 0, rfl⟩) (by decide))
  have hfd := field1
  go_enter Try.func12, Try.ntmps12
  go_wp2_with fail
  refine HC.out.mono ?_
  rintro e w1 ⟨rfl, hg⟩
  have HG := Lib.hid hg.below
  clear hg HC
  go_wp2_with fail
  refine (HO.out _).mono ?_
  rintro e w2 ⟨u, rfl, ho, hb⟩
  obtain ⟨p, c, rfl⟩ := own_nil ho
  have HF := Lib.hid (HG.out.trans (hb.mono HG.out.size))
  clear ho hb
  go_wp2_with fail
  go_ret
  exact ⟨p, c, rfl, HF.out⟩
set_option maxHeartbeats 2000000 in
set_option maxRecDepth 100000 in
theorem least_nil (w : World) :
    Calls Try.prog 10 #[.pointer none] w fun e w' => e = .returned (.tuple #[.int .i64 0, .bool false]) ∧ Gn w w' := by
  have HC := Lib.hid (all_none w)
  have HA := Lib.hid (fun W => at_out .nilFunc none 0 0 0 W (.inr (Int.le_refl _)))
  go_enter Try.func10, Try.ntmps10
  go_wp2_with fail
  refine HC.out.mono ?_
  rintro e w1 ⟨rfl, hg⟩
  have HG := Lib.hid hg
  clear hg HC
  go_wp2_with fail
  refine (HA.out _).mono ?_
  rintro e w2 ⟨rfl, hg⟩
  have HF := Lib.hid ((HG.out.trans hg).alloc (hobj (0, 0)))
  clear hg
  go_wp2_with fail
  go_ret2
  exact ⟨rfl, HF.out⟩
set_option maxHeartbeats 2000000 in
set_option maxRecDepth 100000 in
theorem greatest_nil (w : World) :
    Calls Try.prog 11 #[.pointer none] w fun e w' => e = .returned (.tuple #[.int .i64 0, .bool false]) ∧ Gn w w' := by
  have HC := Lib.hid (all_none w)
  have HLN := Lib.hid (fun W => len_none W)
  have HA := Lib.hid (fun W => at_out .nilFunc none 0 0 (-1) W (.inl (by decide)))
  go_enter Try.func11, Try.ntmps11
  go_wp2_with fail
  refine HC.out.mono ?_
  rintro e w1 ⟨rfl, hg⟩
  have HG := Lib.hid hg
  clear hg HC
  go_wp2_with fail
  refine (HLN.out _).mono ?_
  rintro e w2 ⟨rfl, hg⟩
  have HG2 := Lib.hid (HG.out.trans hg)
  clear hg
  go_wp2_with fail
  refine (HA.out _).mono ?_
  rintro e w3 ⟨rfl, hg⟩
  have HF := Lib.hid ((HG2.out.trans hg).alloc (hobj (0, 0)))
  clear hg
  go_wp2_with fail
  go_ret2
  exact ⟨rfl, HF.out⟩
end Rn
end Go.Proofs.Ytioidkbpjkcjeaa
