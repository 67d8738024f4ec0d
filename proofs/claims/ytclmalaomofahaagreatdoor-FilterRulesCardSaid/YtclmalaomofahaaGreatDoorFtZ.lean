/- The walk of FilterRules: the three conditions in boxes of their own. Conditions: those that each theorem names. -/
import Derived.Test.YtclmalaomofahaaGreatDoorFtY
namespace Go.Proofs.YtclmalaomofahaaGreatDoor
set_option linter.unusedVariables false
namespace Ft
open Go Go.RowKit Go.Shelf Pq Pq.Pl Px
theorem trio (w1 : World) (x y z : Obj) : Below w1.heap.size w1 (((w1.alloc x).alloc y).alloc z) ∧ (((w1.alloc x).alloc y).alloc z).heap[w1.heap.size]? = some x ∧ (((w1.alloc x).alloc y).alloc z).heap[w1.heap.size + 1]? = some y ∧ (((w1.alloc x).alloc y).alloc z).heap[w1.heap.size + 1 + 1]? = some z := by
  have s1 : (w1.alloc x).heap.size = w1.heap.size + 1 := by simp
  have s2 : ((w1.alloc x).alloc y).heap.size = w1.heap.size + 1 + 1 := by simp
  obtain ⟨h1, h2, h3⟩ := three w1 x y z
  exact ⟨h1, by rw [Rk.heap_old _ _ (by omega), Rk.heap_old _ _ (by omega), Rk.heap_last], h2, h3⟩
set_option maxHeartbeats 8000000 in
set_option maxRecDepth 100000 in
theorem rules_walk (ca cb cc : Cd) (a b c : Rc) (F : List Fld) (p : Rp) (w : World) (ha : CdW (fun _ => True) w ca a) (hb : CdW (fun _ => True) w cb b) (hc : CdW (fun _ => True) w cc c) (ba : Big ca) (bb : Big cb) (bc : Big cc) (hf : FldsAt w (.slice p.f.p p.f.n p.f.c) F) (hok : FldsOk F) :
    Calls Tryz.prog 5 #[cv3 a b c, pv p] w fun e w' => e = .returned (.bool true) ∧ Below w.heap.size w w' := by
  have HT := Lib.hid (boxes3 w a b c p)
  have HCA := Lib.hid ha
  have HCB := Lib.hid hb
  have HCC := Lib.hid hc
  have HBA := Lib.hid ba
  have HBB := Lib.hid bb
  have HBC := Lib.hid bc
  have HF := Lib.hid hf
  have HOK := Lib.hid hok
  clear ha hb hc ba bb bc hf hok
  obtain ⟨a0, a1, ⟨a2, a3, a4⟩, a5, a6, ⟨a7, a8, a9⟩⟩ := a
  obtain ⟨b0, b1, ⟨b2, b3, b4⟩, b5, b6, ⟨b7, b8, b9⟩⟩ := b
  obtain ⟨c0, c1, ⟨c2, c3, c4⟩, c5, c6, ⟨c7, c8, c9⟩⟩ := c
  obtain ⟨pid, ⟨vp, vn, vc⟩, ⟨fp, fn, fc⟩⟩ := p
  obtain ⟨w1, hw1⟩ : ∃ w1, w1 = (w.alloc (aobj ⟨a0, a1, ⟨a2, a3, a4⟩, a5, a6, ⟨a7, a8, a9⟩⟩ ⟨b0, b1, ⟨b2, b3, b4⟩, b5, b6, ⟨b7, b8, b9⟩⟩ ⟨c0, c1, ⟨c2, c3, c4⟩, c5, c6, ⟨c7, c8, c9⟩⟩)).alloc (pbox ⟨pid, ⟨vp, vn, vc⟩, ⟨fp, fn, fc⟩⟩) := ⟨_, rfl⟩
  rw [← hw1] at HT
  have HS : Hid (∀ W, Below w1.heap.size w1 W → W.cell? ⟨w.heap.size, 0, none⟩ = some (.int .i64 a0) ∧ W.cell? ⟨w.heap.size, 1, none⟩ = some (.string a1) ∧ W.cell? ⟨w.heap.size, 2, none⟩ = some (.int .i64 a2) ∧ W.cell? ⟨w.heap.size, 3, none⟩ = some (.int .i64 a3) ∧ W.cell? ⟨w.heap.size, 4, none⟩ = some (.string a4) ∧ W.cell? ⟨w.heap.size, 5, none⟩ = some (.int .i64 a5) ∧ W.cell? ⟨w.heap.size, 6, none⟩ = some (.int .i64 a6) ∧ W.cell? ⟨w.heap.size, 7, none⟩ = some (.slice a7 a8 a9) ∧ W.cell? ⟨w.heap.size, 8, none⟩ = some (.int .i64 b0) ∧ W.cell? ⟨w.heap.size, 9, none⟩ = some (.string b1) ∧ W.cell? ⟨w.heap.size, 10, none⟩ = some (.int .i64 b2) ∧ W.cell? ⟨w.heap.size, 11, none⟩ = some (.int .i64 b3) ∧ W.cell? ⟨w.heap.size, 12, none⟩ = some (.string b4) ∧ W.cell? ⟨w.heap.size, 13, none⟩ = some (.int .i64 b5) ∧ W.cell? ⟨w.heap.size, 14, none⟩ = some (.int .i64 b6) ∧ W.cell? ⟨w.heap.size, 15, none⟩ = some (.slice b7 b8 b9) ∧ W.cell? ⟨w.heap.size, 16, none⟩ = some (.int .i64 c0) ∧ W.cell? ⟨w.heap.size, 17, none⟩ = some (.string c1) ∧ W.cell? ⟨w.heap.size, 18, none⟩ = some (.int .i64 c2) ∧ W.cell? ⟨w.heap.size, 19, none⟩ = some (.int .i64 c3) ∧ W.cell? ⟨w.heap.size, 20, none⟩ = some (.string c4) ∧ W.cell? ⟨w.heap.size, 21, none⟩ = some (.int .i64 c5) ∧ W.cell? ⟨w.heap.size, 22, none⟩ = some (.int .i64 c6) ∧ W.cell? ⟨w.heap.size, 23, none⟩ = some (.slice c7 c8 c9)) := Lib.hid (fun W hW => by
    have hz := (hW.block _ (Rk.lt_of_block HT.out.2.1)).trans HT.out.2.1
    exact ⟨Lib.cell_of_heap hz 0, Lib.cell_of_heap hz 1, Lib.cell_of_heap hz 2, Lib.cell_of_heap hz 3, Lib.cell_of_heap hz 4, Lib.cell_of_heap hz 5, Lib.cell_of_heap hz 6, Lib.cell_of_heap hz 7, Lib.cell_of_heap hz 8, Lib.cell_of_heap hz 9, Lib.cell_of_heap hz 10, Lib.cell_of_heap hz 11, Lib.cell_of_heap hz 12, Lib.cell_of_heap hz 13, Lib.cell_of_heap hz 14, Lib.cell_of_heap hz 15, Lib.cell_of_heap hz 16, Lib.cell_of_heap hz 17, Lib.cell_of_heap hz 18, Lib.cell_of_heap hz 19, Lib.cell_of_heap hz 20, Lib.cell_of_heap hz 21, Lib.cell_of_heap hz 22, Lib.cell_of_heap hz 23⟩)
  go_enter Tryz.func5, Tryz.ntmps5
  go_upto_region 1 with fail
  rw [← hw1]
  clear hw1
  have HB1 : Hid (∀ o : Obj, Below w1.heap.size w1 (w1.alloc o).drew) := Lib.hid (fun o => (Rk.fresh_alloc w1 o).drew)
  have HB2 : Hid (∀ o o' : Obj, Below w1.heap.size w1 ((w1.alloc o).alloc o').drew) := Lib.hid (fun o o' => ((Rk.fresh_alloc w1 o).alloc (by simp) o').drew)
  have HB3 : Hid (∀ o o' o'' : Obj, Below w1.heap.size w1 (((w1.alloc o).alloc o').alloc o'').drew) := Lib.hid (fun o o' o'' => (trio w1 o o' o'').1.drew)
  go_cut [5, 6, 7] (fun u5 u6 u7 wx => ∃ A B C, u5 = .pointer (some ⟨A, 0, none⟩) ∧ u6 = .pointer (some ⟨B, 0, none⟩) ∧ u7 = .pointer (some ⟨C, 0, none⟩) ∧ Hid (Trio w1 ⟨a0, a1, ⟨a2, a3, a4⟩, a5, a6, ⟨a7, a8, a9⟩⟩ ⟨b0, b1, ⟨b2, b3, b4⟩, b5, b6, ⟨b7, b8, b9⟩⟩ ⟨c0, c1, ⟨c2, c3, c4⟩, c5, c6, ⟨c7, c8, c9⟩⟩ ⟨pid, ⟨vp, vn, vc⟩, ⟨fp, fn, fc⟩⟩ A B C (w.heap.size + 1) wx))
  case first =>
    refine wp_region_held_drew (S := fun W => Below w1.heap.size w1 W) (by kernel_rfl) (Below.refl _ _).drew (fun hHeld => ?_)
    refine H_take' (i := 0) (v := ?vv1_0) rfl (by kernel_rfl) (by kernel_rfl) (by kernel_rfl) (fun _ _ _ h => h) (Or.inl ⟨by rfl, ?hy1_0⟩) hHeld ?rest1_0
    case hy1_0 =>
      intro wy hSx
      obtain ⟨z0, z1, z2, z3, z4, z5, z6, z7, z8, z9, z10, z11, z12, z13, z14, z15, z16, z17, z18, z19, z20, z21, z22, z23⟩ := HS.out wy hSx
      go_simp
      all_goals with_reducible rfl
    try simp only [Act.put, List.setIfInBounds_toArray, List.set_cons_zero, List.set_cons_succ]
    refine H_take' (i := 1) (v := ?vv2_1) rfl (by kernel_rfl) (by kernel_rfl) (by kernel_rfl) (fun _ _ _ h => h) (Or.inl ⟨by rfl, ?hy2_1⟩) hHeld ?rest2_1
    case hy2_1 =>
      intro wy hSx
      obtain ⟨z0, z1, z2, z3, z4, z5, z6, z7, z8, z9, z10, z11, z12, z13, z14, z15, z16, z17, z18, z19, z20, z21, z22, z23⟩ := HS.out wy hSx
      go_simp
      all_goals with_reducible rfl
    try simp only [Act.put, List.setIfInBounds_toArray, List.set_cons_zero, List.set_cons_succ]
    refine H_take' (i := 2) (v := ?vv3_2) rfl (by kernel_rfl) (by kernel_rfl) (by kernel_rfl) (fun _ _ _ h => h) (Or.inl ⟨by rfl, ?hy3_2⟩) hHeld ?rest3_2
    case hy3_2 =>
      intro wy hSx
      obtain ⟨z0, z1, z2, z3, z4, z5, z6, z7, z8, z9, z10, z11, z12, z13, z14, z15, z16, z17, z18, z19, z20, z21, z22, z23⟩ := HS.out wy hSx
      go_simp
      all_goals with_reducible rfl
    try simp only [Act.put, List.setIfInBounds_toArray, List.set_cons_zero, List.set_cons_succ]
    refine H_take' (i := 3) (v := ?vv4_3) rfl (by kernel_rfl) (by kernel_rfl) (by kernel_rfl) (fun _ _ _ h => h) (Or.inl ⟨by rfl, ?hy4_3⟩) hHeld ?rest4_3
    case hy4_3 =>
      intro wy hSx
      obtain ⟨z0, z1, z2, z3, z4, z5, z6, z7, z8, z9, z10, z11, z12, z13, z14, z15, z16, z17, z18, z19, z20, z21, z22, z23⟩ := HS.out wy hSx
      go_simp
      all_goals with_reducible rfl
    try simp only [Act.put, List.setIfInBounds_toArray, List.set_cons_zero, List.set_cons_succ]
    refine H_take' (i := 4) (v := ?vv5_4) rfl (by kernel_rfl) (by kernel_rfl) (by kernel_rfl) (fun _ _ _ h => h) (Or.inl ⟨by rfl, ?hy5_4⟩) hHeld ?rest5_4
    case hy5_4 =>
      intro wy hSx
      obtain ⟨z0, z1, z2, z3, z4, z5, z6, z7, z8, z9, z10, z11, z12, z13, z14, z15, z16, z17, z18, z19, z20, z21, z22, z23⟩ := HS.out wy hSx
      go_simp
      all_goals with_reducible rfl
    try simp only [Act.put, List.setIfInBounds_toArray, List.set_cons_zero, List.set_cons_succ]
    refine H_take' (i := 5) (v := ?vv6_5) rfl (by kernel_rfl) (by kernel_rfl) (by kernel_rfl) (fun _ _ _ h => h) (Or.inl ⟨by rfl, ?hy6_5⟩) hHeld ?rest6_5
    case hy6_5 =>
      intro wy hSx
      obtain ⟨z0, z1, z2, z3, z4, z5, z6, z7, z8, z9, z10, z11, z12, z13, z14, z15, z16, z17, z18, z19, z20, z21, z22, z23⟩ := HS.out wy hSx
      go_simp
      all_goals with_reducible rfl
    try simp only [Act.put, List.setIfInBounds_toArray, List.set_cons_zero, List.set_cons_succ]
    refine wpAnyH_ready (rs := [6, 7, 8]) (by kernel_rfl) (by simp) ?_
    refine AllReadyH.cons (H_at rfl) (fun K hK => ?_) (AllReadyH.cons (H_at rfl) (fun K hK => ?_) (AllReadyH.cons (H_at rfl) (fun K hK => ?_) AllReadyH.nil))
    · go_simp
      refine hK.out _ _ (by first | exact HB1.out _ | exact HB2.out _ _ | exact HB3.out _ _ _) (fun hHeld => ?_)
      clear hK K
      try simp only [Act.put, List.setIfInBounds_toArray, List.set_cons_zero, List.set_cons_succ]
      refine wpAnyH_ready (rs := [7, 8]) (by kernel_rfl) (by simp) ?_
      refine AllReadyH.cons (H_at rfl) (fun K hK => ?_) (AllReadyH.cons (H_at rfl) (fun K hK => ?_) AllReadyH.nil)
      · go_simp
        refine hK.out _ _ (by first | exact HB1.out _ | exact HB2.out _ _ | exact HB3.out _ _ _) (fun hHeld => ?_)
        clear hK K
        try simp only [Act.put, List.setIfInBounds_toArray, List.set_cons_zero, List.set_cons_succ]
        refine wpAnyH_ready (rs := [8]) (by kernel_rfl) (by simp) ?_
        refine AllReadyH.cons (H_at rfl) (fun K hK => ?_) AllReadyH.nil
        · go_simp
          refine hK.out _ _ (by first | exact HB1.out _ | exact HB2.out _ _ | exact HB3.out _ _ _) (fun hHeld => ?_)
          clear hK K
          try simp only [Act.put, List.setIfInBounds_toArray, List.set_cons_zero, List.set_cons_succ]
          refine H_one' (i := 9) rfl (by kernel_rfl) fun K hK => ?_
          go_simp
          refine hK _ _ (by first | exact HB1.out _ | exact HB2.out _ _ | exact HB3.out _ _ _) ?_
          clear K hK
          try simp only [Act.put, List.setIfInBounds_toArray, List.set_cons_zero, List.set_cons_succ]
          refine H_one' (i := 10) rfl (by kernel_rfl) fun K hK => ?_
          go_simp
          refine hK _ _ (by first | exact HB1.out _ | exact HB2.out _ _ | exact HB3.out _ _ _) ?_
          clear K hK
          try simp only [Act.put, List.setIfInBounds_toArray, List.set_cons_zero, List.set_cons_succ]
          refine H_one' (i := 11) rfl (by kernel_rfl) fun K hK => ?_
          go_simp
          refine hK _ _ (by first | exact HB1.out _ | exact HB2.out _ _ | exact HB3.out _ _ _) ?_
          clear K hK
          try simp only [Act.put, List.setIfInBounds_toArray, List.set_cons_zero, List.set_cons_succ]
          refine wpAnyH_done (by kernel_rfl) ?_ _
          go_wp2_with fail
          go_meet
          exact ⟨_, _, _, rfl, rfl, rfl, Lib.hid ⟨(trio w1 (cobj ⟨a0, a1, ⟨a2, a3, a4⟩, a5, a6, ⟨a7, a8, a9⟩⟩) (cobj ⟨b0, b1, ⟨b2, b3, b4⟩, b5, b6, ⟨b7, b8, b9⟩⟩) (cobj ⟨c0, c1, ⟨c2, c3, c4⟩, c5, c6, ⟨c7, c8, c9⟩⟩)).1.drew, (trio w1 (cobj ⟨a0, a1, ⟨a2, a3, a4⟩, a5, a6, ⟨a7, a8, a9⟩⟩) (cobj ⟨b0, b1, ⟨b2, b3, b4⟩, b5, b6, ⟨b7, b8, b9⟩⟩) (cobj ⟨c0, c1, ⟨c2, c3, c4⟩, c5, c6, ⟨c7, c8, c9⟩⟩)).2.1, (trio w1 (cobj ⟨a0, a1, ⟨a2, a3, a4⟩, a5, a6, ⟨a7, a8, a9⟩⟩) (cobj ⟨b0, b1, ⟨b2, b3, b4⟩, b5, b6, ⟨b7, b8, b9⟩⟩) (cobj ⟨c0, c1, ⟨c2, c3, c4⟩, c5, c6, ⟨c7, c8, c9⟩⟩)).2.2.1, (trio w1 (cobj ⟨a0, a1, ⟨a2, a3, a4⟩, a5, a6, ⟨a7, a8, a9⟩⟩) (cobj ⟨b0, b1, ⟨b2, b3, b4⟩, b5, b6, ⟨b7, b8, b9⟩⟩) (cobj ⟨c0, c1, ⟨c2, c3, c4⟩, c5, c6, ⟨c7, c8, c9⟩⟩)).2.2.2, ((trio w1 (cobj ⟨a0, a1, ⟨a2, a3, a4⟩, a5, a6, ⟨a7, a8, a9⟩⟩) (cobj ⟨b0, b1, ⟨b2, b3, b4⟩, b5, b6, ⟨b7, b8, b9⟩⟩) (cobj ⟨c0, c1, ⟨c2, c3, c4⟩, c5, c6, ⟨c7, c8, c9⟩⟩)).1.block _ (Rk.lt_of_block HT.out.2.2)).trans HT.out.2.2⟩⟩
      · go_simp
        refine hK.out _ _ (by first | exact HB1.out _ | exact HB2.out _ _ | exact HB3.out _ _ _) (fun hHeld => ?_)
        clear hK K
        try simp only [Act.put, List.setIfInBounds_toArray, List.set_cons_zero, List.set_cons_succ]
        refine wpAnyH_ready (rs := [7]) (by kernel_rfl) (by simp) ?_
        refine AllReadyH.cons (H_at rfl) (fun K hK => ?_) AllReadyH.nil
        · go_simp
          refine hK.out _ _ (by first | exact HB1.out _ | exact HB2.out _ _ | exact HB3.out _ _ _) (fun hHeld => ?_)
          clear hK K
          try simp only [Act.put, List.setIfInBounds_toArray, List.set_cons_zero, List.set_cons_succ]
          refine H_one' (i := 9) rfl (by kernel_rfl) fun K hK => ?_
          go_simp
          refine hK _ _ (by first | exact HB1.out _ | exact HB2.out _ _ | exact HB3.out _ _ _) ?_
          clear K hK
          try simp only [Act.put, List.setIfInBounds_toArray, List.set_cons_zero, List.set_cons_succ]
          refine H_one' (i := 10) rfl (by kernel_rfl) fun K hK => ?_
          go_simp
          refine hK _ _ (by first | exact HB1.out _ | exact HB2.out _ _ | exact HB3.out _ _ _) ?_
          clear K hK
          try simp only [Act.put, List.setIfInBounds_toArray, List.set_cons_zero, List.set_cons_succ]
          refine H_one' (i := 11) rfl (by kernel_rfl) fun K hK => ?_
          go_simp
          refine hK _ _ (by first | exact HB1.out _ | exact HB2.out _ _ | exact HB3.out _ _ _) ?_
          clear K hK
          try simp only [Act.put, List.setIfInBounds_toArray, List.set_cons_zero, List.set_cons_succ]
          refine wpAnyH_done (by kernel_rfl) ?_ _
          go_wp2_with fail
          go_meet
          exact ⟨_, _, _, rfl, rfl, rfl, Lib.hid ⟨(trio w1 (cobj ⟨a0, a1, ⟨a2, a3, a4⟩, a5, a6, ⟨a7, a8, a9⟩⟩) (cobj ⟨c0, c1, ⟨c2, c3, c4⟩, c5, c6, ⟨c7, c8, c9⟩⟩) (cobj ⟨b0, b1, ⟨b2, b3, b4⟩, b5, b6, ⟨b7, b8, b9⟩⟩)).1.drew, (trio w1 (cobj ⟨a0, a1, ⟨a2, a3, a4⟩, a5, a6, ⟨a7, a8, a9⟩⟩) (cobj ⟨c0, c1, ⟨c2, c3, c4⟩, c5, c6, ⟨c7, c8, c9⟩⟩) (cobj ⟨b0, b1, ⟨b2, b3, b4⟩, b5, b6, ⟨b7, b8, b9⟩⟩)).2.1, (trio w1 (cobj ⟨a0, a1, ⟨a2, a3, a4⟩, a5, a6, ⟨a7, a8, a9⟩⟩) (cobj ⟨c0, c1, ⟨c2, c3, c4⟩, c5, c6, ⟨c7, c8, c9⟩⟩) (cobj ⟨b0, b1, ⟨b2, b3, b4⟩, b5, b6, ⟨b7, b8, b9⟩⟩)).2.2.2, (trio w1 (cobj ⟨a0, a1, ⟨a2, a3, a4⟩, a5, a6, ⟨a7, a8, a9⟩⟩) (cobj ⟨c0, c1, ⟨c2, c3, c4⟩, c5, c6, ⟨c7, c8, c9⟩⟩) (cobj ⟨b0, b1, ⟨b2, b3, b4⟩, b5, b6, ⟨b7, b8, b9⟩⟩)).2.2.1, ((trio w1 (cobj ⟨a0, a1, ⟨a2, a3, a4⟩, a5, a6, ⟨a7, a8, a9⟩⟩) (cobj ⟨c0, c1, ⟨c2, c3, c4⟩, c5, c6, ⟨c7, c8, c9⟩⟩) (cobj ⟨b0, b1, ⟨b2, b3, b4⟩, b5, b6, ⟨b7, b8, b9⟩⟩)).1.block _ (Rk.lt_of_block HT.out.2.2)).trans HT.out.2.2⟩⟩
    · go_simp
      refine hK.out _ _ (by first | exact HB1.out _ | exact HB2.out _ _ | exact HB3.out _ _ _) (fun hHeld => ?_)
      clear hK K
      try simp only [Act.put, List.setIfInBounds_toArray, List.set_cons_zero, List.set_cons_succ]
      refine wpAnyH_ready (rs := [6, 8]) (by kernel_rfl) (by simp) ?_
      refine AllReadyH.cons (H_at rfl) (fun K hK => ?_) (AllReadyH.cons (H_at rfl) (fun K hK => ?_) AllReadyH.nil)
      · go_simp
        refine hK.out _ _ (by first | exact HB1.out _ | exact HB2.out _ _ | exact HB3.out _ _ _) (fun hHeld => ?_)
        clear hK K
        try simp only [Act.put, List.setIfInBounds_toArray, List.set_cons_zero, List.set_cons_succ]
        refine wpAnyH_ready (rs := [8]) (by kernel_rfl) (by simp) ?_
        refine AllReadyH.cons (H_at rfl) (fun K hK => ?_) AllReadyH.nil
        · go_simp
          refine hK.out _ _ (by first | exact HB1.out _ | exact HB2.out _ _ | exact HB3.out _ _ _) (fun hHeld => ?_)
          clear hK K
          try simp only [Act.put, List.setIfInBounds_toArray, List.set_cons_zero, List.set_cons_succ]
          refine H_one' (i := 9) rfl (by kernel_rfl) fun K hK => ?_
          go_simp
          refine hK _ _ (by first | exact HB1.out _ | exact HB2.out _ _ | exact HB3.out _ _ _) ?_
          clear K hK
          try simp only [Act.put, List.setIfInBounds_toArray, List.set_cons_zero, List.set_cons_succ]
          refine H_one' (i := 10) rfl (by kernel_rfl) fun K hK => ?_
          go_simp
          refine hK _ _ (by first | exact HB1.out _ | exact HB2.out _ _ | exact HB3.out _ _ _) ?_
          clear K hK
          try simp only [Act.put, List.setIfInBounds_toArray, List.set_cons_zero, List.set_cons_succ]
          refine H_one' (i := 11) rfl (by kernel_rfl) fun K hK => ?_
          go_simp
          refine hK _ _ (by first | exact HB1.out _ | exact HB2.out _ _ | exact HB3.out _ _ _) ?_
          clear K hK
          try simp only [Act.put, List.setIfInBounds_toArray, List.set_cons_zero, List.set_cons_succ]
          refine wpAnyH_done (by kernel_rfl) ?_ _
          go_wp2_with fail
          go_meet
          exact ⟨_, _, _, rfl, rfl, rfl, Lib.hid ⟨(trio w1 (cobj ⟨b0, b1, ⟨b2, b3, b4⟩, b5, b6, ⟨b7, b8, b9⟩⟩) (cobj ⟨a0, a1, ⟨a2, a3, a4⟩, a5, a6, ⟨a7, a8, a9⟩⟩) (cobj ⟨c0, c1, ⟨c2, c3, c4⟩, c5, c6, ⟨c7, c8, c9⟩⟩)).1.drew, (trio w1 (cobj ⟨b0, b1, ⟨b2, b3, b4⟩, b5, b6, ⟨b7, b8, b9⟩⟩) (cobj ⟨a0, a1, ⟨a2, a3, a4⟩, a5, a6, ⟨a7, a8, a9⟩⟩) (cobj ⟨c0, c1, ⟨c2, c3, c4⟩, c5, c6, ⟨c7, c8, c9⟩⟩)).2.2.1, (trio w1 (cobj ⟨b0, b1, ⟨b2, b3, b4⟩, b5, b6, ⟨b7, b8, b9⟩⟩) (cobj ⟨a0, a1, ⟨a2, a3, a4⟩, a5, a6, ⟨a7, a8, a9⟩⟩) (cobj ⟨c0, c1, ⟨c2, c3, c4⟩, c5, c6, ⟨c7, c8, c9⟩⟩)).2.1, (trio w1 (cobj ⟨b0, b1, ⟨b2, b3, b4⟩, b5, b6, ⟨b7, b8, b9⟩⟩) (cobj ⟨a0, a1, ⟨a2, a3, a4⟩, a5, a6, ⟨a7, a8, a9⟩⟩) (cobj ⟨c0, c1, ⟨c2, c3, c4⟩, c5, c6, ⟨c7, c8, c9⟩⟩)).2.2.2, ((trio w1 (cobj ⟨b0, b1, ⟨b2, b3, b4⟩, b5, b6, ⟨b7, b8, b9⟩⟩) (cobj ⟨a0, a1, ⟨a2, a3, a4⟩, a5, a6, ⟨a7, a8, a9⟩⟩) (cobj ⟨c0, c1, ⟨c2, c3, c4⟩, c5, c6, ⟨c7, c8, c9⟩⟩)).1.block _ (Rk.lt_of_block HT.out.2.2)).trans HT.out.2.2⟩⟩
      · go_simp
        refine hK.out _ _ (by first | exact HB1.out _ | exact HB2.out _ _ | exact HB3.out _ _ _) (fun hHeld => ?_)
        clear hK K
        try simp only [Act.put, List.setIfInBounds_toArray, List.set_cons_zero, List.set_cons_succ]
        refine wpAnyH_ready (rs := [6]) (by kernel_rfl) (by simp) ?_
        refine AllReadyH.cons (H_at rfl) (fun K hK => ?_) AllReadyH.nil
        · go_simp
          refine hK.out _ _ (by first | exact HB1.out _ | exact HB2.out _ _ | exact HB3.out _ _ _) (fun hHeld => ?_)
          clear hK K
          try simp only [Act.put, List.setIfInBounds_toArray, List.set_cons_zero, List.set_cons_succ]
          refine H_one' (i := 9) rfl (by kernel_rfl) fun K hK => ?_
          go_simp
          refine hK _ _ (by first | exact HB1.out _ | exact HB2.out _ _ | exact HB3.out _ _ _) ?_
          clear K hK
          try simp only [Act.put, List.setIfInBounds_toArray, List.set_cons_zero, List.set_cons_succ]
          refine H_one' (i := 10) rfl (by kernel_rfl) fun K hK => ?_
          go_simp
          refine hK _ _ (by first | exact HB1.out _ | exact HB2.out _ _ | exact HB3.out _ _ _) ?_
          clear K hK
          try simp only [Act.put, List.setIfInBounds_toArray, List.set_cons_zero, List.set_cons_succ]
          refine H_one' (i := 11) rfl (by kernel_rfl) fun K hK => ?_
          go_simp
          refine hK _ _ (by first | exact HB1.out _ | exact HB2.out _ _ | exact HB3.out _ _ _) ?_
          clear K hK
          try simp only [Act.put, List.setIfInBounds_toArray, List.set_cons_zero, List.set_cons_succ]
          refine wpAnyH_done (by kernel_rfl) ?_ _
          go_wp2_with fail
          go_meet
          exact ⟨_, _, _, rfl, rfl, rfl, Lib.hid ⟨(trio w1 (cobj ⟨b0, b1, ⟨b2, b3, b4⟩, b5, b6, ⟨b7, b8, b9⟩⟩) (cobj ⟨c0, c1, ⟨c2, c3, c4⟩, c5, c6, ⟨c7, c8, c9⟩⟩) (cobj ⟨a0, a1, ⟨a2, a3, a4⟩, a5, a6, ⟨a7, a8, a9⟩⟩)).1.drew, (trio w1 (cobj ⟨b0, b1, ⟨b2, b3, b4⟩, b5, b6, ⟨b7, b8, b9⟩⟩) (cobj ⟨c0, c1, ⟨c2, c3, c4⟩, c5, c6, ⟨c7, c8, c9⟩⟩) (cobj ⟨a0, a1, ⟨a2, a3, a4⟩, a5, a6, ⟨a7, a8, a9⟩⟩)).2.2.2, (trio w1 (cobj ⟨b0, b1, ⟨b2, b3, b4⟩, b5, b6, ⟨b7, b8, b9⟩⟩) (cobj ⟨c0, c1, ⟨c2, c3, c4⟩, c5, c6, ⟨c7, c8, c9⟩⟩) (cobj ⟨a0, a1, ⟨a2, a3, a4⟩, a5, a6, ⟨a7, a8, a9⟩⟩)).2.1, (trio w1 (cobj ⟨b0, b1, ⟨b2, b3, b4⟩, b5, b6, ⟨b7, b8, b9⟩⟩) (cobj ⟨c0, c1, ⟨c2, c3, c4⟩, c5, c6, ⟨c7, c8, c9⟩⟩) (cobj ⟨a0, a1, ⟨a2, a3, a4⟩, a5, a6, ⟨a7, a8, a9⟩⟩)).2.2.1, ((trio w1 (cobj ⟨b0, b1, ⟨b2, b3, b4⟩, b5, b6, ⟨b7, b8, b9⟩⟩) (cobj ⟨c0, c1, ⟨c2, c3, c4⟩, c5, c6, ⟨c7, c8, c9⟩⟩) (cobj ⟨a0, a1, ⟨a2, a3, a4⟩, a5, a6, ⟨a7, a8, a9⟩⟩)).1.block _ (Rk.lt_of_block HT.out.2.2)).trans HT.out.2.2⟩⟩
    · go_simp
      refine hK.out _ _ (by first | exact HB1.out _ | exact HB2.out _ _ | exact HB3.out _ _ _) (fun hHeld => ?_)
      clear hK K
      try simp only [Act.put, List.setIfInBounds_toArray, List.set_cons_zero, List.set_cons_succ]
      refine wpAnyH_ready (rs := [6, 7]) (by kernel_rfl) (by simp) ?_
      refine AllReadyH.cons (H_at rfl) (fun K hK => ?_) (AllReadyH.cons (H_at rfl) (fun K hK => ?_) AllReadyH.nil)
      · go_simp
        refine hK.out _ _ (by first | exact HB1.out _ | exact HB2.out _ _ | exact HB3.out _ _ _) (fun hHeld => ?_)
        clear hK K
        try simp only [Act.put, List.setIfInBounds_toArray, List.set_cons_zero, List.set_cons_succ]
        refine wpAnyH_ready (rs := [7]) (by kernel_rfl) (by simp) ?_
        refine AllReadyH.cons (H_at rfl) (fun K hK => ?_) AllReadyH.nil
        · go_simp
          refine hK.out _ _ (by first | exact HB1.out _ | exact HB2.out _ _ | exact HB3.out _ _ _) (fun hHeld => ?_)
          clear hK K
          try simp only [Act.put, List.setIfInBounds_toArray, List.set_cons_zero, List.set_cons_succ]
          refine H_one' (i := 9) rfl (by kernel_rfl) fun K hK => ?_
          go_simp
          refine hK _ _ (by first | exact HB1.out _ | exact HB2.out _ _ | exact HB3.out _ _ _) ?_
          clear K hK
          try simp only [Act.put, List.setIfInBounds_toArray, List.set_cons_zero, List.set_cons_succ]
          refine H_one' (i := 10) rfl (by kernel_rfl) fun K hK => ?_
          go_simp
          refine hK _ _ (by first | exact HB1.out _ | exact HB2.out _ _ | exact HB3.out _ _ _) ?_
          clear K hK
          try simp only [Act.put, List.setIfInBounds_toArray, List.set_cons_zero, List.set_cons_succ]
          refine H_one' (i := 11) rfl (by kernel_rfl) fun K hK => ?_
          go_simp
          refine hK _ _ (by first | exact HB1.out _ | exact HB2.out _ _ | exact HB3.out _ _ _) ?_
          clear K hK
          try simp only [Act.put, List.setIfInBounds_toArray, List.set_cons_zero, List.set_cons_succ]
          refine wpAnyH_done (by kernel_rfl) ?_ _
          go_wp2_with fail
          go_meet
          exact ⟨_, _, _, rfl, rfl, rfl, Lib.hid ⟨(trio w1 (cobj ⟨c0, c1, ⟨c2, c3, c4⟩, c5, c6, ⟨c7, c8, c9⟩⟩) (cobj ⟨a0, a1, ⟨a2, a3, a4⟩, a5, a6, ⟨a7, a8, a9⟩⟩) (cobj ⟨b0, b1, ⟨b2, b3, b4⟩, b5, b6, ⟨b7, b8, b9⟩⟩)).1.drew, (trio w1 (cobj ⟨c0, c1, ⟨c2, c3, c4⟩, c5, c6, ⟨c7, c8, c9⟩⟩) (cobj ⟨a0, a1, ⟨a2, a3, a4⟩, a5, a6, ⟨a7, a8, a9⟩⟩) (cobj ⟨b0, b1, ⟨b2, b3, b4⟩, b5, b6, ⟨b7, b8, b9⟩⟩)).2.2.1, (trio w1 (cobj ⟨c0, c1, ⟨c2, c3, c4⟩, c5, c6, ⟨c7, c8, c9⟩⟩) (cobj ⟨a0, a1, ⟨a2, a3, a4⟩, a5, a6, ⟨a7, a8, a9⟩⟩) (cobj ⟨b0, b1, ⟨b2, b3, b4⟩, b5, b6, ⟨b7, b8, b9⟩⟩)).2.2.2, (trio w1 (cobj ⟨c0, c1, ⟨c2, c3, c4⟩, c5, c6, ⟨c7, c8, c9⟩⟩) (cobj ⟨a0, a1, ⟨a2, a3, a4⟩, a5, a6, ⟨a7, a8, a9⟩⟩) (cobj ⟨b0, b1, ⟨b2, b3, b4⟩, b5, b6, ⟨b7, b8, b9⟩⟩)).2.1, ((trio w1 (cobj ⟨c0, c1, ⟨c2, c3, c4⟩, c5, c6, ⟨c7, c8, c9⟩⟩) (cobj ⟨a0, a1, ⟨a2, a3, a4⟩, a5, a6, ⟨a7, a8, a9⟩⟩) (cobj ⟨b0, b1, ⟨b2, b3, b4⟩, b5, b6, ⟨b7, b8, b9⟩⟩)).1.block _ (Rk.lt_of_block HT.out.2.2)).trans HT.out.2.2⟩⟩
      · go_simp
        refine hK.out _ _ (by first | exact HB1.out _ | exact HB2.out _ _ | exact HB3.out _ _ _) (fun hHeld => ?_)
        clear hK K
        try simp only [Act.put, List.setIfInBounds_toArray, List.set_cons_zero, List.set_cons_succ]
        refine wpAnyH_ready (rs := [6]) (by kernel_rfl) (by simp) ?_
        refine AllReadyH.cons (H_at rfl) (fun K hK => ?_) AllReadyH.nil
        · go_simp
          refine hK.out _ _ (by first | exact HB1.out _ | exact HB2.out _ _ | exact HB3.out _ _ _) (fun hHeld => ?_)
          clear hK K
          try simp only [Act.put, List.setIfInBounds_toArray, List.set_cons_zero, List.set_cons_succ]
          refine H_one' (i := 9) rfl (by kernel_rfl) fun K hK => ?_
          go_simp
          refine hK _ _ (by first | exact HB1.out _ | exact HB2.out _ _ | exact HB3.out _ _ _) ?_
          clear K hK
          try simp only [Act.put, List.setIfInBounds_toArray, List.set_cons_zero, List.set_cons_succ]
          refine H_one' (i := 10) rfl (by kernel_rfl) fun K hK => ?_
          go_simp
          refine hK _ _ (by first | exact HB1.out _ | exact HB2.out _ _ | exact HB3.out _ _ _) ?_
          clear K hK
          try simp only [Act.put, List.setIfInBounds_toArray, List.set_cons_zero, List.set_cons_succ]
          refine H_one' (i := 11) rfl (by kernel_rfl) fun K hK => ?_
          go_simp
          refine hK _ _ (by first | exact HB1.out _ | exact HB2.out _ _ | exact HB3.out _ _ _) ?_
          clear K hK
          try simp only [Act.put, List.setIfInBounds_toArray, List.set_cons_zero, List.set_cons_succ]
          refine wpAnyH_done (by kernel_rfl) ?_ _
          go_wp2_with fail
          go_meet
          exact ⟨_, _, _, rfl, rfl, rfl, Lib.hid ⟨(trio w1 (cobj ⟨c0, c1, ⟨c2, c3, c4⟩, c5, c6, ⟨c7, c8, c9⟩⟩) (cobj ⟨b0, b1, ⟨b2, b3, b4⟩, b5, b6, ⟨b7, b8, b9⟩⟩) (cobj ⟨a0, a1, ⟨a2, a3, a4⟩, a5, a6, ⟨a7, a8, a9⟩⟩)).1.drew, (trio w1 (cobj ⟨c0, c1, ⟨c2, c3, c4⟩, c5, c6, ⟨c7, c8, c9⟩⟩) (cobj ⟨b0, b1, ⟨b2, b3, b4⟩, b5, b6, ⟨b7, b8, b9⟩⟩) (cobj ⟨a0, a1, ⟨a2, a3, a4⟩, a5, a6, ⟨a7, a8, a9⟩⟩)).2.2.2, (trio w1 (cobj ⟨c0, c1, ⟨c2, c3, c4⟩, c5, c6, ⟨c7, c8, c9⟩⟩) (cobj ⟨b0, b1, ⟨b2, b3, b4⟩, b5, b6, ⟨b7, b8, b9⟩⟩) (cobj ⟨a0, a1, ⟨a2, a3, a4⟩, a5, a6, ⟨a7, a8, a9⟩⟩)).2.2.1, (trio w1 (cobj ⟨c0, c1, ⟨c2, c3, c4⟩, c5, c6, ⟨c7, c8, c9⟩⟩) (cobj ⟨b0, b1, ⟨b2, b3, b4⟩, b5, b6, ⟨b7, b8, b9⟩⟩) (cobj ⟨a0, a1, ⟨a2, a3, a4⟩, a5, a6, ⟨a7, a8, a9⟩⟩)).2.1, ((trio w1 (cobj ⟨c0, c1, ⟨c2, c3, c4⟩, c5, c6, ⟨c7, c8, c9⟩⟩) (cobj ⟨b0, b1, ⟨b2, b3, b4⟩, b5, b6, ⟨b7, b8, b9⟩⟩) (cobj ⟨a0, a1, ⟨a2, a3, a4⟩, a5, a6, ⟨a7, a8, a9⟩⟩)).1.block _ (Rk.lt_of_block HT.out.2.2)).trans HT.out.2.2⟩⟩
  case rest =>
    obtain ⟨A, B, C, rfl, rfl, rfl, HTR⟩ := hcut
    obtain ⟨w2, rfl⟩ : ∃ w2 : World, w2 = wc := ⟨_, rfl⟩
    have HS2 : Hid (∀ W, Below w2.heap.size w2 W → W.cell? ⟨A, 0, none⟩ = some (.int .i64 a0) ∧ W.cell? ⟨A, 1, none⟩ = some (.string a1) ∧ W.cell? ⟨A, 2, none⟩ = some (.int .i64 a2) ∧ W.cell? ⟨A, 3, none⟩ = some (.int .i64 a3) ∧ W.cell? ⟨A, 4, none⟩ = some (.string a4) ∧ W.cell? ⟨A, 5, none⟩ = some (.int .i64 a5) ∧ W.cell? ⟨A, 6, none⟩ = some (.int .i64 a6) ∧ W.cell? ⟨A, 7, none⟩ = some (.slice a7 a8 a9) ∧ W.cell? ⟨B, 0, none⟩ = some (.int .i64 b0) ∧ W.cell? ⟨B, 1, none⟩ = some (.string b1) ∧ W.cell? ⟨B, 2, none⟩ = some (.int .i64 b2) ∧ W.cell? ⟨B, 3, none⟩ = some (.int .i64 b3) ∧ W.cell? ⟨B, 4, none⟩ = some (.string b4) ∧ W.cell? ⟨B, 5, none⟩ = some (.int .i64 b5) ∧ W.cell? ⟨B, 6, none⟩ = some (.int .i64 b6) ∧ W.cell? ⟨B, 7, none⟩ = some (.slice b7 b8 b9) ∧ W.cell? ⟨C, 0, none⟩ = some (.int .i64 c0) ∧ W.cell? ⟨C, 1, none⟩ = some (.string c1) ∧ W.cell? ⟨C, 2, none⟩ = some (.int .i64 c2) ∧ W.cell? ⟨C, 3, none⟩ = some (.int .i64 c3) ∧ W.cell? ⟨C, 4, none⟩ = some (.string c4) ∧ W.cell? ⟨C, 5, none⟩ = some (.int .i64 c5) ∧ W.cell? ⟨C, 6, none⟩ = some (.int .i64 c6) ∧ W.cell? ⟨C, 7, none⟩ = some (.slice c7 c8 c9) ∧ W.cell? ⟨w.heap.size + 1, 0, none⟩ = some (.int .i64 pid) ∧ W.cell? ⟨w.heap.size + 1, 1, none⟩ = some (.slice vp vn vc) ∧ W.cell? ⟨w.heap.size + 1, 2, none⟩ = some (.slice fp fn fc)) := Lib.hid (fun W hW => by
      have ht := HTR.out.below hW
      obtain ⟨x0, x1, x2, x3, x4, x5, x6, x7⟩ := cells8 ht.a
      obtain ⟨y0, y1, y2, y3, y4, y5, y6, y7⟩ := cells8 ht.b
      obtain ⟨u0, u1, u2, u3, u4, u5, u6, u7⟩ := cells8 ht.c
      obtain ⟨v0, v1, v2⟩ := cells3 ht.p
      exact ⟨x0, x1, x2, x3, x4, x5, x6, x7, y0, y1, y2, y3, y4, y5, y6, y7, u0, u1, u2, u3, u4, u5, u6, u7, v0, v1, v2⟩)
    have HBW := Lib.hid (HT.out.1.trans (HTR.out.bel.mono HT.out.1.size))
    have HAW := Lib.hid (fun W (hW : Below w2.heap.size w2 W) => (HCA.out.below HBW.out).below hW)
    have HBBW := Lib.hid (fun W (hW : Below w2.heap.size w2 W) => (HCB.out.below HBW.out).below hW)
    have HCCW := Lib.hid (fun W (hW : Below w2.heap.size w2 W) => (HCC.out.below HBW.out).below hW)
    have HFW := Lib.hid (fun W (hW : Below w2.heap.size w2 W) => (HF.out.below HBW.out).below hW)
    obtain ⟨bx, hbx⟩ : ∃ b, b = pass F ca := ⟨_, rfl⟩
    obtain ⟨by', hby⟩ : ∃ b, b = pass F cb := ⟨_, rfl⟩
    obtain ⟨bz, hbz⟩ : ∃ b, b = pass F cc := ⟨_, rfl⟩
    have CA := Lib.hid (fun W (hW : Below w2.heap.size w2 W) => show Calls Tryz.prog 8 #[cv ⟨a0, a1, ⟨a2, a3, a4⟩, a5, a6, ⟨a7, a8, a9⟩⟩, pv ⟨pid, ⟨vp, vn, vc⟩, ⟨fp, fn, fc⟩⟩] W fun e w' => e = .returned (.bool bx) ∧ Below W.heap.size W w' from by
      rw [hbx]; exact pass_any ca F ⟨a0, a1, ⟨a2, a3, a4⟩, a5, a6, ⟨a7, a8, a9⟩⟩ ⟨pid, ⟨vp, vn, vc⟩, ⟨fp, fn, fc⟩⟩ W (HAW.out W hW) HBA.out (HFW.out W hW) HOK.out)
    have CB := Lib.hid (fun W (hW : Below w2.heap.size w2 W) => show Calls Tryz.prog 8 #[cv ⟨b0, b1, ⟨b2, b3, b4⟩, b5, b6, ⟨b7, b8, b9⟩⟩, pv ⟨pid, ⟨vp, vn, vc⟩, ⟨fp, fn, fc⟩⟩] W fun e w' => e = .returned (.bool by') ∧ Below W.heap.size W w' from by
      rw [hby]; exact pass_any cb F ⟨b0, b1, ⟨b2, b3, b4⟩, b5, b6, ⟨b7, b8, b9⟩⟩ ⟨pid, ⟨vp, vn, vc⟩, ⟨fp, fn, fc⟩⟩ W (HBBW.out W hW) HBB.out (HFW.out W hW) HOK.out)
    have CC := Lib.hid (fun W (hW : Below w2.heap.size w2 W) => show Calls Tryz.prog 8 #[cv ⟨c0, c1, ⟨c2, c3, c4⟩, c5, c6, ⟨c7, c8, c9⟩⟩, pv ⟨pid, ⟨vp, vn, vc⟩, ⟨fp, fn, fc⟩⟩] W fun e w' => e = .returned (.bool bz) ∧ Below W.heap.size W w' from by
      rw [hbz]; exact pass_any cc F ⟨c0, c1, ⟨c2, c3, c4⟩, c5, c6, ⟨c7, c8, c9⟩⟩ ⟨pid, ⟨vp, vn, vc⟩, ⟨fp, fn, fc⟩⟩ W (HCCW.out W hW) HBC.out (HFW.out W hW) HOK.out)
    have HX := Lib.hid hbx
    have HY := Lib.hid hby
    have HZ := Lib.hid hbz
    clear hbx hby hbz
    go_upto_region 2 with fail
    refine wp_region_held_drew (S := fun W => Below w2.heap.size w2 W) (by kernel_rfl) (Below.refl _ _).drew (fun hHeld => ?_)
    refine H_take' (i := 0) (v := ?vv7_0) rfl (by kernel_rfl) (by kernel_rfl) (by kernel_rfl) (fun _ _ _ h => h) (Or.inl ⟨by rfl, ?hy7_0⟩) hHeld ?rest7_0
    case hy7_0 =>
      intro wy hSx
      obtain ⟨z0, z1, z2, z3, z4, z5, z6, z7, z8, z9, z10, z11, z12, z13, z14, z15, z16, z17, z18, z19, z20, z21, z22, z23, z24, z25, z26⟩ := HS2.out wy hSx
      go_simp
      all_goals with_reducible rfl
    try simp only [Act.put, List.setIfInBounds_toArray, List.set_cons_zero, List.set_cons_succ]
    refine H_take' (i := 1) (v := ?vv8_1) rfl (by kernel_rfl) (by kernel_rfl) (by kernel_rfl) (fun _ _ _ h => h) (Or.inl ⟨by rfl, ?hy8_1⟩) hHeld ?rest8_1
    case hy8_1 =>
      intro wy hSx
      obtain ⟨z0, z1, z2, z3, z4, z5, z6, z7, z8, z9, z10, z11, z12, z13, z14, z15, z16, z17, z18, z19, z20, z21, z22, z23, z24, z25, z26⟩ := HS2.out wy hSx
      go_simp
      all_goals with_reducible rfl
    try simp only [Act.put, List.setIfInBounds_toArray, List.set_cons_zero, List.set_cons_succ]
    refine H_take' (i := 3) (v := ?vv9_3) rfl (by kernel_rfl) (by kernel_rfl) (by kernel_rfl) (fun _ _ _ h => h) (Or.inl ⟨by rfl, ?hy9_3⟩) hHeld ?rest9_3
    case hy9_3 =>
      intro wy hSx
      obtain ⟨z0, z1, z2, z3, z4, z5, z6, z7, z8, z9, z10, z11, z12, z13, z14, z15, z16, z17, z18, z19, z20, z21, z22, z23, z24, z25, z26⟩ := HS2.out wy hSx
      go_simp
      all_goals with_reducible rfl
    try simp only [Act.put, List.setIfInBounds_toArray, List.set_cons_zero, List.set_cons_succ]
    refine H_take' (i := 4) (v := ?vv10_4) rfl (by kernel_rfl) (by kernel_rfl) (by kernel_rfl) (fun _ _ _ h => h) (Or.inl ⟨by rfl, ?hy10_4⟩) hHeld ?rest10_4
    case hy10_4 =>
      intro wy hSx
      obtain ⟨z0, z1, z2, z3, z4, z5, z6, z7, z8, z9, z10, z11, z12, z13, z14, z15, z16, z17, z18, z19, z20, z21, z22, z23, z24, z25, z26⟩ := HS2.out wy hSx
      go_simp
      all_goals with_reducible rfl
    try simp only [Act.put, List.setIfInBounds_toArray, List.set_cons_zero, List.set_cons_succ]
    refine H_take' (i := 6) (v := ?vv11_6) rfl (by kernel_rfl) (by kernel_rfl) (by kernel_rfl) (fun _ _ _ h => h) (Or.inl ⟨by rfl, ?hy11_6⟩) hHeld ?rest11_6
    case hy11_6 =>
      intro wy hSx
      obtain ⟨z0, z1, z2, z3, z4, z5, z6, z7, z8, z9, z10, z11, z12, z13, z14, z15, z16, z17, z18, z19, z20, z21, z22, z23, z24, z25, z26⟩ := HS2.out wy hSx
      go_simp
      all_goals with_reducible rfl
    try simp only [Act.put, List.setIfInBounds_toArray, List.set_cons_zero, List.set_cons_succ]
    refine H_take' (i := 7) (v := ?vv12_7) rfl (by kernel_rfl) (by kernel_rfl) (by kernel_rfl) (fun _ _ _ h => h) (Or.inl ⟨by rfl, ?hy12_7⟩) hHeld ?rest12_7
    case hy12_7 =>
      intro wy hSx
      obtain ⟨z0, z1, z2, z3, z4, z5, z6, z7, z8, z9, z10, z11, z12, z13, z14, z15, z16, z17, z18, z19, z20, z21, z22, z23, z24, z25, z26⟩ := HS2.out wy hSx
      go_simp
      all_goals with_reducible rfl
    try simp only [Act.put, List.setIfInBounds_toArray, List.set_cons_zero, List.set_cons_succ]
    refine H_one' (i := 2) rfl (by kernel_rfl) fun K hK => ?_
    go_simp
    refine (CA.out _ hHeld).mono ?_
    rintro e y1 ⟨rfl, hb3⟩
    have hHeld := hHeld.trans (hb3.mono hHeld.size)
    clear hb3
    dsimp only
    refine hK _ _ (hHeld) ?_
    clear K hK
    try simp only [Act.put, List.setIfInBounds_toArray, List.set_cons_zero, List.set_cons_succ]
    refine H_one' (i := 5) rfl (by kernel_rfl) fun K hK => ?_
    go_simp
    refine (CB.out _ hHeld).mono ?_
    rintro e y2 ⟨rfl, hb3⟩
    have hHeld := hHeld.trans (hb3.mono hHeld.size)
    clear hb3
    dsimp only
    refine hK _ _ (hHeld) ?_
    clear K hK
    try simp only [Act.put, List.setIfInBounds_toArray, List.set_cons_zero, List.set_cons_succ]
    refine H_one' (i := 8) rfl (by kernel_rfl) fun K hK => ?_
    go_simp
    refine (CC.out _ hHeld).mono ?_
    rintro e y3 ⟨rfl, hb3⟩
    have hHeld := hHeld.trans (hb3.mono hHeld.size)
    clear hb3
    dsimp only
    refine hK _ _ (hHeld) ?_
    clear K hK
    try simp only [Act.put, List.setIfInBounds_toArray, List.set_cons_zero, List.set_cons_succ]
    refine H_one' (i := 9) rfl (by kernel_rfl) fun K hK => ?_
    go_simp
    refine hK _ _ hHeld ?_
    clear K hK
    try simp only [Act.put, List.setIfInBounds_toArray, List.set_cons_zero, List.set_cons_succ]
    refine H_one' (i := 10) rfl (by kernel_rfl) fun K hK => ?_
    go_simp
    refine hK _ _ hHeld ?_
    clear K hK
    try simp only [Act.put, List.setIfInBounds_toArray, List.set_cons_zero, List.set_cons_succ]
    refine H_one' (i := 11) rfl (by kernel_rfl) fun K hK => ?_
    go_simp
    refine hK _ _ hHeld ?_
    clear K hK
    try simp only [Act.put, List.setIfInBounds_toArray, List.set_cons_zero, List.set_cons_succ]
    refine wpAnyH_done (by kernel_rfl) ?_ _
    obtain ⟨y4, rfl⟩ : ∃ y : World, y = y3 := ⟨_, rfl⟩
    have HB4 := Lib.hid hHeld
    clear hHeld
    go_upto_region 3 with fail
    have hg3 : ((!bx) == bx) = false := by cases bx <;> rfl
    refine wp_region_held_drew (S := fun W => Below w2.heap.size w2 W) (by kernel_rfl) HB4.out.drew (fun hHeld => ?_)
    refine H_take' (i := 0) (v := ?vv13_0) rfl (by kernel_rfl) (by kernel_rfl) (by kernel_rfl) (fun _ _ _ h => h) (Or.inl ⟨by rfl, ?hy13_0⟩) hHeld ?rest13_0
    case hy13_0 =>
      intro wy hSx
      obtain ⟨z0, z1, z2, z3, z4, z5, z6, z7, z8, z9, z10, z11, z12, z13, z14, z15, z16, z17, z18, z19, z20, z21, z22, z23, z24, z25, z26⟩ := HS2.out wy hSx
      go_simp
      all_goals with_reducible rfl
    try simp only [Act.put, List.setIfInBounds_toArray, List.set_cons_zero, List.set_cons_succ]
    refine H_take' (i := 2) (v := ?vv14_2) rfl (by kernel_rfl) (by kernel_rfl) (by kernel_rfl) (fun _ _ _ h => h) (Or.inl ⟨by rfl, ?hy14_2⟩) hHeld ?rest14_2
    case hy14_2 =>
      intro wy hSx
      obtain ⟨z0, z1, z2, z3, z4, z5, z6, z7, z8, z9, z10, z11, z12, z13, z14, z15, z16, z17, z18, z19, z20, z21, z22, z23, z24, z25, z26⟩ := HS2.out wy hSx
      go_simp
      all_goals with_reducible rfl
    try simp only [Act.put, List.setIfInBounds_toArray, List.set_cons_zero, List.set_cons_succ]
    refine H_take' (i := 4) (v := ?vv15_4) rfl (by kernel_rfl) (by kernel_rfl) (by kernel_rfl) (fun _ _ _ h => h) (Or.inl ⟨by rfl, ?hy15_4⟩) hHeld ?rest15_4
    case hy15_4 =>
      intro wy hSx
      obtain ⟨z0, z1, z2, z3, z4, z5, z6, z7, z8, z9, z10, z11, z12, z13, z14, z15, z16, z17, z18, z19, z20, z21, z22, z23, z24, z25, z26⟩ := HS2.out wy hSx
      go_simp
      all_goals with_reducible rfl
    try simp only [Act.put, List.setIfInBounds_toArray, List.set_cons_zero, List.set_cons_succ]
    refine H_one' (i := 1) rfl (by kernel_rfl) fun K hK => ?_
    go_simp
    refine (not_any ⟨a0, a1, ⟨a2, a3, a4⟩, a5, a6, ⟨a7, a8, a9⟩⟩ _).mono ?_
    rintro e y5 ⟨g5, rfl, hg5, hb3⟩
    have HN5 := Lib.hid (pass_any (notC ca) F _ ⟨pid, ⟨vp, vn, vc⟩, ⟨fp, fn, fc⟩⟩ y5 (notC_at (HAW.out _ hHeld) hb3 hg5) (big_notC HBA.out) (HFW.out _ (hHeld.trans (hb3.mono hHeld.size))) HOK.out)
    rw [pass_notC, ← HX.out] at HN5
    have hHeld := hHeld.trans (hb3.mono hHeld.size)
    clear hb3 hg5
    dsimp only
    refine hK _ _ (hHeld) ?_
    clear K hK
    try simp only [Act.put, List.setIfInBounds_toArray, List.set_cons_zero, List.set_cons_succ]
    refine H_one' (i := 3) rfl (by kernel_rfl) fun K hK => ?_
    go_simp
    refine (HN5.out).mono ?_
    rintro e y6 ⟨rfl, hb3⟩
    have hHeld := hHeld.trans (hb3.mono hHeld.size)
    clear hb3 HN5
    dsimp only
    refine hK _ _ (hHeld) ?_
    clear K hK
    try simp only [Act.put, List.setIfInBounds_toArray, List.set_cons_zero, List.set_cons_succ]
    refine H_one' (i := 5) rfl (by kernel_rfl) fun K hK => ?_
    go_simp
    refine hK _ _ hHeld ?_
    clear K hK
    try simp only [Act.put, List.setIfInBounds_toArray, List.set_cons_zero, List.set_cons_succ]
    refine wpAnyH_done (by kernel_rfl) ?_ _
    obtain ⟨y8, rfl⟩ : ∃ y : World, y = y6 := ⟨_, rfl⟩
    have HB8 := Lib.hid hHeld
    clear hHeld hg3
    go_upto_region 5 with fail
    have HTRW := Lib.hid (fun W (hW : Below w2.heap.size w2 W) => HTR.out.below hW)
    go_cut [11, 12] (fun u11 u12 wx => ∃ A4 A5 g3 g8, u11 = .pointer (some ⟨A4, 0, none⟩) ∧ u12 = .pointer (some ⟨A5, 0, none⟩) ∧ Hid (Below w2.heap.size w2 wx ∧ wx.heap[g3]? = some (rowobj ⟨a0, a1, ⟨a2, a3, a4⟩, a5, a6, ⟨a7, a8, a9⟩⟩ ⟨b0, b1, ⟨b2, b3, b4⟩, b5, b6, ⟨b7, b8, b9⟩⟩ ⟨c0, c1, ⟨c2, c3, c4⟩, c5, c6, ⟨c7, c8, c9⟩⟩) ∧ wx.heap[g8]? = some (rowobj ⟨a0, a1, ⟨a2, a3, a4⟩, a5, a6, ⟨a7, a8, a9⟩⟩ ⟨b0, b1, ⟨b2, b3, b4⟩, b5, b6, ⟨b7, b8, b9⟩⟩ ⟨c0, c1, ⟨c2, c3, c4⟩, c5, c6, ⟨c7, c8, c9⟩⟩) ∧ wx.heap[A4]? = some (cobj (rK 7 g3)) ∧ wx.heap[A5]? = some (cobj (rK 8 g8))))
    case first =>
      refine wp_region_held_drew (S := fun W => Below w2.heap.size w2 W) (by kernel_rfl) HB8.out.drew (fun hHeld => ?_)
      refine H_take' (i := 0) (v := ?vv16_0) rfl (by kernel_rfl) (by kernel_rfl) (by kernel_rfl) (fun _ _ _ h => h) (Or.inl ⟨by rfl, ?hy16_0⟩) hHeld ?rest16_0
      case hy16_0 =>
        intro wy hSx
        obtain ⟨z0, z1, z2, z3, z4, z5, z6, z7, z8, z9, z10, z11, z12, z13, z14, z15, z16, z17, z18, z19, z20, z21, z22, z23, z24, z25, z26⟩ := HS2.out wy hSx
        go_simp
        all_goals with_reducible rfl
      try simp only [Act.put, List.setIfInBounds_toArray, List.set_cons_zero, List.set_cons_succ]
      refine H_take' (i := 1) (v := ?vv17_1) rfl (by kernel_rfl) (by kernel_rfl) (by kernel_rfl) (fun _ _ _ h => h) (Or.inl ⟨by rfl, ?hy17_1⟩) hHeld ?rest17_1
      case hy17_1 =>
        intro wy hSx
        obtain ⟨z0, z1, z2, z3, z4, z5, z6, z7, z8, z9, z10, z11, z12, z13, z14, z15, z16, z17, z18, z19, z20, z21, z22, z23, z24, z25, z26⟩ := HS2.out wy hSx
        go_simp
        all_goals with_reducible rfl
      try simp only [Act.put, List.setIfInBounds_toArray, List.set_cons_zero, List.set_cons_succ]
      refine H_take' (i := 2) (v := ?vv18_2) rfl (by kernel_rfl) (by kernel_rfl) (by kernel_rfl) (fun _ _ _ h => h) (Or.inl ⟨by rfl, ?hy18_2⟩) hHeld ?rest18_2
      case hy18_2 =>
        intro wy hSx
        obtain ⟨z0, z1, z2, z3, z4, z5, z6, z7, z8, z9, z10, z11, z12, z13, z14, z15, z16, z17, z18, z19, z20, z21, z22, z23, z24, z25, z26⟩ := HS2.out wy hSx
        go_simp
        all_goals with_reducible rfl
      try simp only [Act.put, List.setIfInBounds_toArray, List.set_cons_zero, List.set_cons_succ]
      refine H_take' (i := 5) (v := ?vv19_5) rfl (by kernel_rfl) (by kernel_rfl) (by kernel_rfl) (fun _ _ _ h => h) (Or.inl ⟨by rfl, ?hy19_5⟩) hHeld ?rest19_5
      case hy19_5 =>
        intro wy hSx
        obtain ⟨z0, z1, z2, z3, z4, z5, z6, z7, z8, z9, z10, z11, z12, z13, z14, z15, z16, z17, z18, z19, z20, z21, z22, z23, z24, z25, z26⟩ := HS2.out wy hSx
        go_simp
        all_goals with_reducible rfl
      try simp only [Act.put, List.setIfInBounds_toArray, List.set_cons_zero, List.set_cons_succ]
      refine H_take' (i := 6) (v := ?vv20_6) rfl (by kernel_rfl) (by kernel_rfl) (by kernel_rfl) (fun _ _ _ h => h) (Or.inl ⟨by rfl, ?hy20_6⟩) hHeld ?rest20_6
      case hy20_6 =>
        intro wy hSx
        obtain ⟨z0, z1, z2, z3, z4, z5, z6, z7, z8, z9, z10, z11, z12, z13, z14, z15, z16, z17, z18, z19, z20, z21, z22, z23, z24, z25, z26⟩ := HS2.out wy hSx
        go_simp
        all_goals with_reducible rfl
      try simp only [Act.put, List.setIfInBounds_toArray, List.set_cons_zero, List.set_cons_succ]
      refine H_take' (i := 7) (v := ?vv21_7) rfl (by kernel_rfl) (by kernel_rfl) (by kernel_rfl) (fun _ _ _ h => h) (Or.inl ⟨by rfl, ?hy21_7⟩) hHeld ?rest21_7
      case hy21_7 =>
        intro wy hSx
        obtain ⟨z0, z1, z2, z3, z4, z5, z6, z7, z8, z9, z10, z11, z12, z13, z14, z15, z16, z17, z18, z19, z20, z21, z22, z23, z24, z25, z26⟩ := HS2.out wy hSx
        go_simp
        all_goals with_reducible rfl
      try simp only [Act.put, List.setIfInBounds_toArray, List.set_cons_zero, List.set_cons_succ]
      refine H_start (Inv := INV w2 ⟨a0, a1, ⟨a2, a3, a4⟩, a5, a6, ⟨a7, a8, a9⟩⟩ ⟨b0, b1, ⟨b2, b3, b4⟩, b5, b6, ⟨b7, b8, b9⟩⟩ ⟨c0, c1, ⟨c2, c3, c4⟩, c5, c6, ⟨c7, c8, c9⟩⟩) ?init5 (H_inv ?hS5 ?step5 ?fin5 ?more5)
      case init5 =>
        refine ⟨false, false, false, false, false, false, false, false, u37, u38, u42, u43, undef, undef, 0, 0, 0, 0, rfl, rfl, ?_, hHeld, ?_⟩
        · simp only [put6, List.setIfInBounds_toArray, List.set_cons_zero, List.set_cons_succ]
        · simp
      case hS5 =>
        rintro n l x y ⟨b3, b4, b8, b9, b10, b11, b12, b13, x37, x38, x42, x43, x11, x12, g3, g8, A4, A5, _, _, _, hb, _⟩
        exact hb
      case step5 =>
        rintro n l x y i ⟨b3, b4, b8, b9, b10, b11, b12, b13, x37, x38, x42, x43, x11, x12, g3, g8, A4, A5, rfl, hn, rfl, hbl, k3, k4, k8, k9, k10, k11, kne, k12, k13⟩ hi
        obtain ⟨hun, oj, hoj, hall⟩ := mem_ready.1 hi
        have hi14 : i < 14 := (Array.getElem?_eq_some_iff.1 hoj).1
        clear HS2 CA CB CC
        have hc : i = 0 ∨ i = 1 ∨ i = 2 ∨ i = 3 ∨ i = 4 ∨ i = 5 ∨ i = 6 ∨ i = 7 ∨ i = 8 ∨ i = 9 ∨ i = 10 ∨ i = 11 ∨ i = 12 ∨ i = 13 := by omega
        rcases hc with rfl | rfl | rfl | rfl | rfl | rfl | rfl | rfl | rfl | rfl | rfl | rfl | rfl | rfl
        · simp at hun
        · simp at hun
        · simp at hun
        · obtain rfl : b3 = false := by simpa using hun
          have nb12 : b12 = false := by
            cases h : b12 with
            | false => rfl
            | true => have := (k4 (k9 (k12 h).1).2.1).1; cases this
          have nb13 : b13 = false := by
            cases h : b13 with
            | false => rfl
            | true => rw [nb12] at k13; exact absurd (k13 h) (by simp)
          subst nb12 nb13
          have mv : ∀ (g : Nat) (o O : Obj), y.heap[g]? = some o → (y.alloc O).heap[g]? = some o := fun g o O h => (Rk.heap_old _ _ (Rk.lt_of_block h)).trans h
          have mvb : ∀ O : Obj, Below w2.heap.size w2 (y.alloc O) := fun O => hbl.alloc hbl.size O
          refine ⟨_, H_at rfl, fun K hK => ?_⟩
          simp only [put6, List.setIfInBounds_toArray, List.set_cons_zero, List.set_cons_succ]
          go_simp
          refine hK _ _ ⟨true, b4, b8, b9, b10, b11, false, false, .slice (some ⟨y.heap.size, 0, none⟩) 3 3, x38, x42, x43, x11, x12, y.heap.size, g8, A4, A5, rfl, by simp [cnt] at hn ⊢; omega, by first | (simp only [put6, Act.put, List.setIfInBounds_toArray, List.set_cons_zero, List.set_cons_succ]; done) | rfl, mvb _, fun _ => ⟨rfl, Rk.heap_last y _⟩, fun h => absurd (k4 h).1 (by simp), fun h => ⟨(k8 h).1, mv _ _ _ (k8 h).2⟩, fun h => absurd (k4 (k9 h).2.1).1 (by simp), fun h => ⟨(k10 h).1, (k10 h).2.1, mv _ _ _ (k10 h).2.2⟩, fun h => ⟨(k11 h).1, (k11 h).2.1, mv _ _ _ (k11 h).2.2⟩, kne, fun h => absurd h (by simp), fun h => absurd h (by simp)⟩
        · obtain rfl : b4 = false := by simpa using hun
          have db3 : b3 = true := by have := dep_of (i := 4) rfl hi (e := ⟨3, .data⟩) (by simp) rfl; simpa using this
          subst db3
          have nb12 : b12 = false := by
            cases h : b12 with
            | false => rfl
            | true => have := (k9 (k12 h).1).2.1; cases this
          have nb13 : b13 = false := by
            cases h : b13 with
            | false => rfl
            | true => rw [nb12] at k13; exact absurd (k13 h) (by simp)
          subst nb12 nb13
          have mv : ∀ (g : Nat) (o O : Obj), y.heap[g]? = some o → (y.alloc O).heap[g]? = some o := fun g o O h => (Rk.heap_old _ _ (Rk.lt_of_block h)).trans h
          have mvb : ∀ O : Obj, Below w2.heap.size w2 (y.alloc O) := fun O => hbl.alloc hbl.size O
          obtain ⟨rfl, hrow⟩ := k3 rfl
          refine ⟨_, H_at rfl, fun K hK => ?_⟩
          simp only [put6, List.setIfInBounds_toArray, List.set_cons_zero, List.set_cons_succ]
          go_simp
          refine (of_any 7 _ 3 3 y).mono ?_
          rintro e y' ⟨rfl, rfl⟩
          dsimp only
          refine hK _ _ ⟨true, true, b8, b9, b10, b11, false, false, .slice (some ⟨g3, 0, none⟩) 3 3, cv (rK 7 g3), x42, x43, x11, x12, g3, g8, A4, A5, rfl, by simp [cnt] at hn ⊢; omega, by first | (simp only [put6, Act.put, List.setIfInBounds_toArray, List.set_cons_zero, List.set_cons_succ]; done) | rfl, mvb _, fun _ => ⟨rfl, mv _ _ _ hrow⟩, fun _ => ⟨rfl, rfl⟩, fun h => ⟨(k8 h).1, mv _ _ _ (k8 h).2⟩, fun h => absurd (k9 h).2.1 (by simp), fun h => ⟨(k10 h).1, (k10 h).2.1, mv _ _ _ (k10 h).2.2⟩, fun h => ⟨(k11 h).1, (k11 h).2.1, mv _ _ _ (k11 h).2.2⟩, kne, fun h => absurd h (by simp), fun h => absurd h (by simp)⟩
        · simp at hun
        · simp at hun
        · simp at hun
        · obtain rfl : b8 = false := by simpa using hun
          have nb12 : b12 = false := by
            cases h : b12 with
            | false => rfl
            | true => have := (k9 (k12 h).1).1; cases this
          have nb13 : b13 = false := by
            cases h : b13 with
            | false => rfl
            | true => rw [nb12] at k13; exact absurd (k13 h) (by simp)
          subst nb12 nb13
          have mv : ∀ (g : Nat) (o O : Obj), y.heap[g]? = some o → (y.alloc O).heap[g]? = some o := fun g o O h => (Rk.heap_old _ _ (Rk.lt_of_block h)).trans h
          have mvb : ∀ O : Obj, Below w2.heap.size w2 (y.alloc O) := fun O => hbl.alloc hbl.size O
          refine ⟨_, H_at rfl, fun K hK => ?_⟩
          simp only [put6, List.setIfInBounds_toArray, List.set_cons_zero, List.set_cons_succ]
          go_simp
          refine hK _ _ ⟨b3, b4, true, b9, b10, b11, false, false, x37, x38, .slice (some ⟨y.heap.size, 0, none⟩) 3 3, x43, x11, x12, g3, y.heap.size, A4, A5, rfl, by simp [cnt] at hn ⊢; omega, by first | (simp only [put6, Act.put, List.setIfInBounds_toArray, List.set_cons_zero, List.set_cons_succ]; done) | rfl, mvb _, fun h => ⟨(k3 h).1, mv _ _ _ (k3 h).2⟩, k4, fun _ => ⟨rfl, Rk.heap_last y _⟩, fun h => absurd (k9 h).1 (by simp), fun h => ⟨(k10 h).1, (k10 h).2.1, mv _ _ _ (k10 h).2.2⟩, fun h => ⟨(k11 h).1, (k11 h).2.1, mv _ _ _ (k11 h).2.2⟩, kne, fun h => absurd h (by simp), fun h => absurd h (by simp)⟩
        · obtain rfl : b9 = false := by simpa using hun
          have db8 : b8 = true := by have := dep_of (i := 9) rfl hi (e := ⟨8, .data⟩) (by simp) rfl; simpa using this
          have db4 : b4 = true := by have := dep_of (i := 9) rfl hi (e := ⟨4, .chain⟩) (by simp) rfl; simpa using this
          subst db8
          have q4 := (k4 db4).2
          obtain ⟨rfl, q3b⟩ := k3 (k4 db4).1
          subst q4
          have nb12 : b12 = false := by
            cases h : b12 with
            | false => rfl
            | true => have := (k12 h).1; cases this
          have nb13 : b13 = false := by
            cases h : b13 with
            | false => rfl
            | true => rw [nb12] at k13; exact absurd (k13 h) (by simp)
          subst nb12 nb13
          have mv : ∀ (g : Nat) (o O : Obj), y.heap[g]? = some o → (y.alloc O).heap[g]? = some o := fun g o O h => (Rk.heap_old _ _ (Rk.lt_of_block h)).trans h
          have mvb : ∀ O : Obj, Below w2.heap.size w2 (y.alloc O) := fun O => hbl.alloc hbl.size O
          obtain ⟨rfl, hrow⟩ := k8 rfl
          refine ⟨_, H_at rfl, fun K hK => ?_⟩
          simp only [put6, List.setIfInBounds_toArray, List.set_cons_zero, List.set_cons_succ]
          go_simp
          refine (of_any 8 _ 3 3 y).mono ?_
          rintro e y' ⟨rfl, rfl⟩
          dsimp only
          refine hK _ _ ⟨b3, b4, true, true, b10, b11, false, false, .slice (some ⟨g3, 0, none⟩) 3 3, cv (rK 7 g3), .slice (some ⟨g8, 0, none⟩) 3 3, cv (rK 8 g8), x11, x12, g3, g8, A4, A5, rfl, by simp [cnt] at hn ⊢; omega, by first | (simp only [put6, Act.put, List.setIfInBounds_toArray, List.set_cons_zero, List.set_cons_succ]; done) | rfl, mvb _, fun _ => ⟨rfl, mv _ _ _ q3b⟩, fun h => ⟨(k4 h).1, rfl⟩, fun _ => ⟨rfl, mv _ _ _ hrow⟩, fun _ => ⟨rfl, db4, rfl⟩, fun h => ⟨(k10 h).1, (k10 h).2.1, mv _ _ _ (k10 h).2.2⟩, fun h => ⟨(k11 h).1, (k11 h).2.1, mv _ _ _ (k11 h).2.2⟩, kne, fun h => absurd h (by simp), fun h => absurd h (by simp)⟩
        · obtain rfl : b10 = false := by simpa using hun
          have nb12 : b12 = false := by
            cases h : b12 with
            | false => rfl
            | true => have := (k12 h).2.1; cases this
          have nb13 : b13 = false := by
            cases h : b13 with
            | false => rfl
            | true => rw [nb12] at k13; exact absurd (k13 h) (by simp)
          subst nb12 nb13
          have mv : ∀ (g : Nat) (o O : Obj), y.heap[g]? = some o → (y.alloc O).heap[g]? = some o := fun g o O h => (Rk.heap_old _ _ (Rk.lt_of_block h)).trans h
          have mvb : ∀ O : Obj, Below w2.heap.size w2 (y.alloc O) := fun O => hbl.alloc hbl.size O
          refine ⟨_, H_at rfl, fun K hK => ?_⟩
          simp only [put6, List.setIfInBounds_toArray, List.set_cons_zero, List.set_cons_succ]
          go_simp
          refine hK _ _ ⟨b3, b4, b8, b9, true, b11, false, false, x37, x38, x42, x43, .pointer (some ⟨y.heap.size, 0, none⟩), x12, g3, g8, y.heap.size, A5, rfl, by simp [cnt] at hn ⊢; omega, by first | (simp only [put6, Act.put, List.setIfInBounds_toArray, List.set_cons_zero, List.set_cons_succ]; done) | rfl, mvb _, fun h => ⟨(k3 h).1, mv _ _ _ (k3 h).2⟩, k4, fun h => ⟨(k8 h).1, mv _ _ _ (k8 h).2⟩, k9, fun _ => ⟨rfl, hbl.size, Rk.heap_last y _⟩, fun h => ⟨(k11 h).1, (k11 h).2.1, mv _ _ _ (k11 h).2.2⟩, fun _ h e => by have := Rk.lt_of_block (k11 h).2.2; omega, fun h => absurd h (by simp), fun h => absurd h (by simp)⟩
        · obtain rfl : b11 = false := by simpa using hun
          have nb12 : b12 = false := by
            cases h : b12 with
            | false => rfl
            | true => have := (k12 h).2.2; cases this
          have nb13 : b13 = false := by
            cases h : b13 with
            | false => rfl
            | true => rw [nb12] at k13; exact absurd (k13 h) (by simp)
          subst nb12 nb13
          have mv : ∀ (g : Nat) (o O : Obj), y.heap[g]? = some o → (y.alloc O).heap[g]? = some o := fun g o O h => (Rk.heap_old _ _ (Rk.lt_of_block h)).trans h
          have mvb : ∀ O : Obj, Below w2.heap.size w2 (y.alloc O) := fun O => hbl.alloc hbl.size O
          refine ⟨_, H_at rfl, fun K hK => ?_⟩
          simp only [put6, List.setIfInBounds_toArray, List.set_cons_zero, List.set_cons_succ]
          go_simp
          refine hK _ _ ⟨b3, b4, b8, b9, b10, true, false, false, x37, x38, x42, x43, x11, .pointer (some ⟨y.heap.size, 0, none⟩), g3, g8, A4, y.heap.size, rfl, by simp [cnt] at hn ⊢; omega, by first | (simp only [put6, Act.put, List.setIfInBounds_toArray, List.set_cons_zero, List.set_cons_succ]; done) | rfl, mvb _, fun h => ⟨(k3 h).1, mv _ _ _ (k3 h).2⟩, k4, fun h => ⟨(k8 h).1, mv _ _ _ (k8 h).2⟩, k9, fun h => ⟨(k10 h).1, (k10 h).2.1, mv _ _ _ (k10 h).2.2⟩, fun _ => ⟨rfl, hbl.size, Rk.heap_last y _⟩, fun h _ e => by have := Rk.lt_of_block (k10 h).2.2; omega, fun h => absurd h (by simp), fun h => absurd h (by simp)⟩
        · obtain rfl : b12 = false := by simpa using hun
          have db10 : b10 = true := by have := dep_of (i := 12) rfl hi (e := ⟨10, .data⟩) (by simp) rfl; simpa using this
          have db4 : b4 = true := by have := dep_of (i := 12) rfl hi (e := ⟨4, .data⟩) (by simp) rfl; simpa using this
          have db9 : b9 = true := by have := dep_of (i := 12) rfl hi (e := ⟨9, .chain⟩) (by simp) rfl; simpa using this
          have db11 : b11 = true := by have := dep_of (i := 12) rfl hi (e := ⟨11, .phase⟩) (by simp) rfl; simpa using this
          have nb13 : b13 = false := by
            cases h : b13 with
            | false => rfl
            | true => exact absurd (k13 h) (by simp)
          subst nb13
          obtain ⟨rfl, hA4, hz4⟩ := k10 db10
          obtain ⟨rfl, hA5, hz5⟩ := k11 db11
          have q3 := k3 (k4 db4).1
          have q8 := k8 (k9 db9).1
          have q4 := (k4 db4).2
          have q9 := (k9 db9).2.2
          have hne := kne db10 db11
          simp only [Bool.false_eq_true, if_false] at hz4 hz5
          obtain ⟨W, eW, w1', w2', w3', w4'⟩ := set8 hz4 (.int .i64 7) (.string ⟨#[]⟩) (.int .i64 0) (.int .i64 0) (.string ⟨#[]⟩) (.int .i64 0) (.int .i64 0) (.slice (some ⟨g3, 0, none⟩) 3 3)
          obtain ⟨f0, f1, f2, f3, f4, f5, f6, f7⟩ := frozen8 hz4
          obtain ⟨e0, e1, e2, e3, e4, e5, e6, e7⟩ := cells8 hz4
          obtain ⟨rfl, q3b⟩ := q3
          obtain ⟨rfl, q8b⟩ := q8
          subst q4 q9
          have n3 := row_ne (r := ⟨0, ⟨#[]⟩, v0, 0, 0, nil0⟩) q3b hz4
          have n8 := row_ne (r := ⟨0, ⟨#[]⟩, v0, 0, 0, nil0⟩) q8b hz4
          refine ⟨_, H_at rfl, fun K hK => ?_⟩
          simp only [put6, List.setIfInBounds_toArray, List.set_cons_zero, List.set_cons_succ]
          go_simp
          rw [← eW]
          refine hK _ _ ⟨b3, b4, b8, b9, b10, b11, true, false, .slice (some ⟨g3, 0, none⟩) 3 3, cv (rK 7 g3), .slice (some ⟨g8, 0, none⟩) 3 3, cv (rK 8 g8), .pointer (some ⟨A4, 0, none⟩), .pointer (some ⟨A5, 0, none⟩), g3, g8, A4, A5, rfl, by simp [cnt] at hn ⊢; omega, by first | (simp only [put6, Act.put, List.setIfInBounds_toArray, List.set_cons_zero, List.set_cons_succ]; done) | rfl, w4' _ _ hbl hA4, fun _ => ⟨rfl, (w3' _ (Ne.symm n3)).trans q3b⟩, fun h => ⟨(k4 h).1, rfl⟩, fun _ => ⟨rfl, (w3' _ (Ne.symm n8)).trans q8b⟩, fun h => ⟨(k9 h).1, (k9 h).2.1, rfl⟩, fun _ => ⟨rfl, hA4, w1'⟩, fun _ => ⟨rfl, hA5, (w3' _ (Ne.symm hne)).trans hz5⟩, kne, fun _ => ⟨db9, db10, db11⟩, fun _ => rfl⟩
        · obtain rfl : b13 = false := by simpa using hun
          have db12 : b12 = true := by have := dep_of (i := 13) rfl hi (e := ⟨12, .chain⟩) (by simp) rfl; simpa using this
          subst db12
          have db9 := (k12 rfl).1
          have db10 := (k12 rfl).2.1
          have db11 := (k12 rfl).2.2
          have db4 := (k9 db9).2.1
          obtain ⟨rfl, hA4, hz4⟩ := k10 db10
          obtain ⟨rfl, hA5, hz5⟩ := k11 db11
          have q3 := k3 (k4 db4).1
          have q8 := k8 (k9 db9).1
          have q4 := (k4 db4).2
          have q9 := (k9 db9).2.2
          have hne := kne db10 db11
          simp only [Bool.false_eq_true, if_false, if_true] at hz4 hz5
          obtain ⟨W, eW, w1', w2', w3', w4'⟩ := set8 hz5 (.int .i64 8) (.string ⟨#[]⟩) (.int .i64 0) (.int .i64 0) (.string ⟨#[]⟩) (.int .i64 0) (.int .i64 0) (.slice (some ⟨g8, 0, none⟩) 3 3)
          obtain ⟨f0, f1, f2, f3, f4, f5, f6, f7⟩ := frozen8 hz5
          obtain ⟨e0, e1, e2, e3, e4, e5, e6, e7⟩ := cells8 hz5
          obtain ⟨rfl, q3b⟩ := q3
          obtain ⟨rfl, q8b⟩ := q8
          subst q4 q9
          have n3 := row_ne (r := ⟨0, ⟨#[]⟩, v0, 0, 0, nil0⟩) q3b hz5
          have n8 := row_ne (r := ⟨0, ⟨#[]⟩, v0, 0, 0, nil0⟩) q8b hz5
          refine ⟨_, H_at rfl, fun K hK => ?_⟩
          simp only [put6, List.setIfInBounds_toArray, List.set_cons_zero, List.set_cons_succ]
          go_simp
          rw [← eW]
          refine hK _ _ ⟨b3, b4, b8, b9, b10, b11, true, true, .slice (some ⟨g3, 0, none⟩) 3 3, cv (rK 7 g3), .slice (some ⟨g8, 0, none⟩) 3 3, cv (rK 8 g8), .pointer (some ⟨A4, 0, none⟩), .pointer (some ⟨A5, 0, none⟩), g3, g8, A4, A5, rfl, by simp [cnt] at hn ⊢; omega, by first | (simp only [put6, Act.put, List.setIfInBounds_toArray, List.set_cons_zero, List.set_cons_succ]; done) | rfl, w4' _ _ hbl hA5, fun _ => ⟨rfl, (w3' _ (Ne.symm n3)).trans q3b⟩, fun h => ⟨(k4 h).1, rfl⟩, fun _ => ⟨rfl, (w3' _ (Ne.symm n8)).trans q8b⟩, fun h => ⟨(k9 h).1, (k9 h).2.1, rfl⟩, fun _ => ⟨rfl, hA4, (w3' _ hne).trans hz4⟩, fun _ => ⟨rfl, hA5, w1'⟩, kne, fun _ => ⟨db9, db10, db11⟩, fun _ => rfl⟩
      case fin5 =>
        rintro l x y ⟨b3, b4, b8, b9, b10, b11, b12, b13, x37, x38, x42, x43, x11, x12, g3, g8, A4, A5, rfl, hn, rfl, hbl, k3, k4, k8, k9, k10, k11, kne, k12, k13⟩
        have cb3 := cnt_le b3
        have cb4 := cnt_le b4
        have cb8 := cnt_le b8
        have cb9 := cnt_le b9
        have cb10 := cnt_le b10
        have cb11 := cnt_le b11
        have cb12 := cnt_le b12
        have cb13 := cnt_le b13
        have eb3 := cnt_one (show cnt b3 = 1 by omega)
        have eb4 := cnt_one (show cnt b4 = 1 by omega)
        have eb8 := cnt_one (show cnt b8 = 1 by omega)
        have eb9 := cnt_one (show cnt b9 = 1 by omega)
        have eb10 := cnt_one (show cnt b10 = 1 by omega)
        have eb11 := cnt_one (show cnt b11 = 1 by omega)
        have eb12 := cnt_one (show cnt b12 = 1 by omega)
        have eb13 := cnt_one (show cnt b13 = 1 by omega)
        subst eb3 eb4 eb8 eb9 eb10 eb11 eb12 eb13
        obtain ⟨rfl, q3⟩ := k3 rfl
        obtain ⟨rfl, q8⟩ := k8 rfl
        obtain ⟨_, rfl⟩ := k4 rfl
        obtain ⟨_, _, rfl⟩ := k9 rfl
        obtain ⟨rfl, _, q4⟩ := k10 rfl
        obtain ⟨rfl, _, q5⟩ := k11 rfl
        simp only [if_true] at q4 q5
        have HQ := Lib.hid (show Below w2.heap.size w2 y ∧ y.heap[g3]? = some (rowobj ⟨a0, a1, ⟨a2, a3, a4⟩, a5, a6, ⟨a7, a8, a9⟩⟩ ⟨b0, b1, ⟨b2, b3, b4⟩, b5, b6, ⟨b7, b8, b9⟩⟩ ⟨c0, c1, ⟨c2, c3, c4⟩, c5, c6, ⟨c7, c8, c9⟩⟩) ∧ y.heap[g8]? = some (rowobj ⟨a0, a1, ⟨a2, a3, a4⟩, a5, a6, ⟨a7, a8, a9⟩⟩ ⟨b0, b1, ⟨b2, b3, b4⟩, b5, b6, ⟨b7, b8, b9⟩⟩ ⟨c0, c1, ⟨c2, c3, c4⟩, c5, c6, ⟨c7, c8, c9⟩⟩) ∧ y.heap[A4]? = some (cobj (rK 7 g3)) ∧ y.heap[A5]? = some (cobj (rK 8 g8)) from ⟨hbl, q3, q8, q4, q5⟩)
        clear hn k3 k4 k8 k9 k10 k11 kne k12 k13 hbl q3 q8 q4 q5 cb3 cb4 cb8 cb9 cb10 cb11 cb12 cb13
        refine ⟨by kernel_rfl, ?_⟩
        simp only [put6, List.setIfInBounds_toArray, List.set_cons_zero, List.set_cons_succ]
        go_wp2_with fail
        go_meet
        exact ⟨_, _, _, _, rfl, rfl, HQ⟩
      case more5 =>
        rintro n l x y ⟨b3, b4, b8, b9, b10, b11, b12, b13, x37, x38, x42, x43, x11, x12, g3, g8, A4, A5, rfl, hn, rfl, hbl, k3, k4, k8, k9, k10, k11, kne, k12, k13⟩ h0
        have mb3 : b3 = true := by
          cases h : b3 with
          | true => rfl
          | false =>
            subst h
            exact (more_at h0 (i := 3) rfl rfl (by simp [Region.binds])).elim
        subst mb3
        have mb4 : b4 = true := by
          cases h : b4 with
          | true => rfl
          | false =>
            subst h
            exact (more_at h0 (i := 4) rfl rfl (by simp [Region.binds])).elim
        subst mb4
        have mb8 : b8 = true := by
          cases h : b8 with
          | true => rfl
          | false =>
            subst h
            exact (more_at h0 (i := 8) rfl rfl (by simp [Region.binds])).elim
        subst mb8
        have mb9 : b9 = true := by
          cases h : b9 with
          | true => rfl
          | false =>
            subst h
            exact (more_at h0 (i := 9) rfl rfl (by simp [Region.binds])).elim
        subst mb9
        have mb10 : b10 = true := by
          cases h : b10 with
          | true => rfl
          | false =>
            subst h
            exact (more_at h0 (i := 10) rfl rfl (by simp [Region.binds])).elim
        subst mb10
        have mb11 : b11 = true := by
          cases h : b11 with
          | true => rfl
          | false =>
            subst h
            exact (more_at h0 (i := 11) rfl rfl (by simp [Region.binds])).elim
        subst mb11
        have mb12 : b12 = true := by
          cases h : b12 with
          | true => rfl
          | false =>
            subst h
            exact (more_at h0 (i := 12) rfl rfl (by simp [Region.binds])).elim
        subst mb12
        have mb13 : b13 = true := by
          cases h : b13 with
          | true => rfl
          | false =>
            subst h
            exact (more_at h0 (i := 13) rfl rfl (by simp [Region.binds])).elim
        subst mb13
        simp [cnt] at hn
    case rest =>
      obtain ⟨A4, A5, g3, g8, rfl, rfl, HQ⟩ := hcut
      obtain ⟨w9, rfl⟩ : ∃ w9 : World, w9 = wc := ⟨_, rfl⟩
      have HB9 := Lib.hid HQ.out.1
      have HS9 : Hid (∀ W, Below w9.heap.size w9 W → W.cell? ⟨A, 0, none⟩ = some (.int .i64 a0) ∧ W.cell? ⟨A, 1, none⟩ = some (.string a1) ∧ W.cell? ⟨A, 2, none⟩ = some (.int .i64 a2) ∧ W.cell? ⟨A, 3, none⟩ = some (.int .i64 a3) ∧ W.cell? ⟨A, 4, none⟩ = some (.string a4) ∧ W.cell? ⟨A, 5, none⟩ = some (.int .i64 a5) ∧ W.cell? ⟨A, 6, none⟩ = some (.int .i64 a6) ∧ W.cell? ⟨A, 7, none⟩ = some (.slice a7 a8 a9) ∧ W.cell? ⟨B, 0, none⟩ = some (.int .i64 b0) ∧ W.cell? ⟨B, 1, none⟩ = some (.string b1) ∧ W.cell? ⟨B, 2, none⟩ = some (.int .i64 b2) ∧ W.cell? ⟨B, 3, none⟩ = some (.int .i64 b3) ∧ W.cell? ⟨B, 4, none⟩ = some (.string b4) ∧ W.cell? ⟨B, 5, none⟩ = some (.int .i64 b5) ∧ W.cell? ⟨B, 6, none⟩ = some (.int .i64 b6) ∧ W.cell? ⟨B, 7, none⟩ = some (.slice b7 b8 b9) ∧ W.cell? ⟨C, 0, none⟩ = some (.int .i64 c0) ∧ W.cell? ⟨C, 1, none⟩ = some (.string c1) ∧ W.cell? ⟨C, 2, none⟩ = some (.int .i64 c2) ∧ W.cell? ⟨C, 3, none⟩ = some (.int .i64 c3) ∧ W.cell? ⟨C, 4, none⟩ = some (.string c4) ∧ W.cell? ⟨C, 5, none⟩ = some (.int .i64 c5) ∧ W.cell? ⟨C, 6, none⟩ = some (.int .i64 c6) ∧ W.cell? ⟨C, 7, none⟩ = some (.slice c7 c8 c9) ∧ W.cell? ⟨w.heap.size + 1, 0, none⟩ = some (.int .i64 pid) ∧ W.cell? ⟨w.heap.size + 1, 1, none⟩ = some (.slice vp vn vc) ∧ W.cell? ⟨w.heap.size + 1, 2, none⟩ = some (.slice fp fn fc) ∧ W.cell? ⟨A4, 0, none⟩ = some (.int .i64 7) ∧ W.cell? ⟨A4, 1, none⟩ = some (.string ⟨#[]⟩) ∧ W.cell? ⟨A4, 2, none⟩ = some (.int .i64 0) ∧ W.cell? ⟨A4, 3, none⟩ = some (.int .i64 0) ∧ W.cell? ⟨A4, 4, none⟩ = some (.string ⟨#[]⟩) ∧ W.cell? ⟨A4, 5, none⟩ = some (.int .i64 0) ∧ W.cell? ⟨A4, 6, none⟩ = some (.int .i64 0) ∧ W.cell? ⟨A4, 7, none⟩ = some (.slice (some ⟨g3, 0, none⟩) 3 3) ∧ W.cell? ⟨A5, 0, none⟩ = some (.int .i64 8) ∧ W.cell? ⟨A5, 1, none⟩ = some (.string ⟨#[]⟩) ∧ W.cell? ⟨A5, 2, none⟩ = some (.int .i64 0) ∧ W.cell? ⟨A5, 3, none⟩ = some (.int .i64 0) ∧ W.cell? ⟨A5, 4, none⟩ = some (.string ⟨#[]⟩) ∧ W.cell? ⟨A5, 5, none⟩ = some (.int .i64 0) ∧ W.cell? ⟨A5, 6, none⟩ = some (.int .i64 0) ∧ W.cell? ⟨A5, 7, none⟩ = some (.slice (some ⟨g8, 0, none⟩) 3 3)) := Lib.hid (fun W hW => by
        have hb := HB9.out.trans (hW.mono HB9.out.size)
        have ht := HTRW.out W hb
        have hq : ∀ (g : Nat) (o : Obj), w9.heap[g]? = some o → W.heap[g]? = some o := fun g o h => (hW.block _ (Rk.lt_of_block h)).trans h
        obtain ⟨x0, x1, x2, x3, x4, x5, x6, x7⟩ := cells8 ht.a
        obtain ⟨y0, y1, y2, y3, y4, y5, y6, y7⟩ := cells8 ht.b
        obtain ⟨u0, u1, u2, u3, u4, u5, u6, u7⟩ := cells8 ht.c
        obtain ⟨v0', v1, v2⟩ := cells3 ht.p
        obtain ⟨r0, r1, r2, r3, r4, r5, r6, r7⟩ := cells8 (hq _ _ HQ.out.2.2.2.1)
        obtain ⟨s0, s1, s2, s3, s4, s5, s6, s7⟩ := cells8 (hq _ _ HQ.out.2.2.2.2)
        exact ⟨x0, x1, x2, x3, x4, x5, x6, x7, y0, y1, y2, y3, y4, y5, y6, y7, u0, u1, u2, u3, u4, u5, u6, u7, v0', v1, v2, r0, r1, r2, r3, r4, r5, r6, r7, s0, s1, s2, s3, s4, s5, s6, s7⟩)
      have HB2W := Lib.hid (fun W (hW : Below w9.heap.size w9 W) => HB9.out.trans (hW.mono HB9.out.size))
      have HAND := Lib.hid (fun W (hW : Below w9.heap.size w9 W) => show CdW (fun _ => True) W (.mk 7 ⟨#[]⟩ v0 0 0 [ca, cb, cc]) (rK 7 g3) from of3_at ((hW.block _ (Rk.lt_of_block HQ.out.2.1)).trans HQ.out.2.1) (HAW.out W (HB2W.out W hW)) (HBBW.out W (HB2W.out W hW)) (HCCW.out W (HB2W.out W hW)))
      have HOR := Lib.hid (fun W (hW : Below w9.heap.size w9 W) => show CdW (fun _ => True) W (.mk 8 ⟨#[]⟩ v0 0 0 [ca, cb, cc]) (rK 8 g8) from of3_at ((hW.block _ (Rk.lt_of_block HQ.out.2.2.1)).trans HQ.out.2.2.1) (HAW.out W (HB2W.out W hW)) (HBBW.out W (HB2W.out W hW)) (HCCW.out W (HB2W.out W hW)))
      have HBIG7 : Hid (Big (.mk 7 ⟨#[]⟩ v0 0 0 [ca, cb, cc])) := Lib.hid (big3 HBA.out HBB.out HBC.out)
      have HBIG8 : Hid (Big (.mk 8 ⟨#[]⟩ v0 0 0 [ca, cb, cc])) := Lib.hid (big3 HBA.out HBB.out HBC.out)
      have CAND := Lib.hid (fun W (hW : Below w9.heap.size w9 W) => show Calls Tryz.prog 8 #[cv (rK 7 g3), pv ⟨pid, ⟨vp, vn, vc⟩, ⟨fp, fn, fc⟩⟩] W fun e w' => e = .returned (.bool (bx && by' && bz)) ∧ Below W.heap.size W w' from by
        have h := pass_any (.mk 7 ⟨#[]⟩ v0 0 0 [ca, cb, cc]) F (rK 7 g3) ⟨pid, ⟨vp, vn, vc⟩, ⟨fp, fn, fc⟩⟩ W (HAND.out W hW) HBIG7.out (HFW.out W (HB2W.out W hW)) HOK.out
        rw [pass_and3, ← HX.out, ← HY.out, ← HZ.out] at h
        exact h)
      have COR := Lib.hid (fun W (hW : Below w9.heap.size w9 W) => show Calls Tryz.prog 8 #[cv (rK 8 g8), pv ⟨pid, ⟨vp, vn, vc⟩, ⟨fp, fn, fc⟩⟩] W fun e w' => e = .returned (.bool (bx || by' || bz)) ∧ Below W.heap.size W w' from by
        have h := pass_any (.mk 8 ⟨#[]⟩ v0 0 0 [ca, cb, cc]) F (rK 8 g8) ⟨pid, ⟨vp, vn, vc⟩, ⟨fp, fn, fc⟩⟩ W (HOR.out W hW) HBIG8.out (HFW.out W (HB2W.out W hW)) HOK.out
        rw [pass_or3, ← HX.out, ← HY.out, ← HZ.out] at h
        exact h)
      clear HS2 CA CB CC
      go_upto_region 6 with fail
      go_cut [67] (fun u wx => u = .bool false ∧ Below w9.heap.size w9 wx)
      case first =>
        obtain ⟨z0, z1, z2, z3, z4, z5, z6, z7, z8, z9, z10, z11, z12, z13, z14, z15, z16, z17, z18, z19, z20, z21, z22, z23, z24, z25, z26, z27, z28, z29, z30, z31, z32, z33, z34, z35, z36, z37, z38, z39, z40, z41, z42⟩ := HS9.out w9 (Below.refl _ _)
        have gz : (bz != bz) = false := by simp
        cases bx <;> cases by'
        all_goals
          simp only [Bool.true_and, Bool.false_and, Bool.and_true, Bool.and_false, Bool.true_or, Bool.false_or, Bool.or_true, Bool.or_false] at CAND COR
          go_wp2_with fail
          refine (CAND.out w9 (Below.refl _ _)).mono ?_
          rintro e y1 ⟨rfl, hb1⟩
          have HB1 := Lib.hid hb1
          obtain ⟨z0, z1, z2, z3, z4, z5, z6, z7, z8, z9, z10, z11, z12, z13, z14, z15, z16, z17, z18, z19, z20, z21, z22, z23, z24, z25, z26, z27, z28, z29, z30, z31, z32, z33, z34, z35, z36, z37, z38, z39, z40, z41, z42⟩ := HS9.out y1 hb1
          clear hb1
          go_wp2_with fail
          refine (COR.out y1 HB1.out).mono ?_
          rintro e y2 ⟨rfl, hb2⟩
          have HB2 := Lib.hid (HB1.out.trans (hb2.mono HB1.out.size))
          clear hb2
          go_wp2_with fail
          go_meet
          exact ⟨rfl, HB2.out⟩
      case rest =>
        obtain ⟨rfl, hb10⟩ := hcut
        obtain ⟨w10, rfl⟩ : ∃ w10 : World, w10 = wc := ⟨_, rfl⟩
        have HB10 := Lib.hid hb10
        clear hb10
        go_upto_region 8 with fail
        obtain ⟨bn, hbn⟩ : ∃ b, b = !(bx && by' && bz) := ⟨_, rfl⟩
        obtain ⟨bm, hbm⟩ : ∃ b, b = !(bx || by' || bz) := ⟨_, rfl⟩
        have HE1 : Hid (pass F (notC (.mk 7 ⟨#[]⟩ v0 0 0 [ca, cb, cc])) = bn) := Lib.hid (by rw [pass_notC, pass_and3, hbn, HX.out, HY.out, HZ.out])
        have HE2 : Hid (pass F (.mk 8 ⟨#[]⟩ v0 0 0 [notC ca, notC cb, notC cc]) = bn) := Lib.hid (by rw [pass_or3, pass_notC, pass_notC, pass_notC, not_and, hbn, HX.out, HY.out, HZ.out])
        have HE3 : Hid (pass F (notC (.mk 8 ⟨#[]⟩ v0 0 0 [ca, cb, cc])) = bm) := Lib.hid (by rw [pass_notC, pass_or3, hbm, HX.out, HY.out, HZ.out])
        have HE4 : Hid (pass F (.mk 7 ⟨#[]⟩ v0 0 0 [notC ca, notC cb, notC cc]) = bm) := Lib.hid (by rw [pass_and3, pass_notC, pass_notC, pass_notC, not_or, hbm, HX.out, HY.out, HZ.out])
        clear hbn hbm
        have gn : (bn != bn) = false := by simp
        have gm : (bm != bm) = false := by simp
        clear CAND COR
        refine wp_region_held_drew (S := fun W => Below w9.heap.size w9 W) (by kernel_rfl) HB10.out.drew (fun hHeld => ?_)
        refine H_take' (i := 0) (v := ?vv22_0) rfl (by kernel_rfl) (by kernel_rfl) (by kernel_rfl) (fun _ _ _ h => h) (Or.inl ⟨by rfl, ?hy22_0⟩) hHeld ?rest22_0
        case hy22_0 =>
          intro wy hSx
          obtain ⟨z0, z1, z2, z3, z4, z5, z6, z7, z8, z9, z10, z11, z12, z13, z14, z15, z16, z17, z18, z19, z20, z21, z22, z23, z24, z25, z26, z27, z28, z29, z30, z31, z32, z33, z34, z35, z36, z37, z38, z39, z40, z41, z42⟩ := HS9.out wy hSx
          go_simp
          all_goals with_reducible rfl
        try simp only [Act.put, List.setIfInBounds_toArray, List.set_cons_zero, List.set_cons_succ]
        refine H_take' (i := 2) (v := ?vv23_2) rfl (by kernel_rfl) (by kernel_rfl) (by kernel_rfl) (fun _ _ _ h => h) (Or.inl ⟨by rfl, ?hy23_2⟩) hHeld ?rest23_2
        case hy23_2 =>
          intro wy hSx
          obtain ⟨z0, z1, z2, z3, z4, z5, z6, z7, z8, z9, z10, z11, z12, z13, z14, z15, z16, z17, z18, z19, z20, z21, z22, z23, z24, z25, z26, z27, z28, z29, z30, z31, z32, z33, z34, z35, z36, z37, z38, z39, z40, z41, z42⟩ := HS9.out wy hSx
          go_simp
          all_goals with_reducible rfl
        try simp only [Act.put, List.setIfInBounds_toArray, List.set_cons_zero, List.set_cons_succ]
        refine H_take' (i := 4) (v := ?vv24_4) rfl (by kernel_rfl) (by kernel_rfl) (by kernel_rfl) (fun _ _ _ h => h) (Or.inl ⟨by rfl, ?hy24_4⟩) hHeld ?rest24_4
        case hy24_4 =>
          intro wy hSx
          obtain ⟨z0, z1, z2, z3, z4, z5, z6, z7, z8, z9, z10, z11, z12, z13, z14, z15, z16, z17, z18, z19, z20, z21, z22, z23, z24, z25, z26, z27, z28, z29, z30, z31, z32, z33, z34, z35, z36, z37, z38, z39, z40, z41, z42⟩ := HS9.out wy hSx
          go_simp
          all_goals with_reducible rfl
        try simp only [Act.put, List.setIfInBounds_toArray, List.set_cons_zero, List.set_cons_succ]
        refine H_take' (i := 6) (v := ?vv25_6) rfl (by kernel_rfl) (by kernel_rfl) (by kernel_rfl) (fun _ _ _ h => h) (Or.inl ⟨by rfl, ?hy25_6⟩) hHeld ?rest25_6
        case hy25_6 =>
          intro wy hSx
          obtain ⟨z0, z1, z2, z3, z4, z5, z6, z7, z8, z9, z10, z11, z12, z13, z14, z15, z16, z17, z18, z19, z20, z21, z22, z23, z24, z25, z26, z27, z28, z29, z30, z31, z32, z33, z34, z35, z36, z37, z38, z39, z40, z41, z42⟩ := HS9.out wy hSx
          go_simp
          all_goals with_reducible rfl
        try simp only [Act.put, List.setIfInBounds_toArray, List.set_cons_zero, List.set_cons_succ]
        refine H_take' (i := 8) (v := ?vv26_8) rfl (by kernel_rfl) (by kernel_rfl) (by kernel_rfl) (fun _ _ _ h => h) (Or.inl ⟨by rfl, ?hy26_8⟩) hHeld ?rest26_8
        case hy26_8 =>
          intro wy hSx
          obtain ⟨z0, z1, z2, z3, z4, z5, z6, z7, z8, z9, z10, z11, z12, z13, z14, z15, z16, z17, z18, z19, z20, z21, z22, z23, z24, z25, z26, z27, z28, z29, z30, z31, z32, z33, z34, z35, z36, z37, z38, z39, z40, z41, z42⟩ := HS9.out wy hSx
          go_simp
          all_goals with_reducible rfl
        try simp only [Act.put, List.setIfInBounds_toArray, List.set_cons_zero, List.set_cons_succ]
        refine H_take' (i := 12) (v := ?vv27_12) rfl (by kernel_rfl) (by kernel_rfl) (by kernel_rfl) (fun _ _ _ h => h) (Or.inl ⟨by rfl, ?hy27_12⟩) hHeld ?rest27_12
        case hy27_12 =>
          intro wy hSx
          obtain ⟨z0, z1, z2, z3, z4, z5, z6, z7, z8, z9, z10, z11, z12, z13, z14, z15, z16, z17, z18, z19, z20, z21, z22, z23, z24, z25, z26, z27, z28, z29, z30, z31, z32, z33, z34, z35, z36, z37, z38, z39, z40, z41, z42⟩ := HS9.out wy hSx
          go_simp
          all_goals with_reducible rfl
        try simp only [Act.put, List.setIfInBounds_toArray, List.set_cons_zero, List.set_cons_succ]
        refine H_one' (i := 1) rfl (by kernel_rfl) fun K hK => ?_
        go_simp
        refine (not_any (rK 7 g3) _).mono ?_
        rintro e k1 ⟨gk1, rfl, hgk1, hb3⟩
        have HNk1 := Lib.hid (fun W (hW : Below k1.heap.size k1 W) => (notC_at (HAND.out _ hHeld) hb3 hgk1).below hW)
        have HDk1 := Lib.hid hb3
        have hHeld := hHeld.trans (hb3.mono hHeld.size)
        clear hb3 hgk1
        try dsimp only
        refine hK _ _ hHeld ?_
        clear K hK
        try simp only [Act.put, List.setIfInBounds_toArray, List.set_cons_zero, List.set_cons_succ]
        refine H_one' (i := 3) rfl (by kernel_rfl) fun K hK => ?_
        go_simp
        refine (pass_eq (c := notC (.mk 7 ⟨#[]⟩ v0 0 0 [ca, cb, cc])) (r := ⟨6, ⟨#[]⟩, v0, 0, 0, ⟨some ⟨gk1, 0, none⟩, 1, 1⟩⟩) (p := ⟨pid, ⟨vp, vn, vc⟩, ⟨fp, fn, fc⟩⟩) HE1.out (HNk1.out _ (Below.refl _ _)) (big_notC HBIG7.out) (HFW.out _ (HB2W.out _ hHeld)) HOK.out).mono ?_
        rintro e k3 ⟨rfl, hb3⟩
        have hHeld := hHeld.trans (hb3.mono hHeld.size)
        clear hb3
        try dsimp only
        refine hK _ _ hHeld ?_
        clear K hK
        try simp only [Act.put, List.setIfInBounds_toArray, List.set_cons_zero, List.set_cons_succ]
        refine H_one' (i := 5) rfl (by kernel_rfl) fun K hK => ?_
        go_simp
        refine (not_any ⟨a0, a1, ⟨a2, a3, a4⟩, a5, a6, ⟨a7, a8, a9⟩⟩ _).mono ?_
        rintro e k5 ⟨gk5, rfl, hgk5, hb3⟩
        have HNk5 := Lib.hid (fun W (hW : Below k5.heap.size k5 W) => (notC_at (HAW.out _ (HB2W.out _ hHeld)) hb3 hgk5).below hW)
        have HDk5 := Lib.hid hb3
        have hHeld := hHeld.trans (hb3.mono hHeld.size)
        clear hb3 hgk5
        try dsimp only
        refine hK _ _ hHeld ?_
        clear K hK
        try simp only [Act.put, List.setIfInBounds_toArray, List.set_cons_zero, List.set_cons_succ]
        refine H_one' (i := 7) rfl (by kernel_rfl) fun K hK => ?_
        go_simp
        refine (not_any ⟨b0, b1, ⟨b2, b3, b4⟩, b5, b6, ⟨b7, b8, b9⟩⟩ _).mono ?_
        rintro e k7 ⟨gk7, rfl, hgk7, hb3⟩
        have HNk7 := Lib.hid (fun W (hW : Below k7.heap.size k7 W) => (notC_at (HBBW.out _ (HB2W.out _ hHeld)) hb3 hgk7).below hW)
        have HDk7 := Lib.hid hb3
        have hHeld := hHeld.trans (hb3.mono hHeld.size)
        clear hb3 hgk7
        try dsimp only
        refine hK _ _ hHeld ?_
        clear K hK
        try simp only [Act.put, List.setIfInBounds_toArray, List.set_cons_zero, List.set_cons_succ]
        refine H_one' (i := 9) rfl (by kernel_rfl) fun K hK => ?_
        go_simp
        refine (not_any ⟨c0, c1, ⟨c2, c3, c4⟩, c5, c6, ⟨c7, c8, c9⟩⟩ _).mono ?_
        rintro e k9 ⟨gk9, rfl, hgk9, hb3⟩
        have HNk9 := Lib.hid (fun W (hW : Below k9.heap.size k9 W) => (notC_at (HCCW.out _ (HB2W.out _ hHeld)) hb3 hgk9).below hW)
        have HDk9 := Lib.hid hb3
        have hHeld := hHeld.trans (hb3.mono hHeld.size)
        clear hb3 hgk9
        try dsimp only
        refine hK _ _ hHeld ?_
        clear K hK
        try simp only [Act.put, List.setIfInBounds_toArray, List.set_cons_zero, List.set_cons_succ]
        refine H_one' (i := 10) rfl (by kernel_rfl) fun K hK => ?_
        go_simp
        have hHeld := hHeld.trans ((Rk.fresh_alloc k9 (.cells #[.int .i64 6, .string ⟨#[]⟩, .int .i64 0, .int .i64 0, .string ⟨#[]⟩, .int .i64 0, .int .i64 0, .slice (some ⟨gk5, 0, none⟩) 1 1, .int .i64 6, .string ⟨#[]⟩, .int .i64 0, .int .i64 0, .string ⟨#[]⟩, .int .i64 0, .int .i64 0, .slice (some ⟨gk7, 0, none⟩) 1 1, .int .i64 6, .string ⟨#[]⟩, .int .i64 0, .int .i64 0, .string ⟨#[]⟩, .int .i64 0, .int .i64 0, .slice (some ⟨gk9, 0, none⟩) 1 1] 26)).mono hHeld.size)
        try dsimp only
        refine hK _ _ hHeld ?_
        clear K hK
        try simp only [Act.put, List.setIfInBounds_toArray, List.set_cons_zero, List.set_cons_succ]
        refine H_one' (i := 11) rfl (by kernel_rfl) fun K hK => ?_
        go_simp
        refine (of_any 8 _ 3 3 _).mono ?_
        rintro e kG ⟨rfl, rfl⟩
        have hHeld := hHeld.trans ((Rk.fresh_alloc _ (cobj (rK 8 k9.heap.size))).mono hHeld.size)
        try dsimp only
        refine hK _ _ hHeld ?_
        clear K hK
        try simp only [Act.put, List.setIfInBounds_toArray, List.set_cons_zero, List.set_cons_succ]
        have hbe : ∀ o o' : Obj, Below k9.heap.size k9 ((k9.alloc o).alloc o') := fun o o' => (Rk.fresh_alloc k9 o).alloc (by simp) o'
        refine H_one' (i := 13) rfl (by kernel_rfl) fun K hK => ?_
        go_simp
        refine (pass_eq (c := .mk 8 ⟨#[]⟩ v0 0 0 [notC ca, notC cb, notC cc]) (r := rK 8 k9.heap.size) (p := ⟨pid, ⟨vp, vn, vc⟩, ⟨fp, fn, fc⟩⟩) HE2.out (of3_at ((Rk.heap_old _ _ (by simp)).trans (Rk.heap_last k9 _)) (HNk5.out _ (HDk7.out.trans ((HDk9.out.trans ((hbe _ _).mono HDk9.out.size)).mono HDk7.out.size))) (HNk7.out _ (HDk9.out.trans ((hbe _ _).mono HDk9.out.size))) (HNk9.out _ (hbe _ _))) (big3 (big_notC HBA.out) (big_notC HBB.out) (big_notC HBC.out)) (HFW.out _ (HB2W.out _ hHeld)) HOK.out).mono ?_
        rintro e k13 ⟨rfl, hb3⟩
        have hHeld := hHeld.trans (hb3.mono hHeld.size)
        clear hb3
        try dsimp only
        refine hK _ _ hHeld ?_
        clear K hK
        try simp only [Act.put, List.setIfInBounds_toArray, List.set_cons_zero, List.set_cons_succ]
        clear hbe
        refine H_one' (i := 14) rfl (by kernel_rfl) fun K hK => ?_
        go_simp
        refine hK _ _ hHeld ?_
        clear K hK
        try simp only [Act.put, List.setIfInBounds_toArray, List.set_cons_zero, List.set_cons_succ]
        refine H_one' (i := 15) rfl (by kernel_rfl) fun K hK => ?_
        go_simp
        refine hK _ _ hHeld ?_
        clear K hK
        try simp only [Act.put, List.setIfInBounds_toArray, List.set_cons_zero, List.set_cons_succ]
        refine H_take' (i := 16) (v := ?vv28_16) rfl (by kernel_rfl) (by kernel_rfl) (by kernel_rfl) (fun _ _ _ h => h) (Or.inl ⟨by rfl, ?hy28_16⟩) hHeld ?rest28_16
        case hy28_16 =>
          intro wy hSx
          obtain ⟨z0, z1, z2, z3, z4, z5, z6, z7, z8, z9, z10, z11, z12, z13, z14, z15, z16, z17, z18, z19, z20, z21, z22, z23, z24, z25, z26, z27, z28, z29, z30, z31, z32, z33, z34, z35, z36, z37, z38, z39, z40, z41, z42⟩ := HS9.out wy hSx
          go_simp
          all_goals with_reducible rfl
        try simp only [Act.put, List.setIfInBounds_toArray, List.set_cons_zero, List.set_cons_succ]
        refine H_take' (i := 18) (v := ?vv29_18) rfl (by kernel_rfl) (by kernel_rfl) (by kernel_rfl) (fun _ _ _ h => h) (Or.inl ⟨by rfl, ?hy29_18⟩) hHeld ?rest29_18
        case hy29_18 =>
          intro wy hSx
          obtain ⟨z0, z1, z2, z3, z4, z5, z6, z7, z8, z9, z10, z11, z12, z13, z14, z15, z16, z17, z18, z19, z20, z21, z22, z23, z24, z25, z26, z27, z28, z29, z30, z31, z32, z33, z34, z35, z36, z37, z38, z39, z40, z41, z42⟩ := HS9.out wy hSx
          go_simp
          all_goals with_reducible rfl
        try simp only [Act.put, List.setIfInBounds_toArray, List.set_cons_zero, List.set_cons_succ]
        refine H_take' (i := 20) (v := ?vv30_20) rfl (by kernel_rfl) (by kernel_rfl) (by kernel_rfl) (fun _ _ _ h => h) (Or.inl ⟨by rfl, ?hy30_20⟩) hHeld ?rest30_20
        case hy30_20 =>
          intro wy hSx
          obtain ⟨z0, z1, z2, z3, z4, z5, z6, z7, z8, z9, z10, z11, z12, z13, z14, z15, z16, z17, z18, z19, z20, z21, z22, z23, z24, z25, z26, z27, z28, z29, z30, z31, z32, z33, z34, z35, z36, z37, z38, z39, z40, z41, z42⟩ := HS9.out wy hSx
          go_simp
          all_goals with_reducible rfl
        try simp only [Act.put, List.setIfInBounds_toArray, List.set_cons_zero, List.set_cons_succ]
        refine H_take' (i := 22) (v := ?vv31_22) rfl (by kernel_rfl) (by kernel_rfl) (by kernel_rfl) (fun _ _ _ h => h) (Or.inl ⟨by rfl, ?hy31_22⟩) hHeld ?rest31_22
        case hy31_22 =>
          intro wy hSx
          obtain ⟨z0, z1, z2, z3, z4, z5, z6, z7, z8, z9, z10, z11, z12, z13, z14, z15, z16, z17, z18, z19, z20, z21, z22, z23, z24, z25, z26, z27, z28, z29, z30, z31, z32, z33, z34, z35, z36, z37, z38, z39, z40, z41, z42⟩ := HS9.out wy hSx
          go_simp
          all_goals with_reducible rfl
        try simp only [Act.put, List.setIfInBounds_toArray, List.set_cons_zero, List.set_cons_succ]
        refine H_take' (i := 24) (v := ?vv32_24) rfl (by kernel_rfl) (by kernel_rfl) (by kernel_rfl) (fun _ _ _ h => h) (Or.inl ⟨by rfl, ?hy32_24⟩) hHeld ?rest32_24
        case hy32_24 =>
          intro wy hSx
          obtain ⟨z0, z1, z2, z3, z4, z5, z6, z7, z8, z9, z10, z11, z12, z13, z14, z15, z16, z17, z18, z19, z20, z21, z22, z23, z24, z25, z26, z27, z28, z29, z30, z31, z32, z33, z34, z35, z36, z37, z38, z39, z40, z41, z42⟩ := HS9.out wy hSx
          go_simp
          all_goals with_reducible rfl
        try simp only [Act.put, List.setIfInBounds_toArray, List.set_cons_zero, List.set_cons_succ]
        refine H_take' (i := 28) (v := ?vv33_28) rfl (by kernel_rfl) (by kernel_rfl) (by kernel_rfl) (fun _ _ _ h => h) (Or.inl ⟨by rfl, ?hy33_28⟩) hHeld ?rest33_28
        case hy33_28 =>
          intro wy hSx
          obtain ⟨z0, z1, z2, z3, z4, z5, z6, z7, z8, z9, z10, z11, z12, z13, z14, z15, z16, z17, z18, z19, z20, z21, z22, z23, z24, z25, z26, z27, z28, z29, z30, z31, z32, z33, z34, z35, z36, z37, z38, z39, z40, z41, z42⟩ := HS9.out wy hSx
          go_simp
          all_goals with_reducible rfl
        try simp only [Act.put, List.setIfInBounds_toArray, List.set_cons_zero, List.set_cons_succ]
        refine H_one' (i := 17) rfl (by kernel_rfl) fun K hK => ?_
        go_simp
        refine (not_any (rK 8 g8) _).mono ?_
        rintro e k17 ⟨gk17, rfl, hgk17, hb3⟩
        have HNk17 := Lib.hid (fun W (hW : Below k17.heap.size k17 W) => (notC_at (HOR.out _ hHeld) hb3 hgk17).below hW)
        have HDk17 := Lib.hid hb3
        have hHeld := hHeld.trans (hb3.mono hHeld.size)
        clear hb3 hgk17
        try dsimp only
        refine hK _ _ hHeld ?_
        clear K hK
        try simp only [Act.put, List.setIfInBounds_toArray, List.set_cons_zero, List.set_cons_succ]
        refine H_one' (i := 19) rfl (by kernel_rfl) fun K hK => ?_
        go_simp
        refine (pass_eq (c := notC (.mk 8 ⟨#[]⟩ v0 0 0 [ca, cb, cc])) (r := ⟨6, ⟨#[]⟩, v0, 0, 0, ⟨some ⟨gk17, 0, none⟩, 1, 1⟩⟩) (p := ⟨pid, ⟨vp, vn, vc⟩, ⟨fp, fn, fc⟩⟩) HE3.out (HNk17.out _ (Below.refl _ _)) (big_notC HBIG8.out) (HFW.out _ (HB2W.out _ hHeld)) HOK.out).mono ?_
        rintro e k19 ⟨rfl, hb3⟩
        have hHeld := hHeld.trans (hb3.mono hHeld.size)
        clear hb3
        try dsimp only
        refine hK _ _ hHeld ?_
        clear K hK
        try simp only [Act.put, List.setIfInBounds_toArray, List.set_cons_zero, List.set_cons_succ]
        refine H_one' (i := 21) rfl (by kernel_rfl) fun K hK => ?_
        go_simp
        refine (not_any ⟨a0, a1, ⟨a2, a3, a4⟩, a5, a6, ⟨a7, a8, a9⟩⟩ _).mono ?_
        rintro e k21 ⟨gk21, rfl, hgk21, hb3⟩
        have HNk21 := Lib.hid (fun W (hW : Below k21.heap.size k21 W) => (notC_at (HAW.out _ (HB2W.out _ hHeld)) hb3 hgk21).below hW)
        have HDk21 := Lib.hid hb3
        have hHeld := hHeld.trans (hb3.mono hHeld.size)
        clear hb3 hgk21
        try dsimp only
        refine hK _ _ hHeld ?_
        clear K hK
        try simp only [Act.put, List.setIfInBounds_toArray, List.set_cons_zero, List.set_cons_succ]
        refine H_one' (i := 23) rfl (by kernel_rfl) fun K hK => ?_
        go_simp
        refine (not_any ⟨b0, b1, ⟨b2, b3, b4⟩, b5, b6, ⟨b7, b8, b9⟩⟩ _).mono ?_
        rintro e k23 ⟨gk23, rfl, hgk23, hb3⟩
        have HNk23 := Lib.hid (fun W (hW : Below k23.heap.size k23 W) => (notC_at (HBBW.out _ (HB2W.out _ hHeld)) hb3 hgk23).below hW)
        have HDk23 := Lib.hid hb3
        have hHeld := hHeld.trans (hb3.mono hHeld.size)
        clear hb3 hgk23
        try dsimp only
        refine hK _ _ hHeld ?_
        clear K hK
        try simp only [Act.put, List.setIfInBounds_toArray, List.set_cons_zero, List.set_cons_succ]
        refine H_one' (i := 25) rfl (by kernel_rfl) fun K hK => ?_
        go_simp
        refine (not_any ⟨c0, c1, ⟨c2, c3, c4⟩, c5, c6, ⟨c7, c8, c9⟩⟩ _).mono ?_
        rintro e k25 ⟨gk25, rfl, hgk25, hb3⟩
        have HNk25 := Lib.hid (fun W (hW : Below k25.heap.size k25 W) => (notC_at (HCCW.out _ (HB2W.out _ hHeld)) hb3 hgk25).below hW)
        have HDk25 := Lib.hid hb3
        have hHeld := hHeld.trans (hb3.mono hHeld.size)
        clear hb3 hgk25
        try dsimp only
        refine hK _ _ hHeld ?_
        clear K hK
        try simp only [Act.put, List.setIfInBounds_toArray, List.set_cons_zero, List.set_cons_succ]
        refine H_one' (i := 26) rfl (by kernel_rfl) fun K hK => ?_
        go_simp
        have hHeld := hHeld.trans ((Rk.fresh_alloc k25 (.cells #[.int .i64 6, .string ⟨#[]⟩, .int .i64 0, .int .i64 0, .string ⟨#[]⟩, .int .i64 0, .int .i64 0, .slice (some ⟨gk21, 0, none⟩) 1 1, .int .i64 6, .string ⟨#[]⟩, .int .i64 0, .int .i64 0, .string ⟨#[]⟩, .int .i64 0, .int .i64 0, .slice (some ⟨gk23, 0, none⟩) 1 1, .int .i64 6, .string ⟨#[]⟩, .int .i64 0, .int .i64 0, .string ⟨#[]⟩, .int .i64 0, .int .i64 0, .slice (some ⟨gk25, 0, none⟩) 1 1] 26)).mono hHeld.size)
        try dsimp only
        refine hK _ _ hHeld ?_
        clear K hK
        try simp only [Act.put, List.setIfInBounds_toArray, List.set_cons_zero, List.set_cons_succ]
        refine H_one' (i := 27) rfl (by kernel_rfl) fun K hK => ?_
        go_simp
        refine (of_any 7 _ 3 3 _).mono ?_
        rintro e kG ⟨rfl, rfl⟩
        have hHeld := hHeld.trans ((Rk.fresh_alloc _ (cobj (rK 7 k25.heap.size))).mono hHeld.size)
        try dsimp only
        refine hK _ _ hHeld ?_
        clear K hK
        try simp only [Act.put, List.setIfInBounds_toArray, List.set_cons_zero, List.set_cons_succ]
        have hbe : ∀ o o' : Obj, Below k25.heap.size k25 ((k25.alloc o).alloc o') := fun o o' => (Rk.fresh_alloc k25 o).alloc (by simp) o'
        refine H_one' (i := 29) rfl (by kernel_rfl) fun K hK => ?_
        go_simp
        refine (pass_eq (c := .mk 7 ⟨#[]⟩ v0 0 0 [notC ca, notC cb, notC cc]) (r := rK 7 k25.heap.size) (p := ⟨pid, ⟨vp, vn, vc⟩, ⟨fp, fn, fc⟩⟩) HE4.out (of3_at ((Rk.heap_old _ _ (by simp)).trans (Rk.heap_last k25 _)) (HNk21.out _ (HDk23.out.trans ((HDk25.out.trans ((hbe _ _).mono HDk25.out.size)).mono HDk23.out.size))) (HNk23.out _ (HDk25.out.trans ((hbe _ _).mono HDk25.out.size))) (HNk25.out _ (hbe _ _))) (big3 (big_notC HBA.out) (big_notC HBB.out) (big_notC HBC.out)) (HFW.out _ (HB2W.out _ hHeld)) HOK.out).mono ?_
        rintro e k29 ⟨rfl, hb3⟩
        have hHeld := hHeld.trans (hb3.mono hHeld.size)
        clear hb3
        try dsimp only
        refine hK _ _ hHeld ?_
        clear K hK
        try simp only [Act.put, List.setIfInBounds_toArray, List.set_cons_zero, List.set_cons_succ]
        clear hbe
        refine H_one' (i := 30) rfl (by kernel_rfl) fun K hK => ?_
        go_simp
        refine hK _ _ hHeld ?_
        clear K hK
        try simp only [Act.put, List.setIfInBounds_toArray, List.set_cons_zero, List.set_cons_succ]
        refine H_one' (i := 31) rfl (by kernel_rfl) fun K hK => ?_
        go_simp
        refine hK _ _ hHeld ?_
        clear K hK
        try simp only [Act.put, List.setIfInBounds_toArray, List.set_cons_zero, List.set_cons_succ]
        refine wpAnyH_done (by kernel_rfl) ?_ _
        obtain ⟨w11, rfl⟩ : ∃ w11 : World, w11 = k29 := ⟨_, rfl⟩
        have HB11 := Lib.hid hHeld
        clear hHeld gn gm
        go_upto_region 10 with fail
        obtain ⟨ba, hba⟩ : ∃ b, b = (bx && by' && bz) := ⟨_, rfl⟩
        obtain ⟨bo, hbo⟩ : ∃ b, b = (bx || by' || bz) := ⟨_, rfl⟩
        obtain ⟨sa, hsa⟩ : ∃ z, z = sizeC ca := ⟨_, rfl⟩
        obtain ⟨sb, hsb⟩ : ∃ z, z = sizeC cb := ⟨_, rfl⟩
        obtain ⟨sc, hsc⟩ : ∃ z, z = sizeC cc := ⟨_, rfl⟩
        have HF1 : Hid (pass F (.mk 7 ⟨#[]⟩ v0 0 0 [cc, cb, ca, ca]) = ba) := Lib.hid (by rw [pass_and4, hba, HX.out, HY.out, HZ.out])
        have HF2 : Hid (pass F (.mk 7 ⟨#[]⟩ v0 0 0 [ca, cb, cc]) = ba) := Lib.hid (by rw [pass_and3, hba, HX.out, HY.out, HZ.out])
        have HF3 : Hid (pass F (.mk 8 ⟨#[]⟩ v0 0 0 [cc, cb, ca, cb]) = bo) := Lib.hid (by rw [pass_or4, hbo, HX.out, HY.out, HZ.out])
        have HF4 : Hid (pass F (.mk 8 ⟨#[]⟩ v0 0 0 [ca, cb, cc]) = bo) := Lib.hid (by rw [pass_or3, hbo, HX.out, HY.out, HZ.out])
        have HG1 : Hid (sizeC (.mk 7 ⟨#[]⟩ v0 0 0 [ca, cb, cc]) = IntKind.i64.wrap (IntKind.i64.wrap (IntKind.i64.wrap (1 + sa) + sb) + sc)) := Lib.hid (by rw [size_and3, hsa, hsb, hsc, w64, w64, w64])
        have HG2 : Hid (sizeC ca = sa) := Lib.hid hsa.symm
        have HG3 : Hid (sizeC cb = sb) := Lib.hid hsb.symm
        have HG4 : Hid (sizeC cc = sc) := Lib.hid hsc.symm
        clear hba hbo hsa hsb hsc
        have ga : (ba == ba) = true := by simp
        have go' : (bo == bo) = true := by simp
        refine wp_region_held_drew (S := fun W => Below w9.heap.size w9 W) (by kernel_rfl) HB11.out.drew (fun hHeld => ?_)
        refine H_take' (i := 0) (v := ?vv34_0) rfl (by kernel_rfl) (by kernel_rfl) (by kernel_rfl) (fun _ _ _ h => h) (Or.inl ⟨by rfl, ?hy34_0⟩) hHeld ?rest34_0
        case hy34_0 =>
          intro wy hSx
          obtain ⟨z0, z1, z2, z3, z4, z5, z6, z7, z8, z9, z10, z11, z12, z13, z14, z15, z16, z17, z18, z19, z20, z21, z22, z23, z24, z25, z26, z27, z28, z29, z30, z31, z32, z33, z34, z35, z36, z37, z38, z39, z40, z41, z42⟩ := HS9.out wy hSx
          go_simp
          all_goals with_reducible rfl
        try simp only [Act.put, List.setIfInBounds_toArray, List.set_cons_zero, List.set_cons_succ]
        refine H_take' (i := 1) (v := ?vv35_1) rfl (by kernel_rfl) (by kernel_rfl) (by kernel_rfl) (fun _ _ _ h => h) (Or.inl ⟨by rfl, ?hy35_1⟩) hHeld ?rest35_1
        case hy35_1 =>
          intro wy hSx
          obtain ⟨z0, z1, z2, z3, z4, z5, z6, z7, z8, z9, z10, z11, z12, z13, z14, z15, z16, z17, z18, z19, z20, z21, z22, z23, z24, z25, z26, z27, z28, z29, z30, z31, z32, z33, z34, z35, z36, z37, z38, z39, z40, z41, z42⟩ := HS9.out wy hSx
          go_simp
          all_goals with_reducible rfl
        try simp only [Act.put, List.setIfInBounds_toArray, List.set_cons_zero, List.set_cons_succ]
        refine H_take' (i := 2) (v := ?vv36_2) rfl (by kernel_rfl) (by kernel_rfl) (by kernel_rfl) (fun _ _ _ h => h) (Or.inl ⟨by rfl, ?hy36_2⟩) hHeld ?rest36_2
        case hy36_2 =>
          intro wy hSx
          obtain ⟨z0, z1, z2, z3, z4, z5, z6, z7, z8, z9, z10, z11, z12, z13, z14, z15, z16, z17, z18, z19, z20, z21, z22, z23, z24, z25, z26, z27, z28, z29, z30, z31, z32, z33, z34, z35, z36, z37, z38, z39, z40, z41, z42⟩ := HS9.out wy hSx
          go_simp
          all_goals with_reducible rfl
        try simp only [Act.put, List.setIfInBounds_toArray, List.set_cons_zero, List.set_cons_succ]
        refine H_take' (i := 3) (v := ?vv37_3) rfl (by kernel_rfl) (by kernel_rfl) (by kernel_rfl) (fun _ _ _ h => h) (Or.inl ⟨by rfl, ?hy37_3⟩) hHeld ?rest37_3
        case hy37_3 =>
          intro wy hSx
          obtain ⟨z0, z1, z2, z3, z4, z5, z6, z7, z8, z9, z10, z11, z12, z13, z14, z15, z16, z17, z18, z19, z20, z21, z22, z23, z24, z25, z26, z27, z28, z29, z30, z31, z32, z33, z34, z35, z36, z37, z38, z39, z40, z41, z42⟩ := HS9.out wy hSx
          go_simp
          all_goals with_reducible rfl
        try simp only [Act.put, List.setIfInBounds_toArray, List.set_cons_zero, List.set_cons_succ]
        refine H_take' (i := 6) (v := ?vv38_6) rfl (by kernel_rfl) (by kernel_rfl) (by kernel_rfl) (fun _ _ _ h => h) (Or.inl ⟨by rfl, ?hy38_6⟩) hHeld ?rest38_6
        case hy38_6 =>
          intro wy hSx
          obtain ⟨z0, z1, z2, z3, z4, z5, z6, z7, z8, z9, z10, z11, z12, z13, z14, z15, z16, z17, z18, z19, z20, z21, z22, z23, z24, z25, z26, z27, z28, z29, z30, z31, z32, z33, z34, z35, z36, z37, z38, z39, z40, z41, z42⟩ := HS9.out wy hSx
          go_simp
          all_goals with_reducible rfl
        try simp only [Act.put, List.setIfInBounds_toArray, List.set_cons_zero, List.set_cons_succ]
        refine H_take' (i := 8) (v := ?vv39_8) rfl (by kernel_rfl) (by kernel_rfl) (by kernel_rfl) (fun _ _ _ h => h) (Or.inl ⟨by rfl, ?hy39_8⟩) hHeld ?rest39_8
        case hy39_8 =>
          intro wy hSx
          obtain ⟨z0, z1, z2, z3, z4, z5, z6, z7, z8, z9, z10, z11, z12, z13, z14, z15, z16, z17, z18, z19, z20, z21, z22, z23, z24, z25, z26, z27, z28, z29, z30, z31, z32, z33, z34, z35, z36, z37, z38, z39, z40, z41, z42⟩ := HS9.out wy hSx
          go_simp
          all_goals with_reducible rfl
        try simp only [Act.put, List.setIfInBounds_toArray, List.set_cons_zero, List.set_cons_succ]
        refine H_take' (i := 9) (v := ?vv40_9) rfl (by kernel_rfl) (by kernel_rfl) (by kernel_rfl) (fun _ _ _ h => h) (Or.inl ⟨by rfl, ?hy40_9⟩) hHeld ?rest40_9
        case hy40_9 =>
          intro wy hSx
          obtain ⟨z0, z1, z2, z3, z4, z5, z6, z7, z8, z9, z10, z11, z12, z13, z14, z15, z16, z17, z18, z19, z20, z21, z22, z23, z24, z25, z26, z27, z28, z29, z30, z31, z32, z33, z34, z35, z36, z37, z38, z39, z40, z41, z42⟩ := HS9.out wy hSx
          go_simp
          all_goals with_reducible rfl
        try simp only [Act.put, List.setIfInBounds_toArray, List.set_cons_zero, List.set_cons_succ]
        refine H_one' (i := 4) rfl (by kernel_rfl) fun K hK => ?_
        go_simp
        have hHeld := hHeld.trans ((Rk.fresh_alloc w11.drew (.cells #[.int .i64 c0, .string c1, .int .i64 c2, .int .i64 c3, .string c4, .int .i64 c5, .int .i64 c6, .slice c7 c8 c9, .int .i64 b0, .string b1, .int .i64 b2, .int .i64 b3, .string b4, .int .i64 b5, .int .i64 b6, .slice b7 b8 b9, .int .i64 a0, .string a1, .int .i64 a2, .int .i64 a3, .string a4, .int .i64 a5, .int .i64 a6, .slice a7 a8 a9, .int .i64 a0, .string a1, .int .i64 a2, .int .i64 a3, .string a4, .int .i64 a5, .int .i64 a6, .slice a7 a8 a9] 26)).mono hHeld.size)
        try dsimp only
        refine hK _ _ hHeld ?_
        clear K hK
        try simp only [Act.put, List.setIfInBounds_toArray, List.set_cons_zero, List.set_cons_succ]
        refine H_one' (i := 5) rfl (by kernel_rfl) fun K hK => ?_
        go_simp
        refine (of_any 7 _ 4 4 _).mono ?_
        rintro e kG ⟨rfl, rfl⟩
        have hHeld := hHeld.trans ((Rk.fresh_alloc _ (cobj ⟨7, ⟨#[]⟩, v0, 0, 0, ⟨some ⟨w11.drew.heap.size, 0, none⟩, 4, 4⟩⟩)).mono hHeld.size)
        try dsimp only
        refine hK _ _ hHeld ?_
        clear K hK
        try simp only [Act.put, List.setIfInBounds_toArray, List.set_cons_zero, List.set_cons_succ]
        refine H_one' (i := 7) rfl (by kernel_rfl) fun K hK => ?_
        go_simp
        refine (pass_eq (c := .mk 7 ⟨#[]⟩ v0 0 0 [cc, cb, ca, ca]) (r := ⟨7, ⟨#[]⟩, v0, 0, 0, ⟨some ⟨w11.drew.heap.size, 0, none⟩, 4, 4⟩⟩) (p := ⟨pid, ⟨vp, vn, vc⟩, ⟨fp, fn, fc⟩⟩) HF1.out (of4_at (a := ⟨c0, c1, ⟨c2, c3, c4⟩, c5, c6, ⟨c7, c8, c9⟩⟩) (b := ⟨b0, b1, ⟨b2, b3, b4⟩, b5, b6, ⟨b7, b8, b9⟩⟩) (c := ⟨a0, a1, ⟨a2, a3, a4⟩, a5, a6, ⟨a7, a8, a9⟩⟩) (d := ⟨a0, a1, ⟨a2, a3, a4⟩, a5, a6, ⟨a7, a8, a9⟩⟩) ((Rk.heap_old _ _ (by simp)).trans (Rk.heap_last w11.drew _)) (HCCW.out _ (HB2W.out _ hHeld)) (HBBW.out _ (HB2W.out _ hHeld)) (HAW.out _ (HB2W.out _ hHeld)) (HAW.out _ (HB2W.out _ hHeld))) (big4 HBC.out HBB.out HBA.out HBA.out) (HFW.out _ (HB2W.out _ hHeld)) HOK.out).mono ?_
        rintro e m7 ⟨rfl, hb3⟩
        have hHeld := hHeld.trans (hb3.mono hHeld.size)
        clear hb3
        try dsimp only
        refine hK _ _ hHeld ?_
        clear K hK
        try simp only [Act.put, List.setIfInBounds_toArray, List.set_cons_zero, List.set_cons_succ]
        refine H_one' (i := 10) rfl (by kernel_rfl) fun K hK => ?_
        go_simp
        refine (pass_eq (c := (.mk 7 ⟨#[]⟩ v0 0 0 [ca, cb, cc])) (r := (rK 7 g3)) (p := ⟨pid, ⟨vp, vn, vc⟩, ⟨fp, fn, fc⟩⟩) HF2.out (HAND.out _ hHeld) (HBIG7.out) (HFW.out _ (HB2W.out _ hHeld)) HOK.out).mono ?_
        rintro e m10 ⟨rfl, hb3⟩
        have hHeld := hHeld.trans (hb3.mono hHeld.size)
        clear hb3
        try dsimp only
        refine hK _ _ hHeld ?_
        clear K hK
        try simp only [Act.put, List.setIfInBounds_toArray, List.set_cons_zero, List.set_cons_succ]
        refine H_one' (i := 11) rfl (by kernel_rfl) fun K hK => ?_
        go_simp
        refine hK _ _ hHeld ?_
        clear K hK
        try simp only [Act.put, List.setIfInBounds_toArray, List.set_cons_zero, List.set_cons_succ]
        refine H_one' (i := 12) rfl (by kernel_rfl) fun K hK => ?_
        go_simp
        refine hK _ _ hHeld ?_
        clear K hK
        try simp only [Act.put, List.setIfInBounds_toArray, List.set_cons_zero, List.set_cons_succ]
        refine H_take' (i := 13) (v := ?vv41_13) rfl (by kernel_rfl) (by kernel_rfl) (by kernel_rfl) (fun _ _ _ h => h) (Or.inl ⟨by rfl, ?hy41_13⟩) hHeld ?rest41_13
        case hy41_13 =>
          intro wy hSx
          obtain ⟨z0, z1, z2, z3, z4, z5, z6, z7, z8, z9, z10, z11, z12, z13, z14, z15, z16, z17, z18, z19, z20, z21, z22, z23, z24, z25, z26, z27, z28, z29, z30, z31, z32, z33, z34, z35, z36, z37, z38, z39, z40, z41, z42⟩ := HS9.out wy hSx
          go_simp
          all_goals with_reducible rfl
        try simp only [Act.put, List.setIfInBounds_toArray, List.set_cons_zero, List.set_cons_succ]
        refine H_take' (i := 14) (v := ?vv42_14) rfl (by kernel_rfl) (by kernel_rfl) (by kernel_rfl) (fun _ _ _ h => h) (Or.inl ⟨by rfl, ?hy42_14⟩) hHeld ?rest42_14
        case hy42_14 =>
          intro wy hSx
          obtain ⟨z0, z1, z2, z3, z4, z5, z6, z7, z8, z9, z10, z11, z12, z13, z14, z15, z16, z17, z18, z19, z20, z21, z22, z23, z24, z25, z26, z27, z28, z29, z30, z31, z32, z33, z34, z35, z36, z37, z38, z39, z40, z41, z42⟩ := HS9.out wy hSx
          go_simp
          all_goals with_reducible rfl
        try simp only [Act.put, List.setIfInBounds_toArray, List.set_cons_zero, List.set_cons_succ]
        refine H_take' (i := 15) (v := ?vv43_15) rfl (by kernel_rfl) (by kernel_rfl) (by kernel_rfl) (fun _ _ _ h => h) (Or.inl ⟨by rfl, ?hy43_15⟩) hHeld ?rest43_15
        case hy43_15 =>
          intro wy hSx
          obtain ⟨z0, z1, z2, z3, z4, z5, z6, z7, z8, z9, z10, z11, z12, z13, z14, z15, z16, z17, z18, z19, z20, z21, z22, z23, z24, z25, z26, z27, z28, z29, z30, z31, z32, z33, z34, z35, z36, z37, z38, z39, z40, z41, z42⟩ := HS9.out wy hSx
          go_simp
          all_goals with_reducible rfl
        try simp only [Act.put, List.setIfInBounds_toArray, List.set_cons_zero, List.set_cons_succ]
        refine H_take' (i := 16) (v := ?vv44_16) rfl (by kernel_rfl) (by kernel_rfl) (by kernel_rfl) (fun _ _ _ h => h) (Or.inl ⟨by rfl, ?hy44_16⟩) hHeld ?rest44_16
        case hy44_16 =>
          intro wy hSx
          obtain ⟨z0, z1, z2, z3, z4, z5, z6, z7, z8, z9, z10, z11, z12, z13, z14, z15, z16, z17, z18, z19, z20, z21, z22, z23, z24, z25, z26, z27, z28, z29, z30, z31, z32, z33, z34, z35, z36, z37, z38, z39, z40, z41, z42⟩ := HS9.out wy hSx
          go_simp
          all_goals with_reducible rfl
        try simp only [Act.put, List.setIfInBounds_toArray, List.set_cons_zero, List.set_cons_succ]
        refine H_take' (i := 19) (v := ?vv45_19) rfl (by kernel_rfl) (by kernel_rfl) (by kernel_rfl) (fun _ _ _ h => h) (Or.inl ⟨by rfl, ?hy45_19⟩) hHeld ?rest45_19
        case hy45_19 =>
          intro wy hSx
          obtain ⟨z0, z1, z2, z3, z4, z5, z6, z7, z8, z9, z10, z11, z12, z13, z14, z15, z16, z17, z18, z19, z20, z21, z22, z23, z24, z25, z26, z27, z28, z29, z30, z31, z32, z33, z34, z35, z36, z37, z38, z39, z40, z41, z42⟩ := HS9.out wy hSx
          go_simp
          all_goals with_reducible rfl
        try simp only [Act.put, List.setIfInBounds_toArray, List.set_cons_zero, List.set_cons_succ]
        refine H_take' (i := 21) (v := ?vv46_21) rfl (by kernel_rfl) (by kernel_rfl) (by kernel_rfl) (fun _ _ _ h => h) (Or.inl ⟨by rfl, ?hy46_21⟩) hHeld ?rest46_21
        case hy46_21 =>
          intro wy hSx
          obtain ⟨z0, z1, z2, z3, z4, z5, z6, z7, z8, z9, z10, z11, z12, z13, z14, z15, z16, z17, z18, z19, z20, z21, z22, z23, z24, z25, z26, z27, z28, z29, z30, z31, z32, z33, z34, z35, z36, z37, z38, z39, z40, z41, z42⟩ := HS9.out wy hSx
          go_simp
          all_goals with_reducible rfl
        try simp only [Act.put, List.setIfInBounds_toArray, List.set_cons_zero, List.set_cons_succ]
        refine H_take' (i := 22) (v := ?vv47_22) rfl (by kernel_rfl) (by kernel_rfl) (by kernel_rfl) (fun _ _ _ h => h) (Or.inl ⟨by rfl, ?hy47_22⟩) hHeld ?rest47_22
        case hy47_22 =>
          intro wy hSx
          obtain ⟨z0, z1, z2, z3, z4, z5, z6, z7, z8, z9, z10, z11, z12, z13, z14, z15, z16, z17, z18, z19, z20, z21, z22, z23, z24, z25, z26, z27, z28, z29, z30, z31, z32, z33, z34, z35, z36, z37, z38, z39, z40, z41, z42⟩ := HS9.out wy hSx
          go_simp
          all_goals with_reducible rfl
        try simp only [Act.put, List.setIfInBounds_toArray, List.set_cons_zero, List.set_cons_succ]
        refine H_one' (i := 17) rfl (by kernel_rfl) fun K hK => ?_
        go_simp
        have hHeld := hHeld.trans ((Rk.fresh_alloc m10 (.cells #[.int .i64 c0, .string c1, .int .i64 c2, .int .i64 c3, .string c4, .int .i64 c5, .int .i64 c6, .slice c7 c8 c9, .int .i64 b0, .string b1, .int .i64 b2, .int .i64 b3, .string b4, .int .i64 b5, .int .i64 b6, .slice b7 b8 b9, .int .i64 a0, .string a1, .int .i64 a2, .int .i64 a3, .string a4, .int .i64 a5, .int .i64 a6, .slice a7 a8 a9, .int .i64 b0, .string b1, .int .i64 b2, .int .i64 b3, .string b4, .int .i64 b5, .int .i64 b6, .slice b7 b8 b9] 26)).mono hHeld.size)
        try dsimp only
        refine hK _ _ hHeld ?_
        clear K hK
        try simp only [Act.put, List.setIfInBounds_toArray, List.set_cons_zero, List.set_cons_succ]
        refine H_one' (i := 18) rfl (by kernel_rfl) fun K hK => ?_
        go_simp
        refine (of_any 8 _ 4 4 _).mono ?_
        rintro e kG ⟨rfl, rfl⟩
        have hHeld := hHeld.trans ((Rk.fresh_alloc _ (cobj ⟨8, ⟨#[]⟩, v0, 0, 0, ⟨some ⟨m10.heap.size, 0, none⟩, 4, 4⟩⟩)).mono hHeld.size)
        try dsimp only
        refine hK _ _ hHeld ?_
        clear K hK
        try simp only [Act.put, List.setIfInBounds_toArray, List.set_cons_zero, List.set_cons_succ]
        refine H_one' (i := 20) rfl (by kernel_rfl) fun K hK => ?_
        go_simp
        refine (pass_eq (c := .mk 8 ⟨#[]⟩ v0 0 0 [cc, cb, ca, cb]) (r := ⟨8, ⟨#[]⟩, v0, 0, 0, ⟨some ⟨m10.heap.size, 0, none⟩, 4, 4⟩⟩) (p := ⟨pid, ⟨vp, vn, vc⟩, ⟨fp, fn, fc⟩⟩) HF3.out (of4_at (a := ⟨c0, c1, ⟨c2, c3, c4⟩, c5, c6, ⟨c7, c8, c9⟩⟩) (b := ⟨b0, b1, ⟨b2, b3, b4⟩, b5, b6, ⟨b7, b8, b9⟩⟩) (c := ⟨a0, a1, ⟨a2, a3, a4⟩, a5, a6, ⟨a7, a8, a9⟩⟩) (d := ⟨b0, b1, ⟨b2, b3, b4⟩, b5, b6, ⟨b7, b8, b9⟩⟩) ((Rk.heap_old _ _ (by simp)).trans (Rk.heap_last m10 _)) (HCCW.out _ (HB2W.out _ hHeld)) (HBBW.out _ (HB2W.out _ hHeld)) (HAW.out _ (HB2W.out _ hHeld)) (HBBW.out _ (HB2W.out _ hHeld))) (big4 HBC.out HBB.out HBA.out HBB.out) (HFW.out _ (HB2W.out _ hHeld)) HOK.out).mono ?_
        rintro e m20 ⟨rfl, hb3⟩
        have hHeld := hHeld.trans (hb3.mono hHeld.size)
        clear hb3
        try dsimp only
        refine hK _ _ hHeld ?_
        clear K hK
        try simp only [Act.put, List.setIfInBounds_toArray, List.set_cons_zero, List.set_cons_succ]
        refine H_one' (i := 23) rfl (by kernel_rfl) fun K hK => ?_
        go_simp
        refine (pass_eq (c := (.mk 8 ⟨#[]⟩ v0 0 0 [ca, cb, cc])) (r := (rK 8 g8)) (p := ⟨pid, ⟨vp, vn, vc⟩, ⟨fp, fn, fc⟩⟩) HF4.out (HOR.out _ hHeld) (HBIG8.out) (HFW.out _ (HB2W.out _ hHeld)) HOK.out).mono ?_
        rintro e m23 ⟨rfl, hb3⟩
        have hHeld := hHeld.trans (hb3.mono hHeld.size)
        clear hb3
        try dsimp only
        refine hK _ _ hHeld ?_
        clear K hK
        try simp only [Act.put, List.setIfInBounds_toArray, List.set_cons_zero, List.set_cons_succ]
        refine H_one' (i := 24) rfl (by kernel_rfl) fun K hK => ?_
        go_simp
        refine hK _ _ hHeld ?_
        clear K hK
        try simp only [Act.put, List.setIfInBounds_toArray, List.set_cons_zero, List.set_cons_succ]
        refine H_one' (i := 25) rfl (by kernel_rfl) fun K hK => ?_
        go_simp
        refine hK _ _ hHeld ?_
        clear K hK
        try simp only [Act.put, List.setIfInBounds_toArray, List.set_cons_zero, List.set_cons_succ]
        refine H_one' (i := 26) rfl (by kernel_rfl) fun K hK => ?_
        go_simp
        refine hK _ _ hHeld ?_
        clear K hK
        try simp only [Act.put, List.setIfInBounds_toArray, List.set_cons_zero, List.set_cons_succ]
        refine H_take' (i := 27) (v := ?vv48_27) rfl (by kernel_rfl) (by kernel_rfl) (by kernel_rfl) (fun _ _ _ h => h) (Or.inl ⟨by rfl, ?hy48_27⟩) hHeld ?rest48_27
        case hy48_27 =>
          intro wy hSx
          obtain ⟨z0, z1, z2, z3, z4, z5, z6, z7, z8, z9, z10, z11, z12, z13, z14, z15, z16, z17, z18, z19, z20, z21, z22, z23, z24, z25, z26, z27, z28, z29, z30, z31, z32, z33, z34, z35, z36, z37, z38, z39, z40, z41, z42⟩ := HS9.out wy hSx
          go_simp
          all_goals with_reducible rfl
        try simp only [Act.put, List.setIfInBounds_toArray, List.set_cons_zero, List.set_cons_succ]
        refine H_take' (i := 29) (v := ?vv49_29) rfl (by kernel_rfl) (by kernel_rfl) (by kernel_rfl) (fun _ _ _ h => h) (Or.inl ⟨by rfl, ?hy49_29⟩) hHeld ?rest49_29
        case hy49_29 =>
          intro wy hSx
          obtain ⟨z0, z1, z2, z3, z4, z5, z6, z7, z8, z9, z10, z11, z12, z13, z14, z15, z16, z17, z18, z19, z20, z21, z22, z23, z24, z25, z26, z27, z28, z29, z30, z31, z32, z33, z34, z35, z36, z37, z38, z39, z40, z41, z42⟩ := HS9.out wy hSx
          go_simp
          all_goals with_reducible rfl
        try simp only [Act.put, List.setIfInBounds_toArray, List.set_cons_zero, List.set_cons_succ]
        refine H_take' (i := 32) (v := ?vv50_32) rfl (by kernel_rfl) (by kernel_rfl) (by kernel_rfl) (fun _ _ _ h => h) (Or.inl ⟨by rfl, ?hy50_32⟩) hHeld ?rest50_32
        case hy50_32 =>
          intro wy hSx
          obtain ⟨z0, z1, z2, z3, z4, z5, z6, z7, z8, z9, z10, z11, z12, z13, z14, z15, z16, z17, z18, z19, z20, z21, z22, z23, z24, z25, z26, z27, z28, z29, z30, z31, z32, z33, z34, z35, z36, z37, z38, z39, z40, z41, z42⟩ := HS9.out wy hSx
          go_simp
          all_goals with_reducible rfl
        try simp only [Act.put, List.setIfInBounds_toArray, List.set_cons_zero, List.set_cons_succ]
        refine H_take' (i := 35) (v := ?vv51_35) rfl (by kernel_rfl) (by kernel_rfl) (by kernel_rfl) (fun _ _ _ h => h) (Or.inl ⟨by rfl, ?hy51_35⟩) hHeld ?rest51_35
        case hy51_35 =>
          intro wy hSx
          obtain ⟨z0, z1, z2, z3, z4, z5, z6, z7, z8, z9, z10, z11, z12, z13, z14, z15, z16, z17, z18, z19, z20, z21, z22, z23, z24, z25, z26, z27, z28, z29, z30, z31, z32, z33, z34, z35, z36, z37, z38, z39, z40, z41, z42⟩ := HS9.out wy hSx
          go_simp
          all_goals with_reducible rfl
        try simp only [Act.put, List.setIfInBounds_toArray, List.set_cons_zero, List.set_cons_succ]
        refine H_one' (i := 28) rfl (by kernel_rfl) fun K hK => ?_
        go_simp
        refine (size_eq (c := (.mk 7 ⟨#[]⟩ v0 0 0 [ca, cb, cc])) (r := (rK 7 g3)) HG1.out (HAND.out _ hHeld) (HBIG7.out)).mono ?_
        rintro e m28 ⟨rfl, hb3⟩
        have hHeld := hHeld.trans (hb3.mono hHeld.size)
        clear hb3
        try dsimp only
        refine hK _ _ hHeld ?_
        clear K hK
        try simp only [Act.put, List.setIfInBounds_toArray, List.set_cons_zero, List.set_cons_succ]
        refine H_one' (i := 30) rfl (by kernel_rfl) fun K hK => ?_
        go_simp
        refine (size_eq (c := ca) (r := ⟨a0, a1, ⟨a2, a3, a4⟩, a5, a6, ⟨a7, a8, a9⟩⟩) HG2.out (HAW.out _ (HB2W.out _ hHeld)) (HBA.out)).mono ?_
        rintro e m30 ⟨rfl, hb3⟩
        have hHeld := hHeld.trans (hb3.mono hHeld.size)
        clear hb3
        try dsimp only
        refine hK _ _ hHeld ?_
        clear K hK
        try simp only [Act.put, List.setIfInBounds_toArray, List.set_cons_zero, List.set_cons_succ]
        refine H_take' (i := 31) (v := ?vv52_31) rfl (by kernel_rfl) (by kernel_rfl) (by kernel_rfl) (fun _ _ _ h => h) (Or.inl ⟨by rfl, ?hy52_31⟩) hHeld ?rest52_31
        case hy52_31 =>
          intro wy hSx
          obtain ⟨z0, z1, z2, z3, z4, z5, z6, z7, z8, z9, z10, z11, z12, z13, z14, z15, z16, z17, z18, z19, z20, z21, z22, z23, z24, z25, z26, z27, z28, z29, z30, z31, z32, z33, z34, z35, z36, z37, z38, z39, z40, z41, z42⟩ := HS9.out wy hSx
          go_simp
          all_goals with_reducible rfl
        try simp only [Act.put, List.setIfInBounds_toArray, List.set_cons_zero, List.set_cons_succ]
        refine H_one' (i := 33) rfl (by kernel_rfl) fun K hK => ?_
        go_simp
        refine (size_eq (c := cb) (r := ⟨b0, b1, ⟨b2, b3, b4⟩, b5, b6, ⟨b7, b8, b9⟩⟩) HG3.out (HBBW.out _ (HB2W.out _ hHeld)) (HBB.out)).mono ?_
        rintro e m33 ⟨rfl, hb3⟩
        have hHeld := hHeld.trans (hb3.mono hHeld.size)
        clear hb3
        try dsimp only
        refine hK _ _ hHeld ?_
        clear K hK
        try simp only [Act.put, List.setIfInBounds_toArray, List.set_cons_zero, List.set_cons_succ]
        refine H_take' (i := 34) (v := ?vv53_34) rfl (by kernel_rfl) (by kernel_rfl) (by kernel_rfl) (fun _ _ _ h => h) (Or.inl ⟨by rfl, ?hy53_34⟩) hHeld ?rest53_34
        case hy53_34 =>
          intro wy hSx
          obtain ⟨z0, z1, z2, z3, z4, z5, z6, z7, z8, z9, z10, z11, z12, z13, z14, z15, z16, z17, z18, z19, z20, z21, z22, z23, z24, z25, z26, z27, z28, z29, z30, z31, z32, z33, z34, z35, z36, z37, z38, z39, z40, z41, z42⟩ := HS9.out wy hSx
          go_simp
          all_goals with_reducible rfl
        try simp only [Act.put, List.setIfInBounds_toArray, List.set_cons_zero, List.set_cons_succ]
        refine H_one' (i := 36) rfl (by kernel_rfl) fun K hK => ?_
        go_simp
        refine (size_eq (c := cc) (r := ⟨c0, c1, ⟨c2, c3, c4⟩, c5, c6, ⟨c7, c8, c9⟩⟩) HG4.out (HCCW.out _ (HB2W.out _ hHeld)) (HBC.out)).mono ?_
        rintro e m36 ⟨rfl, hb3⟩
        have hHeld := hHeld.trans (hb3.mono hHeld.size)
        clear hb3
        try dsimp only
        refine hK _ _ hHeld ?_
        clear K hK
        try simp only [Act.put, List.setIfInBounds_toArray, List.set_cons_zero, List.set_cons_succ]
        refine H_one' (i := 37) rfl (by kernel_rfl) fun K hK => ?_
        go_simp
        refine hK _ _ hHeld ?_
        clear K hK
        try simp only [Act.put, List.setIfInBounds_toArray, List.set_cons_zero, List.set_cons_succ]
        refine H_one' (i := 38) rfl (by kernel_rfl) fun K hK => ?_
        go_simp
        refine hK _ _ hHeld ?_
        clear K hK
        try simp only [Act.put, List.setIfInBounds_toArray, List.set_cons_zero, List.set_cons_succ]
        refine H_one' (i := 39) rfl (by kernel_rfl) fun K hK => ?_
        go_simp
        refine hK _ _ hHeld ?_
        clear K hK
        try simp only [Act.put, List.setIfInBounds_toArray, List.set_cons_zero, List.set_cons_succ]
        refine H_one' (i := 40) rfl (by kernel_rfl) fun K hK => ?_
        go_simp
        refine hK _ _ hHeld ?_
        clear K hK
        try simp only [Act.put, List.setIfInBounds_toArray, List.set_cons_zero, List.set_cons_succ]
        refine H_one' (i := 41) rfl (by kernel_rfl) fun K hK => ?_
        go_simp
        refine (sure_any _).mono ?_
        rintro e m41 ⟨rfl, hb3⟩
        have hHeld := hHeld.trans (hb3.mono hHeld.size)
        clear hb3
        try dsimp only
        refine hK _ _ hHeld ?_
        clear K hK
        try simp only [Act.put, List.setIfInBounds_toArray, List.set_cons_zero, List.set_cons_succ]
        refine H_one' (i := 42) rfl (by kernel_rfl) fun K hK => ?_
        go_simp
        refine hK _ _ hHeld ?_
        clear K hK
        try simp only [Act.put, List.setIfInBounds_toArray, List.set_cons_zero, List.set_cons_succ]
        refine H_one' (i := 43) rfl (by kernel_rfl) fun K hK => ?_
        go_simp
        refine hK _ _ hHeld ?_
        clear K hK
        try simp only [Act.put, List.setIfInBounds_toArray, List.set_cons_zero, List.set_cons_succ]
        refine wpAnyH_done (by kernel_rfl) ?_ _
        have HBF := Lib.hid (HBW.out.trans ((HB9.out.trans (hHeld.mono HB9.out.size)).mono HBW.out.size))
        clear hHeld ga go'
        go_wp2_with fail
        go_ret
        exact ⟨rfl, HBF.out⟩
end Ft
end Go.Proofs.YtclmalaomofahaaGreatDoor
