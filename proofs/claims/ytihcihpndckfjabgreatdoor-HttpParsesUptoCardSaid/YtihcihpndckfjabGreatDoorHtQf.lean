/- The document's own answers' call first. Conditions: those that each theorem names. -/
import Derived.Test.YtihcihpndckfjabGreatDoorHtQl
import Derived.Test.YtihcihpndckfjabGreatDoorHtPa
import Derived.Test.YtihcihpndckfjabGreatDoorHtSure
import Derived.Outline
import Derived.IntWalk
namespace Go.Proofs.YtihcihpndckfjabGreatDoor
set_option linter.unusedVariables false
open Go Go.RowKit Go.Shelf Ht

/-- What first answers. -/
def FirstV (l : List UInt8) (w : World) (e : Ending) (w' : World) : Prop :=
  ∃ (m p : ByteArray) (ok : Bool), e = .returned (.tuple #[.agg #[.string m, .string p, .string ⟨#[]⟩], .bool ok]) ∧ (cutFirst l).2.2 = ok ∧ (ok = true → m = B (cutFirst l).1 ∧ p = B (cutFirst l).2.1) ∧ Below w.heap.size w w'
theorem FirstV.no {l : List UInt8} {w w' : World} (h : (cutFirst l).2.2 = false) (hb : Below w.heap.size w w') : FirstV l w (.returned (.tuple #[.agg #[.string ⟨#[]⟩, .string ⟨#[]⟩, .string ⟨#[]⟩], .bool false])) w' :=
  ⟨_, _, _, rfl, h, (fun h => by cases h), hb⟩
/-- The world behind the two blocks of first: the result's, and the request's. -/
structure Two (w : World) (m p : ByteArray) (x : World) : Prop where
  below : Below w.heap.size w x
  res : x.heap[w.heap.size]? = some (.cells #[.string ⟨#[]⟩, .string ⟨#[]⟩, .string ⟨#[]⟩] 23 (0, 0))
  req : x.heap[w.heap.size + 1]? = some (.cells #[.string m, .string p, .string ⟨#[]⟩] 23 (0, 0))
theorem Two.new (w : World) (m p : ByteArray) : Two w m p (((w.alloc (.cells #[.string ⟨#[]⟩, .string ⟨#[]⟩, .string ⟨#[]⟩] 23)).alloc (.cells #[.string m, .string p, .string ⟨#[]⟩] 23)).drew) := by
  have b1 := heap_alloc_new (w.alloc (.cells #[.string ⟨#[]⟩, .string ⟨#[]⟩, .string ⟨#[]⟩] 23)) (.cells #[.string m, .string p, .string ⟨#[]⟩] 23)
  have b0 := Below.heap_alloc (w.alloc (.cells #[.string ⟨#[]⟩, .string ⟨#[]⟩, .string ⟨#[]⟩] 23)) (.cells #[.string m, .string p, .string ⟨#[]⟩] 23) w.heap.size (by simp)
  rw [show (w.alloc (.cells #[.string ⟨#[]⟩, .string ⟨#[]⟩, .string ⟨#[]⟩] 23)).heap.size = w.heap.size + 1 by simp] at b1
  exact ⟨below_then (below_then (below_alloc w _) (below_alloc _ _)) (below_drewN _ 1), b0.trans (heap_alloc_new _ _), b1⟩
theorem Two.drew {w x : World} {m p : ByteArray} (h : Two w m p x) : Two w m p x.drew := ⟨below_then h.below (below_drewN x 1), h.res, h.req⟩
theorem Two.cells {w x : World} {m p : ByteArray} (h : Two w m p x) :
    (x.cell? ⟨w.heap.size + 1, 0, none⟩ = some (.string m) ∧ x.cell? ⟨w.heap.size + 1, 1, none⟩ = some (.string p) ∧ x.cell? ⟨w.heap.size + 1, 2, none⟩ = some (.string ⟨#[]⟩)) ∧
    (x.cell? ⟨w.heap.size, 0, none⟩ = some (.string ⟨#[]⟩) ∧ x.cell? ⟨w.heap.size, 1, none⟩ = some (.string ⟨#[]⟩) ∧ x.cell? ⟨w.heap.size, 2, none⟩ = some (.string ⟨#[]⟩)) ∧
    x.frozen? ⟨w.heap.size, 0, none⟩ = false ∧ x.frozen? ⟨w.heap.size, 1, none⟩ = false ∧ x.frozen? ⟨w.heap.size, 2, none⟩ = false := by
  have h1 := h.res
  have h2 := h.req
  refine ⟨⟨?_, ?_, ?_⟩, ⟨?_, ?_, ?_⟩, ?_, ?_, ?_⟩ <;> simp [World.cell?, World.frozen?, h1, h2]
set_option maxHeartbeats 2000000 in
set_option maxRecDepth 100000 in
theorem rfirst_any (s : ByteArray) (hs : s.size ≤ 16777215) (w : World) (G : Gh w) :
    Calls Tryz.prog 20 #[.string s] w (FirstV s.data.toList w) := by
  have P0 := Lib.hid (Pa.new G)
  obtain ⟨d0, d1, d2, k0, k1, k2⟩ := P0.out.cells
  have H1 : Hid (∀ w, Calls Tryz.prog 19 #[.string s, .string ⟨#[32]⟩, .int .i64 0] w fun e w' => e = .returned (.int .i64 (findF s.data.toList [32] 0)) ∧ w' = w) :=
    Lib.hid (fun w => rfind_any s ⟨#[32]⟩ 0 hs (by decide) (by decide) (Nat.zero_le _) w)
  rcases find_cases s.data.toList [32] 0 with ⟨h1, -⟩ | ⟨a, h1, -⟩
  · have HE := Lib.hid (first_one h1)
    rw [h1] at H1
    clear h1 G
    go_enter Tryz.func20, Tryz.ntmps20
    go_wp2_with fail
    refine (H1.out _).mono ?_
    rintro e w1 ⟨rfl, rfl⟩
    go_wp2_with fail
    refine bodyPost_ret (v := .tuple #[.agg #[.string ⟨#[]⟩, .string ⟨#[]⟩, .string ⟨#[]⟩], .bool false]) (by simp [results, Tryz.results20, go_sem, d0, d1, d2]) rfl (FirstV.no HE.out P0.out.below)
  rw [Nat.zero_add] at h1
  have hal : a + 1 ≤ s.size := by
    have hr := (occ1 _ _ _).1 (occ_of ((find_zero s.data.toList [32]).symm.trans h1)).2.1
    have hlt := (List.getElem?_eq_some_iff.1 hr).1
    rw [Lib.size_eq]
    exact hlt
  have H2 : Hid (∀ w, Calls Tryz.prog 19 #[.string s, .string ⟨#[32]⟩, .int .i64 ((a : Int) + 1)] w fun e w' => e = .returned (.int .i64 (findF s.data.toList [32] (a + 1))) ∧ w' = w) :=
    Lib.hid (fun w => rfind_any s ⟨#[32]⟩ (a + 1) hs (by decide) (by decide) hal w)
  rw [h1] at H1
  have HA := Lib.hid h1
  clear h1
  rcases find_cases s.data.toList [32] (a + 1) with ⟨h2, -⟩ | ⟨i, h2, -⟩
  · have HE := Lib.hid (first_two HA.out h2)
    rw [h2] at H2
    clear h2 G
    go_enter Tryz.func20, Tryz.ntmps20
    go_wp2_with fail
    refine (H1.out _).mono ?_
    rintro e w1 ⟨rfl, rfl⟩
    go_wp2_with fail
    refine (H2.out _).mono ?_
    rintro e w1 ⟨rfl, rfl⟩
    go_wp2_with fail
    refine bodyPost_ret (v := .tuple #[.agg #[.string ⟨#[]⟩, .string ⟨#[]⟩, .string ⟨#[]⟩], .bool false]) (by simp [results, Tryz.results20, go_sem, d0, d1, d2]) rfl (FirstV.no HE.out P0.out.below)
  obtain ⟨b, hb⟩ : ∃ b, b = a + 1 + i := ⟨_, rfl⟩
  rw [← hb] at h2
  obtain ⟨hab, hbl, hcf⟩ := first_three HA.out h2
  rw [← Lib.size_eq] at hbl
  rw [h2] at H2
  have HCF := Lib.hid hcf
  have hx1 := take_B s a (by omega)
  have hx2 := mid_B s (a + 1) b
  have hx3 := drop_B s (b + 1)
  have HM : Hid (∀ w, Calls Tryz.prog 25 #[.string (B (s.data.toList.take a))] w fun e w' => e = .returned (.bool (methodOk (s.data.toList.take a))) ∧ w' = w) :=
    Lib.hid (fun w => by have := rmethod_any (B (s.data.toList.take a)) (by rw [B_size, List.length_take]; unfold maxLen; omega) w; rwa [B_data] at this)
  have HP : Hid (∀ w, Calls Tryz.prog 26 #[.string (B ((s.data.toList.take b).drop (a + 1)))] w fun e w' => e = .returned (.bool (pathOk ((s.data.toList.take b).drop (a + 1)))) ∧ w' = w) :=
    Lib.hid (fun w => by have := rpath_any (B ((s.data.toList.take b).drop (a + 1))) (by rw [B_size, List.length_drop, List.length_take]; unfold maxLen; omega) w; rwa [B_data] at this)
  have q0 : ((B (s.data.toList.drop (b + 1))).toList == [72, 84, 84, 80, 47, 49, 46, 49]) = decide (s.data.toList.drop (b + 1) = ver) := by rw [B_list, Bool.eq_iff_iff, beq_iff_eq, decide_eq_true_iff]; rfl
  have i1 : (0 : Int) ≤ (a : Int) + 1 := by omega
  have i2 : (a : Int) + 1 ≤ b := by omega
  have i3 : (b : Int) ≤ s.size := by omega
  have i4 : (b : Int) + 1 ≤ s.size := by omega
  have i5 : (a : Int) ≤ s.size := by omega
  have i6 : (0 : Int) ≤ (b : Int) + 1 := by omega
  have i7 : IntKind.i64.wrap ((b : Int) + 1) = (b : Int) + 1 := IntWalk.i64_in _ (by omega)
  clear h2 hcf hb G
  go_enter Tryz.func20, Tryz.ntmps20
  go_wp2_with fail
  refine (H1.out _).mono ?_
  rintro e w1 ⟨rfl, rfl⟩
  go_wp2_with fail
  refine (H2.out _).mono ?_
  rintro e w1 ⟨rfl, rfl⟩
  go_wp2_with fail
  go_region
  go_wp2_with fail
  generalize hm0 : B (s.data.toList.take a) = m0 at *
  generalize hp0 : B ((s.data.toList.take b).drop (a + 1)) = p0 at *
  generalize B (s.data.toList.drop (b + 1)) = v0 at *
  have hT := Two.new w m0 p0
  generalize ((w.alloc (.cells #[.string ⟨#[]⟩, .string ⟨#[]⟩, .string ⟨#[]⟩] 23)).alloc (.cells #[.string m0, .string p0, .string ⟨#[]⟩] 23)).drew = W at *
  obtain ⟨⟨c0, c1, c2⟩, ⟨e0, e1, e2⟩, f0, f1, f2⟩ := hT.cells
  have HT := Lib.hid hT
  have HF : Hid (∀ (ok : Bool) (w' : World), (methodOk (s.data.toList.take a) && pathOk ((s.data.toList.take b).drop (a + 1)) && decide (s.data.toList.drop (b + 1) = ver)) = ok → Below w.heap.size w w' → FirstV s.data.toList w (.returned (.tuple #[.agg #[.string m0, .string p0, .string ⟨#[]⟩], .bool ok])) w') :=
    Lib.hid (fun ok w' h hb => ⟨m0, p0, ok, rfl, by rw [HCF.out]; exact h, fun _ => by rw [HCF.out]; exact ⟨hm0.symm, hp0.symm⟩, hb⟩)
  clear HCF hm0 hp0 d0 d1 d2 k0 k1 k2 hT
  generalize methodOk (s.data.toList.take a) = x1 at *
  generalize pathOk ((s.data.toList.take b).drop (a + 1)) = x2 at *
  generalize decide (s.data.toList.drop (b + 1) = ver) = x3 at *
  cases x1 with
  | false =>
    refine wp_region_held_drew (S := (fun x => x.cell? ⟨w.heap.size + 1, 0, none⟩ = some (.string m0) ∧ x.cell? ⟨w.heap.size + 1, 1, none⟩ = some (.string p0) ∧ x.cell? ⟨w.heap.size + 1, 2, none⟩ = some (.string ⟨#[]⟩))) (by kernel_rfl) ⟨c0, c1, c2⟩ (fun hHeld => ?_)
    refine wpAnyH_take (i := 0) (v := .agg #[.string m0, .string p0, .string ⟨#[]⟩]) rfl (by kernel_rfl) (by kernel_rfl) (by kernel_rfl) (fun _ _ _ h => h) (Or.inl ⟨by rfl, fun x hx => by obtain ⟨g0, g1, g2⟩ := hx; go_simp⟩) hHeld ?_
    try simp only [Act.put, List.getElem_toArray, List.getElem_cons_zero, List.getElem_cons_succ, List.setIfInBounds_toArray, List.set_cons_zero, List.set_cons_succ]
    refine wpAnyH_take (i := 1) (v := .pointer (some ⟨w.heap.size + 1, 0, none⟩)) rfl (by kernel_rfl) (by kernel_rfl) (by kernel_rfl) (fun _ _ _ h => h) (Or.inl ⟨by rfl, fun x hx => by obtain ⟨g0, g1, g2⟩ := hx; go_simp⟩) hHeld ?_
    try simp only [Act.put, List.getElem_toArray, List.getElem_cons_zero, List.getElem_cons_succ, List.setIfInBounds_toArray, List.set_cons_zero, List.set_cons_succ]
    refine wpAnyH_take (i := 2) (v := .string m0) rfl (by kernel_rfl) (by kernel_rfl) (by kernel_rfl) (fun _ _ _ h => h) (Or.inl ⟨by rfl, fun x hx => by obtain ⟨g0, g1, g2⟩ := hx; go_simp⟩) hHeld ?_
    try simp only [Act.put, List.getElem_toArray, List.getElem_cons_zero, List.getElem_cons_succ, List.setIfInBounds_toArray, List.set_cons_zero, List.set_cons_succ]
    refine wpAnyH_ready (rs := [3]) (by kernel_rfl) (by simp) ?_
    refine AllReadyH.cons rfl (fun K hK => ?_) AllReadyH.nil
    go_simp
    go_at_call 25
    refine (HM.out _).mono ?_
    rintro e w3 ⟨rfl, rfl⟩
    go_wp2_with fail
    refine hK.out _ _ hHeld (fun hHeld => ?_)
    clear hK K
    try simp only [Act.put, List.getElem_toArray, List.getElem_cons_zero, List.getElem_cons_succ, List.setIfInBounds_toArray, List.set_cons_zero, List.set_cons_succ]
    refine wpAnyH_take (i := 4) (v := .bool false) rfl (by kernel_rfl) (by kernel_rfl) (by kernel_rfl) (fun _ _ _ h => h) (Or.inl ⟨by rfl, fun x hx => by obtain ⟨g0, g1, g2⟩ := hx; go_simp⟩) hHeld ?_
    try simp only [Act.put, List.getElem_toArray, List.getElem_cons_zero, List.getElem_cons_succ, List.setIfInBounds_toArray, List.set_cons_zero, List.set_cons_succ]
    refine wpAnyH_take (i := 5) (v := undef) rfl (by kernel_rfl) (by kernel_rfl) (by kernel_rfl) (fun _ _ _ h => h) (Or.inr ⟨by rfl, rfl⟩) hHeld ?_
    try simp only [Act.put, List.getElem_toArray, List.getElem_cons_zero, List.getElem_cons_succ, List.setIfInBounds_toArray, List.set_cons_zero, List.set_cons_succ]
    refine wpAnyH_take (i := 6) (v := undef) rfl (by kernel_rfl) (by kernel_rfl) (by kernel_rfl) (fun _ _ _ h => h) (Or.inr ⟨by rfl, rfl⟩) hHeld ?_
    try simp only [Act.put, List.getElem_toArray, List.getElem_cons_zero, List.getElem_cons_succ, List.setIfInBounds_toArray, List.set_cons_zero, List.set_cons_succ]
    refine wpAnyH_take (i := 7) (v := undef) rfl (by kernel_rfl) (by kernel_rfl) (by kernel_rfl) (fun _ _ _ h => h) (Or.inr ⟨by rfl, rfl⟩) hHeld ?_
    try simp only [Act.put, List.getElem_toArray, List.getElem_cons_zero, List.getElem_cons_succ, List.setIfInBounds_toArray, List.set_cons_zero, List.set_cons_succ]
    refine wpAnyH_take (i := 8) (v := .bool false) rfl (by kernel_rfl) (by kernel_rfl) (by kernel_rfl) (fun _ _ _ h => h) (Or.inl ⟨by rfl, fun x hx => by obtain ⟨g0, g1, g2⟩ := hx; go_simp⟩) hHeld ?_
    try simp only [Act.put, List.getElem_toArray, List.getElem_cons_zero, List.getElem_cons_succ, List.setIfInBounds_toArray, List.set_cons_zero, List.set_cons_succ]
    refine wpAnyH_take (i := 9) (v := .bool false) rfl (by kernel_rfl) (by kernel_rfl) (by kernel_rfl) (fun _ _ _ h => h) (Or.inl ⟨by rfl, fun x hx => by obtain ⟨g0, g1, g2⟩ := hx; go_simp⟩) hHeld ?_
    try simp only [Act.put, List.getElem_toArray, List.getElem_cons_zero, List.getElem_cons_succ, List.setIfInBounds_toArray, List.set_cons_zero, List.set_cons_succ]
    refine wpAnyH_take (i := 10) (v := undef) rfl (by kernel_rfl) (by kernel_rfl) (by kernel_rfl) (fun _ _ _ h => h) (Or.inr ⟨by rfl, rfl⟩) hHeld ?_
    try simp only [Act.put, List.getElem_toArray, List.getElem_cons_zero, List.getElem_cons_succ, List.setIfInBounds_toArray, List.set_cons_zero, List.set_cons_succ]
    refine wpAnyH_take (i := 11) (v := undef) rfl (by kernel_rfl) (by kernel_rfl) (by kernel_rfl) (fun _ _ _ h => h) (Or.inr ⟨by rfl, rfl⟩) hHeld ?_
    try simp only [Act.put, List.getElem_toArray, List.getElem_cons_zero, List.getElem_cons_succ, List.setIfInBounds_toArray, List.set_cons_zero, List.set_cons_succ]
    refine wpAnyH_take (i := 12) (v := undef) rfl (by kernel_rfl) (by kernel_rfl) (by kernel_rfl) (fun _ _ _ h => h) (Or.inr ⟨by rfl, rfl⟩) hHeld ?_
    try simp only [Act.put, List.getElem_toArray, List.getElem_cons_zero, List.getElem_cons_succ, List.setIfInBounds_toArray, List.set_cons_zero, List.set_cons_succ]
    refine wpAnyH_take (i := 13) (v := undef) rfl (by kernel_rfl) (by kernel_rfl) (by kernel_rfl) (fun _ _ _ h => h) (Or.inr ⟨by rfl, rfl⟩) hHeld ?_
    try simp only [Act.put, List.getElem_toArray, List.getElem_cons_zero, List.getElem_cons_succ, List.setIfInBounds_toArray, List.set_cons_zero, List.set_cons_succ]
    refine wpAnyH_take (i := 14) (v := undef) rfl (by kernel_rfl) (by kernel_rfl) (by kernel_rfl) (fun _ _ _ h => h) (Or.inr ⟨by rfl, rfl⟩) hHeld ?_
    try simp only [Act.put, List.getElem_toArray, List.getElem_cons_zero, List.getElem_cons_succ, List.setIfInBounds_toArray, List.set_cons_zero, List.set_cons_succ]
    refine wpAnyH_take (i := 15) (v := .bool false) rfl (by kernel_rfl) (by kernel_rfl) (by kernel_rfl) (fun _ _ _ h => h) (Or.inl ⟨by rfl, fun x hx => by obtain ⟨g0, g1, g2⟩ := hx; go_simp⟩) hHeld ?_
    try simp only [Act.put, List.getElem_toArray, List.getElem_cons_zero, List.getElem_cons_succ, List.setIfInBounds_toArray, List.set_cons_zero, List.set_cons_succ]
    refine wpAnyH_ready (rs := [16]) (by kernel_rfl) (by simp) ?_
    refine AllReadyH.cons rfl (fun K hK => ?_) AllReadyH.nil
    go_simp
    refine hK.out _ _ (by simp [*, World.cell?_setCell_far]) (fun hHeld => ?_)
    clear hK K
    try simp only [Act.put, List.getElem_toArray, List.getElem_cons_zero, List.getElem_cons_succ, List.setIfInBounds_toArray, List.set_cons_zero, List.set_cons_succ]
    refine wpAnyH_take (i := 17) (v := .bool false) rfl (by kernel_rfl) (by kernel_rfl) (by kernel_rfl) (fun _ _ _ h => h) (Or.inl ⟨by rfl, fun x hx => rfl⟩) hHeld ?_
    try simp only [Act.put, List.getElem_toArray, List.getElem_cons_zero, List.getElem_cons_succ, List.setIfInBounds_toArray, List.set_cons_zero, List.set_cons_succ]
    refine wpAnyH_done (by kernel_rfl) ?_ _
    go_wp2_with fail
    refine bodyPost_ret (v := .tuple #[.agg #[.string m0, .string p0, .string ⟨#[]⟩], .bool false]) (by simp [results, Tryz.results20, go_sem, e0, e1, e2]) rfl (HF.out false _ rfl (below_three HT.out.drew.below _ _ _))
  | true =>
    cases x2 with
    | false =>
      refine wp_region_held_drew (S := (fun x => x.cell? ⟨w.heap.size + 1, 0, none⟩ = some (.string m0) ∧ x.cell? ⟨w.heap.size + 1, 1, none⟩ = some (.string p0) ∧ x.cell? ⟨w.heap.size + 1, 2, none⟩ = some (.string ⟨#[]⟩))) (by kernel_rfl) ⟨c0, c1, c2⟩ (fun hHeld => ?_)
      refine wpAnyH_take (i := 0) (v := .agg #[.string m0, .string p0, .string ⟨#[]⟩]) rfl (by kernel_rfl) (by kernel_rfl) (by kernel_rfl) (fun _ _ _ h => h) (Or.inl ⟨by rfl, fun x hx => by obtain ⟨g0, g1, g2⟩ := hx; go_simp⟩) hHeld ?_
      try simp only [Act.put, List.getElem_toArray, List.getElem_cons_zero, List.getElem_cons_succ, List.setIfInBounds_toArray, List.set_cons_zero, List.set_cons_succ]
      refine wpAnyH_take (i := 1) (v := .pointer (some ⟨w.heap.size + 1, 0, none⟩)) rfl (by kernel_rfl) (by kernel_rfl) (by kernel_rfl) (fun _ _ _ h => h) (Or.inl ⟨by rfl, fun x hx => by obtain ⟨g0, g1, g2⟩ := hx; go_simp⟩) hHeld ?_
      try simp only [Act.put, List.getElem_toArray, List.getElem_cons_zero, List.getElem_cons_succ, List.setIfInBounds_toArray, List.set_cons_zero, List.set_cons_succ]
      refine wpAnyH_take (i := 2) (v := .string m0) rfl (by kernel_rfl) (by kernel_rfl) (by kernel_rfl) (fun _ _ _ h => h) (Or.inl ⟨by rfl, fun x hx => by obtain ⟨g0, g1, g2⟩ := hx; go_simp⟩) hHeld ?_
      try simp only [Act.put, List.getElem_toArray, List.getElem_cons_zero, List.getElem_cons_succ, List.setIfInBounds_toArray, List.set_cons_zero, List.set_cons_succ]
      refine wpAnyH_ready (rs := [3]) (by kernel_rfl) (by simp) ?_
      refine AllReadyH.cons rfl (fun K hK => ?_) AllReadyH.nil
      go_simp
      go_at_call 25
      refine (HM.out _).mono ?_
      rintro e w3 ⟨rfl, rfl⟩
      go_wp2_with fail
      refine hK.out _ _ hHeld (fun hHeld => ?_)
      clear hK K
      try simp only [Act.put, List.getElem_toArray, List.getElem_cons_zero, List.getElem_cons_succ, List.setIfInBounds_toArray, List.set_cons_zero, List.set_cons_succ]
      refine wpAnyH_take (i := 4) (v := .bool true) rfl (by kernel_rfl) (by kernel_rfl) (by kernel_rfl) (fun _ _ _ h => h) (Or.inl ⟨by rfl, fun x hx => by obtain ⟨g0, g1, g2⟩ := hx; go_simp⟩) hHeld ?_
      try simp only [Act.put, List.getElem_toArray, List.getElem_cons_zero, List.getElem_cons_succ, List.setIfInBounds_toArray, List.set_cons_zero, List.set_cons_succ]
      refine wpAnyH_take (i := 5) (v := .pointer (some ⟨w.heap.size + 1, 1, none⟩)) rfl (by kernel_rfl) (by kernel_rfl) (by kernel_rfl) (fun _ _ _ h => h) (Or.inl ⟨by rfl, fun x hx => by obtain ⟨g0, g1, g2⟩ := hx; go_simp⟩) hHeld ?_
      try simp only [Act.put, List.getElem_toArray, List.getElem_cons_zero, List.getElem_cons_succ, List.setIfInBounds_toArray, List.set_cons_zero, List.set_cons_succ]
      refine wpAnyH_take (i := 6) (v := .string p0) rfl (by kernel_rfl) (by kernel_rfl) (by kernel_rfl) (fun _ _ _ h => h) (Or.inl ⟨by rfl, fun x hx => by obtain ⟨g0, g1, g2⟩ := hx; go_simp⟩) hHeld ?_
      try simp only [Act.put, List.getElem_toArray, List.getElem_cons_zero, List.getElem_cons_succ, List.setIfInBounds_toArray, List.set_cons_zero, List.set_cons_succ]
      refine wpAnyH_ready (rs := [7]) (by kernel_rfl) (by simp) ?_
      refine AllReadyH.cons rfl (fun K hK => ?_) AllReadyH.nil
      go_simp
      go_at_call 26
      refine (HP.out _).mono ?_
      rintro e w3 ⟨rfl, rfl⟩
      go_wp2_with fail
      refine hK.out _ _ hHeld (fun hHeld => ?_)
      clear hK K
      try simp only [Act.put, List.getElem_toArray, List.getElem_cons_zero, List.getElem_cons_succ, List.setIfInBounds_toArray, List.set_cons_zero, List.set_cons_succ]
      refine wpAnyH_take (i := 8) (v := .bool false) rfl (by kernel_rfl) (by kernel_rfl) (by kernel_rfl) (fun _ _ _ h => h) (Or.inl ⟨by rfl, fun x hx => by obtain ⟨g0, g1, g2⟩ := hx; go_simp⟩) hHeld ?_
      try simp only [Act.put, List.getElem_toArray, List.getElem_cons_zero, List.getElem_cons_succ, List.setIfInBounds_toArray, List.set_cons_zero, List.set_cons_succ]
      refine wpAnyH_take (i := 9) (v := .bool false) rfl (by kernel_rfl) (by kernel_rfl) (by kernel_rfl) (fun _ _ _ h => h) (Or.inl ⟨by rfl, fun x hx => by obtain ⟨g0, g1, g2⟩ := hx; go_simp⟩) hHeld ?_
      try simp only [Act.put, List.getElem_toArray, List.getElem_cons_zero, List.getElem_cons_succ, List.setIfInBounds_toArray, List.set_cons_zero, List.set_cons_succ]
      refine wpAnyH_take (i := 10) (v := undef) rfl (by kernel_rfl) (by kernel_rfl) (by kernel_rfl) (fun _ _ _ h => h) (Or.inr ⟨by rfl, rfl⟩) hHeld ?_
      try simp only [Act.put, List.getElem_toArray, List.getElem_cons_zero, List.getElem_cons_succ, List.setIfInBounds_toArray, List.set_cons_zero, List.set_cons_succ]
      refine wpAnyH_take (i := 11) (v := undef) rfl (by kernel_rfl) (by kernel_rfl) (by kernel_rfl) (fun _ _ _ h => h) (Or.inr ⟨by rfl, rfl⟩) hHeld ?_
      try simp only [Act.put, List.getElem_toArray, List.getElem_cons_zero, List.getElem_cons_succ, List.setIfInBounds_toArray, List.set_cons_zero, List.set_cons_succ]
      refine wpAnyH_take (i := 12) (v := undef) rfl (by kernel_rfl) (by kernel_rfl) (by kernel_rfl) (fun _ _ _ h => h) (Or.inr ⟨by rfl, rfl⟩) hHeld ?_
      try simp only [Act.put, List.getElem_toArray, List.getElem_cons_zero, List.getElem_cons_succ, List.setIfInBounds_toArray, List.set_cons_zero, List.set_cons_succ]
      refine wpAnyH_take (i := 13) (v := undef) rfl (by kernel_rfl) (by kernel_rfl) (by kernel_rfl) (fun _ _ _ h => h) (Or.inr ⟨by rfl, rfl⟩) hHeld ?_
      try simp only [Act.put, List.getElem_toArray, List.getElem_cons_zero, List.getElem_cons_succ, List.setIfInBounds_toArray, List.set_cons_zero, List.set_cons_succ]
      refine wpAnyH_take (i := 14) (v := undef) rfl (by kernel_rfl) (by kernel_rfl) (by kernel_rfl) (fun _ _ _ h => h) (Or.inr ⟨by rfl, rfl⟩) hHeld ?_
      try simp only [Act.put, List.getElem_toArray, List.getElem_cons_zero, List.getElem_cons_succ, List.setIfInBounds_toArray, List.set_cons_zero, List.set_cons_succ]
      refine wpAnyH_take (i := 15) (v := .bool false) rfl (by kernel_rfl) (by kernel_rfl) (by kernel_rfl) (fun _ _ _ h => h) (Or.inl ⟨by rfl, fun x hx => by obtain ⟨g0, g1, g2⟩ := hx; go_simp⟩) hHeld ?_
      try simp only [Act.put, List.getElem_toArray, List.getElem_cons_zero, List.getElem_cons_succ, List.setIfInBounds_toArray, List.set_cons_zero, List.set_cons_succ]
      refine wpAnyH_ready (rs := [16]) (by kernel_rfl) (by simp) ?_
      refine AllReadyH.cons rfl (fun K hK => ?_) AllReadyH.nil
      go_simp
      refine hK.out _ _ (by simp [*, World.cell?_setCell_far]) (fun hHeld => ?_)
      clear hK K
      try simp only [Act.put, List.getElem_toArray, List.getElem_cons_zero, List.getElem_cons_succ, List.setIfInBounds_toArray, List.set_cons_zero, List.set_cons_succ]
      refine wpAnyH_take (i := 17) (v := .bool false) rfl (by kernel_rfl) (by kernel_rfl) (by kernel_rfl) (fun _ _ _ h => h) (Or.inl ⟨by rfl, fun x hx => rfl⟩) hHeld ?_
      try simp only [Act.put, List.getElem_toArray, List.getElem_cons_zero, List.getElem_cons_succ, List.setIfInBounds_toArray, List.set_cons_zero, List.set_cons_succ]
      refine wpAnyH_done (by kernel_rfl) ?_ _
      go_wp2_with fail
      refine bodyPost_ret (v := .tuple #[.agg #[.string m0, .string p0, .string ⟨#[]⟩], .bool false]) (by simp [results, Tryz.results20, go_sem, e0, e1, e2]) rfl (HF.out false _ rfl (below_three HT.out.drew.below _ _ _))
    | true =>
      go_region_held3 (fun x => x.cell? ⟨w.heap.size + 1, 0, none⟩ = some (.string m0) ∧ x.cell? ⟨w.heap.size + 1, 1, none⟩ = some (.string p0) ∧ x.cell? ⟨w.heap.size + 1, 2, none⟩ = some (.string ⟨#[]⟩))
        (go_keep)
        (first
          | (go_at_call 25; refine (HM.out _).mono ?_; rintro e w3 ⟨rfl, rfl⟩)
          | (go_at_call 26; refine (HP.out _).mono ?_; rintro e w3 ⟨rfl, rfl⟩))
      all_goals go_wp2_with fail
      all_goals refine bodyPost_ret (v := .tuple #[.agg #[.string m0, .string p0, .string ⟨#[]⟩], .bool x3]) (by simp [results, Tryz.results20, go_sem, e0, e1, e2]) rfl (HF.out x3 _ rfl (below_three HT.out.drew.below _ _ _))
end Go.Proofs.YtihcihpndckfjabGreatDoor
