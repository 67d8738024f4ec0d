/- The walk of PayloadSames. Conditions: those that the theorem names. -/
import Derived.Test.YtifghohaelmjjaaDoorPlSr
import Derived.Test.YtifghohaelmjjaaDoorPlCp
import Derived.Test.YtifghohaelmjjaaDoorPlIn
import Derived.Test.YtifghohaelmjjaaDoorPlVz
namespace Go.Proofs.YtifghohaelmjjaaDoor
set_option linter.unusedVariables false
open Go Go.RowKit Go.Shelf Pl
/-- A point in memory. -/
def PtIn (w : World) (p : Value) (a : Pt) : Prop :=
  ∃ u x, p = .agg #[.int .i64 a.id, u, x] ∧ VecsAt w u a.vecs ∧ FldsAt w x a.flds ∧ VecsOk a.vecs ∧ FldsOk a.flds
theorem PtIn.below {w w' : World} {p : Value} {a : Pt} (h : PtIn w p a) (g : Below w.heap.size w w') : PtIn w' p a := by
  obtain ⟨u, x, rfl, h1, h2, h3, h4⟩ := h
  exact ⟨u, x, rfl, h1.below g, h2.below g, h3, h4⟩
/-- Two points in two blocks. -/
def TwoP (w : World) (i : Int) (u x : Value) (i' : Int) (u' x' : Value) (a b : Pt) (y : World) : Prop :=
  y.cell? ⟨w.heap.size, 0, none⟩ = some (.int .i64 i) ∧ y.cell? ⟨w.heap.size, 1, none⟩ = some u ∧ y.cell? ⟨w.heap.size, 2, none⟩ = some x ∧
  y.cell? ⟨w.heap.size + 1, 0, none⟩ = some (.int .i64 i') ∧ y.cell? ⟨w.heap.size + 1, 1, none⟩ = some u' ∧ y.cell? ⟨w.heap.size + 1, 2, none⟩ = some x' ∧
  PtIn y (.agg #[.int .i64 i, u, x]) a ∧ PtIn y (.agg #[.int .i64 i', u', x']) b ∧ Below w.heap.size w y ∧ w.heap.size + 2 ≤ y.heap.size
theorem TwoP.then {w y z : World} {i i' : Int} {u x u' x' : Value} {a b : Pt} (h : TwoP w i u x i' u' x' a b y) (hb : Below y.heap.size y z) : TwoP w i u x i' u' x' a b z := by
  obtain ⟨h0, h1, h2, h3, h4, h5, p1, p2, h6, h7⟩ := h
  have c : ∀ g j v, g < w.heap.size + 2 → y.cell? ⟨g, j, none⟩ = v → z.cell? ⟨g, j, none⟩ = v := fun g j v hg e => by
    rw [← e]; exact World.cell?_of_block (w := y) (hb.block g (by omega))
  exact ⟨c _ _ _ (by omega) h0, c _ _ _ (by omega) h1, c _ _ _ (by omega) h2, c _ _ _ (by omega) h3, c _ _ _ (by omega) h4, c _ _ _ (by omega) h5, p1.below hb, p2.below hb, h6.trans (hb.mono h6.size), Nat.le_trans h7 hb.size⟩
theorem TwoP.p1 {w y : World} {i i' : Int} {u x u' x' : Value} {a b : Pt} (h : TwoP w i u x i' u' x' a b y) : PtIn y (.agg #[.int .i64 i, u, x]) a := h.2.2.2.2.2.2.1
theorem TwoP.p2 {w y : World} {i i' : Int} {u x u' x' : Value} {a b : Pt} (h : TwoP w i u x i' u' x' a b y) : PtIn y (.agg #[.int .i64 i', u', x']) b := h.2.2.2.2.2.2.2.1
theorem same_in (g : Pt → Pt → Bool) (hg : ∀ a b, isB (a = b) = g a b) (W : World) (p q : Value) (a b : Pt) (h : PtIn W p a) (k : PtIn W q b) :
    Calls Tryd.prog 25 #[p, q] W fun e w' => e = .returned (.bool (g a b)) ∧ Below W.heap.size W w' := by
  obtain ⟨u, x, rfl, h1, h2, h3, h4⟩ := h
  obtain ⟨v, y, rfl, k1, k2, k3, k4⟩ := k
  rw [← hg]
  exact same_any a b u v x y W h1 k1 h2 k2 h3 k3 h4 k4
theorem rsame_in (g : Pt → Pt → Bool) (hg : ∀ a b, isB (a = b) = g a b) (W : World) (p q : Value) (a b : Pt) (h : PtIn W p a) (k : PtIn W q b) :
    Calls Tryd.prog 14 #[p, q] W fun e w' => e = .returned (.bool (g a b)) ∧ Below W.heap.size W w' := by
  obtain ⟨u, x, rfl, h1, h2, h3, h4⟩ := h
  obtain ⟨v, y, rfl, k1, k2, k3, k4⟩ := k
  rw [← hg]
  exact rsame_any a b u v x y W h1 k1 h2 k2 h3 k3 h4 k4
theorem copy_in (W : World) (p : Value) (a : Pt) (h : PtIn W p a) (c : a.vecs.length * 40 ≤ 140737488355328 ∧ (∀ y ∈ a.vecs, y.v.length * 8 ≤ 140737488355328) ∧ a.flds.length * 48 ≤ 140737488355328) :
    Calls Tryd.prog 9 #[p] W fun e w' => ∃ u' x', e = .returned (.agg #[.int .i64 a.id, u', x']) ∧ PtIn w' (.agg #[.int .i64 a.id, u', x']) a ∧ Below W.heap.size W w' := by
  obtain ⟨u, x, rfl, h1, h2, h3, h4⟩ := h
  refine (pcopy_any a u x W h1 h2 c.1 c.2.1 c.2.2).mono ?_
  rintro e w' ⟨u', x', rfl, k1, k2, k3⟩
  exact ⟨u', x', rfl, ⟨u', x', rfl, k1, k2, h3, h4⟩, k3⟩
def EncV (a : Pt) : Value := if ptMay a then .tuple #[.string ⟨(bPt a).toArray⟩, .int .i64 0] else notMay
theorem enc_in (W : World) (G : Gp W) (p : Value) (a : Pt) (h : PtIn W p a) :
    Calls Tryd.prog 16 #[p] W fun e w' => e = .returned (EncV a) ∧ Below W.heap.size W w' := by
  obtain ⟨u, x, rfl, h1, h2, h3, h4⟩ := h
  unfold EncV
  cases hm : ptMay a
  · rw [if_neg (by simp)]; exact encode_no a.id u x a.vecs a.flds W G h1 h2 h3 h4 hm
  · rw [if_pos rfl]; exact encode_yes a.id u x a.vecs a.flds W G h1 h2 h3 h4 hm
set_option maxHeartbeats 4000000 in
set_option maxRecDepth 100000 in
theorem sames_walk (a b : Pt) (u x u' x' : Value) (w : World) (G : Gp w) (ha : PtIn w (.agg #[.int .i64 a.id, u, x]) a) (hb : PtIn w (.agg #[.int .i64 b.id, u', x']) b)
    (c : a.vecs.length * 40 ≤ 140737488355328 ∧ (∀ y ∈ a.vecs, y.v.length * 8 ≤ 140737488355328) ∧ a.flds.length * 48 ≤ 140737488355328) :
    Calls Tryd.prog 7 #[.agg #[.int .i64 a.id, u, x], .agg #[.int .i64 b.id, u', x']] w fun e w' => e = .returned (.bool true) ∧ Below w.heap.size w w' := by
  have z := heap_last w (.cells #[.int .i64 a.id, u, x] 29)
  obtain ⟨a0, a1, a2⟩ := cells3_new z (.cells #[.int .i64 b.id, u', x'] 29)
  have z2 := heap_last (w.alloc (.cells #[.int .i64 a.id, u, x] 29)) (.cells #[.int .i64 b.id, u', x'] 29)
  rw [show (w.alloc (.cells #[.int .i64 a.id, u, x] 29)).heap.size = w.heap.size + 1 by simp] at z2
  obtain ⟨b0, b1, b2⟩ := cells3_of z2
  have hb0 := (fresh_alloc w (.cells #[.int .i64 a.id, u, x] 29)).alloc (by simp) (.cells #[.int .i64 b.id, u', x'] 29)
  have hz0 : w.heap.size + 2 ≤ ((w.alloc (.cells #[.int .i64 a.id, u, x] 29)).alloc (.cells #[.int .i64 b.id, u', x'] 29)).heap.size := by simp
  obtain ⟨g, hg⟩ : ∃ g : Pt → Pt → Bool, ∀ a b, isB (a = b) = g a b := ⟨fun a b => isB (a = b), fun _ _ => rfl⟩
  have H1 := Lib.hid (same_in g hg)
  have H2 := Lib.hid (rsame_in g hg)
  have H3 := Lib.hid (fun (W : World) (p : Value) (h : PtIn W p a) => copy_in W p a h c)
  have hgaa : g a a = true := by rw [← hg]; unfold isB; simp
  have hgab : (g a b != g a b) = false := by simp
  have HG := Lib.hid hg
  have HW := Lib.hid (fun (y : World) (hx : TwoP w a.id u x b.id u' x' a b y) => awake_yes y (G.fresh hx.2.2.2.2.2.2.2.2.1))
  have HGG := Lib.hid G
  have HPA := Lib.hid (ha.below hb0)
  have HPB := Lib.hid (hb.below hb0)
  have HB := Lib.hid hb0
  have HZ := Lib.hid hz0
  clear G ha hb c z z2 hb0 hz0 hg
  generalize a.id = i at *
  generalize b.id = i' at *
  go_enter Tryd.func7, Tryd.ntmps7
  go_wp2_with fail
  generalize (w.alloc (.cells #[.int .i64 i, u, x] 29)).alloc (.cells #[.int .i64 i', u', x'] 29) = W0 at *
  have hbd := HB.out.drew
  have hS0 : W0.drew.cell? ⟨w.heap.size, 0, none⟩ = some (.int .i64 i) ∧ W0.drew.cell? ⟨w.heap.size, 1, none⟩ = some u ∧ W0.drew.cell? ⟨w.heap.size, 2, none⟩ = some x ∧ W0.drew.cell? ⟨w.heap.size + 1, 0, none⟩ = some (.int .i64 i') ∧ W0.drew.cell? ⟨w.heap.size + 1, 1, none⟩ = some u' ∧ W0.drew.cell? ⟨w.heap.size + 1, 2, none⟩ = some x' ∧ PtIn W0.drew (.agg #[.int .i64 i, u, x]) a ∧ PtIn W0.drew (.agg #[.int .i64 i', u', x']) b ∧ Below w.heap.size w W0.drew ∧ w.heap.size + 2 ≤ W0.drew.heap.size := ⟨a0, a1, a2, b0, b1, b2, HPA.out.below (Below.refl _ _).drew, HPB.out.below (Below.refl _ _).drew, hbd, HZ.out⟩
  clear a0 a1 a2 b0 b1 b2 hbd HB HZ HPA HPB
  go_region_held3 (fun y => y.cell? ⟨w.heap.size, 0, none⟩ = some (.int .i64 i) ∧ y.cell? ⟨w.heap.size, 1, none⟩ = some u ∧ y.cell? ⟨w.heap.size, 2, none⟩ = some x ∧ y.cell? ⟨w.heap.size + 1, 0, none⟩ = some (.int .i64 i') ∧ y.cell? ⟨w.heap.size + 1, 1, none⟩ = some u' ∧ y.cell? ⟨w.heap.size + 1, 2, none⟩ = some x' ∧ PtIn y (.agg #[.int .i64 i, u, x]) a ∧ PtIn y (.agg #[.int .i64 i', u', x']) b ∧ Below w.heap.size w y ∧ w.heap.size + 2 ≤ y.heap.size)
    (first | assumption | exact TwoP.then (by assumption) hb | go_keep)
    (first
      | (go_at_call 25; refine (H1.out _ _ _ _ _ (show TwoP w i u x i' u' x' a b _ by assumption).p1 (by first | assumption | exact (show TwoP w i u x i' u' x' a b _ by assumption).p2)).mono ?_; rintro e w1 ⟨rfl, hb⟩)
      | (go_at_call 14; refine (H2.out _ _ _ _ _ (show TwoP w i u x i' u' x' a b _ by assumption).p1 (show TwoP w i u x i' u' x' a b _ by assumption).p2).mono ?_; rintro e w1 ⟨rfl, hb⟩)
      | (go_at_call 9; refine (H3.out _ _ (show TwoP w i u x i' u' x' a b _ by assumption).p1).mono ?_; rintro e w1 ⟨uc, xc, rfl, hpc, hb⟩)
      | (go_at_call 15; refine (HW.out _ (by assumption)).mono ?_; rintro e w1 ⟨rfl, hb⟩))
  have hh : TwoP w i u x i' u' x' a b w1 := by assumption
  have HH := Lib.hid hh
  have HE1 := Lib.hid (enc_in w1 (HGG.out.fresh hh.2.2.2.2.2.2.2.2.1) _ a hh.p1)
  obtain ⟨d0, d1, d2, d3, d4, d5, _, _, _, _⟩ := hh
  clear hS0 H2 H3 HW hgab hgaa
  have henc : ∃ s e, EncV a = .tuple #[.string s, .int .i64 e] ∧ ((ptMay a = false ∧ e = 120) ∨ (ptMay a = true ∧ e = 0 ∧ s = ⟨(bPt a).toArray⟩)) := by
    unfold EncV
    cases hm : ptMay a
    · exact ⟨⟨#[]⟩, 120, by rw [if_neg (by simp)]; rfl, .inl ⟨rfl, rfl⟩⟩
    · exact ⟨_, 0, by rw [if_pos rfl], .inr ⟨rfl, rfl, rfl⟩⟩
  have henc' : ∃ s e, EncV b = .tuple #[.string s, .int .i64 e] ∧ ((ptMay b = false ∧ e = 120) ∨ (ptMay b = true ∧ e = 0 ∧ s = ⟨(bPt b).toArray⟩)) := by
    unfold EncV
    cases hm : ptMay b
    · exact ⟨⟨#[]⟩, 120, by rw [if_neg (by simp)]; rfl, .inl ⟨rfl, rfl⟩⟩
    · exact ⟨_, 0, by rw [if_pos rfl], .inr ⟨rfl, rfl, rfl⟩⟩
  obtain ⟨s, e, he, hs⟩ := henc
  obtain ⟨s', e', he', hs'⟩ := henc'
  rw [he] at HE1
  have HE' := Lib.hid he'
  have HQ : Hid (e = 0 → e' = 0 → (s.toList == s'.toList) = g a b) := Lib.hid (fun h0 h0' => by
    rcases hs with ⟨_, h⟩ | ⟨h1, _, h2⟩
    · omega
    · rcases hs' with ⟨_, h⟩ | ⟨h1', _, h2'⟩
      · omega
      · rw [← HG.out, Go.ByteArray.toList_eq, Go.ByteArray.toList_eq, h2, h2']
        unfold isB
        have := bytes_tell h1 h1'
        by_cases c : a = b
        · subst c; simp
        · have c2 : ¬ bPt a = bPt b := fun e => c (this.1 e)
          simp [c, c2])
  have hcase : (e = 120) ∨ (e = 0 ∧ e' = 120) ∨ (e = 0 ∧ e' = 0) := by
    rcases hs with ⟨_, h⟩ | ⟨_, h, _⟩ <;> rcases hs' with ⟨_, h'⟩ | ⟨_, h', _⟩ <;> omega
  clear he he' hs hs'
  go_wp2_with fail
  refine HE1.out.mono ?_
  rintro e w2 ⟨rfl, b2⟩
  have hh2 := HH.out.then b2
  have HE2 := Lib.hid (enc_in w2 (HGG.out.fresh hh2.2.2.2.2.2.2.2.2.1) _ b hh2.p2)
  rw [HE'.out] at HE2
  have HH2 := Lib.hid hh2
  obtain ⟨c0, c1, c2, c3, c4, c5, _, _, _, _⟩ := hh2
  clear d0 d1 d2 d3 d4 d5 HH HE1 b2
  go_wp2_with fail
  refine HE2.out.mono ?_
  rintro e w3 ⟨rfl, b3⟩
  have hh3 := HH2.out.then b3
  have HH3 := Lib.hid hh3
  have HS3 := Lib.hid (H1.out w3 _ _ a b hh3.p1 hh3.p2)
  obtain ⟨d0, d1, d2, d3, d4, d5, _, _, _, _⟩ := hh3
  have HB3 := Lib.hid HH3.out.2.2.2.2.2.2.2.2.1
  clear c0 c1 c2 c3 c4 c5 HH2 HE2 b3 H1
  rcases hcase with rfl | ⟨rfl, rfl⟩ | ⟨rfl, rfl⟩
  · go_wp2_with fail
    go_ret
    exact ⟨rfl, HB3.out⟩
  · go_wp2_with fail
    go_ret
    exact ⟨rfl, HB3.out⟩
  · have hq := HQ.out rfl rfl
    have hq2 : (g a b == g a b) = true := by simp
    clear HQ
    go_wp2_with fail
    refine HS3.out.mono ?_
    rintro e w4 ⟨rfl, b4⟩
    have HB4 := Lib.hid (HB3.out.trans (b4.mono HB3.out.size))
    clear b4
    go_wp2_with fail
    go_ret
    exact ⟨rfl, HB4.out⟩
end Go.Proofs.YtifghohaelmjjaaDoor
