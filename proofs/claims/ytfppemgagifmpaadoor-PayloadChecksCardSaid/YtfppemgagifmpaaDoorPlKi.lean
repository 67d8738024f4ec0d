/- The walk of PayloadChecks. Conditions: those that the theorem names. -/
import Derived.Test.YtfppemgagifmpaaDoorPlKz
import Derived.Test.YtfppemgagifmpaaDoorPlSr
import Derived.Test.YtfppemgagifmpaaDoorPlCp
import Derived.Test.YtfppemgagifmpaaDoorPlAw
namespace Go.Proofs.YtfppemgagifmpaaDoor
set_option linter.unusedVariables false
open Go Go.RowKit Go.Shelf Pl
/-- A schema, a point and its copy in their blocks. -/
def LwS (w : World) (B : Nat) (vv fv uv xv u2 x2 : Value) (V : List VSp) (F : List FSp) (a : Pt) (z : World) : Prop :=
  z.cell? ⟨w.heap.size, 0, none⟩ = some vv ∧ z.cell? ⟨w.heap.size, 1, none⟩ = some fv ∧ z.cell? ⟨w.heap.size + 1, 0, none⟩ = some (.int .i64 a.id) ∧ z.cell? ⟨w.heap.size + 1, 1, none⟩ = some uv ∧ z.cell? ⟨w.heap.size + 1, 2, none⟩ = some xv ∧
  z.cell? ⟨B, 0, none⟩ = some (.int .i64 a.id) ∧ z.cell? ⟨B, 1, none⟩ = some u2 ∧ z.cell? ⟨B, 2, none⟩ = some x2 ∧ CkAt w z vv fv uv xv V F a ∧ VecsAt z u2 a.vecs ∧ FldsAt z x2 a.flds
theorem LwS.then {w y z : World} {B : Nat} {vv fv uv xv u2 x2 : Value} {V : List VSp} {F : List FSp} {a : Pt} (h : LwS w B vv fv uv xv u2 x2 V F a y) (hb : Below y.heap.size y z) : LwS w B vv fv uv xv u2 x2 V F a z := by
  obtain ⟨h0, h1, h2, h3, h4, h5, h6, h7, h8, h9, h10⟩ := h
  have c : ∀ g j v, y.cell? ⟨g, j, none⟩ = some v → z.cell? ⟨g, j, none⟩ = some v := fun g j v e => by
    rw [← e]; exact World.cell?_of_block (w := y) (hb.block g (World.block_lt_of_cell? y _ e))
  exact ⟨c _ _ _ h0, c _ _ _ h1, c _ _ _ h2, c _ _ _ h3, c _ _ _ h4, c _ _ _ h5, c _ _ _ h6, c _ _ _ h7, h8.below hb, h9.below hb, h10.below hb⟩
theorem LwS.ck {w z : World} {B : Nat} {vv fv uv xv u2 x2 : Value} {V : List VSp} {F : List FSp} {a : Pt} (h : LwS w B vv fv uv xv u2 x2 V F a z) : CkAt w z vv fv uv xv V F a := h.2.2.2.2.2.2.2.2.1
theorem LwS.vecs {w z : World} {B : Nat} {vv fv uv xv u2 x2 : Value} {V : List VSp} {F : List FSp} {a : Pt} (h : LwS w B vv fv uv xv u2 x2 V F a z) : VecsAt z u2 a.vecs := h.2.2.2.2.2.2.2.2.2.1
theorem LwS.flds {w z : World} {B : Nat} {vv fv uv xv u2 x2 : Value} {V : List VSp} {F : List FSp} {a : Pt} (h : LwS w B vv fv uv xv u2 x2 V F a z) : FldsAt z x2 a.flds := h.2.2.2.2.2.2.2.2.2.2
set_option maxHeartbeats 4000000 in
set_option maxRecDepth 100000 in
theorem checks_walk (V : List VSp) (F : List FSp) (vv fv : Value) (a : Pt) (uv xv : Value) (w : World) (G : Gp w) (hV : VSpAt w vv V) (hF : FSpAt w fv F) (kV : VSpOk V) (kF : FSpOk F) (hu : VecsAt w uv a.vecs) (hx : FldsAt w xv a.flds) (ku : VecsOk a.vecs) (kx : FldsOk a.flds)
    (c : a.vecs.length * 40 ≤ 140737488355328 ∧ (∀ y ∈ a.vecs, y.v.length * 8 ≤ 140737488355328) ∧ a.flds.length * 48 ≤ 140737488355328) :
    Calls Tryd.prog 3 #[.agg #[vv, fv], .agg #[.int .i64 a.id, uv, xv]] w fun e w' => e = .returned (.bool true) ∧ Below w.heap.size w w' := by
  have HN := Lib.hid (ckAt_new (w := w) (p := a) hV hF hu hx)
  have HCP := Lib.hid (fun W (h : CkAt w W vv fv uv xv V F a) => pcopy_any a uv xv W h.2.2.1 h.2.2.2.1 c.1 c.2.1 c.2.2)
  obtain ⟨x, hx0⟩ : ∃ x : Int, x = if schB V F then 0 else 50 := ⟨_, rfl⟩
  obtain ⟨y, hy0⟩ : ∃ y : Int, y = ckN V F a := ⟨_, rfl⟩
  have C1 := Lib.hid (fun W (h : CkAt w W vv fv uv xv V F a) => schema_any vv fv V F W (G.fresh h.2.2.2.2) h.1.2.1 h.1.2.2 kV kF)
  have C2 := Lib.hid (fun W (h : CkAt w W vv fv uv xv V F a) => rsch_any vv fv V F W h.1.2.1 h.1.2.2 kV kF)
  have C3 := Lib.hid (fun B u2 x2 W (h : LwS w B vv fv uv xv u2 x2 V F a W) => check_any vv fv u2 x2 V F a W (G.fresh h.ck.2.2.2.2) h.ck.1.2.1 h.ck.1.2.2 kV kF h.vecs h.flds ku kx)
  have C4 := Lib.hid (fun W (h : CkAt w W vv fv uv xv V F a) => rcheck_any vv fv uv xv V F a W h.1.2.1 h.1.2.2 kV kF h.2.2.1 h.2.2.2.1 ku kx)
  have C5 := Lib.hid (fun B u2 x2 W (h : LwS w B vv fv uv xv u2 x2 V F a W) => rsame_any a a u2 uv x2 xv W h.vecs h.ck.2.2.1 h.flds h.ck.2.2.2.1 ku ku kx kx)
  rw [← hx0] at C1 C2
  rw [← hy0] at C3 C4
  rw [show isB (a = a) = true from isB_yes rfl] at C5
  have C6 := Lib.hid (fun W (h : CkAt w W vv fv uv xv V F a) => awake_yes W (G.fresh h.2.2.2.2))
  have hxx : (x == x) = true := by simp
  have hyy : (y == y) = true := by simp
  clear hx0 hy0 c G
  have HE : ∀ W, Hid (CkAt w W vv fv uv xv V F a → (W.cell? ⟨w.heap.size, 0, none⟩ = some vv ∧ W.cell? ⟨w.heap.size, 1, none⟩ = some fv) ∧ (W.cell? ⟨w.heap.size + 1, 0, none⟩ = some (.int .i64 a.id) ∧ W.cell? ⟨w.heap.size + 1, 1, none⟩ = some uv ∧ W.cell? ⟨w.heap.size + 1, 2, none⟩ = some xv)) :=
    fun W => Lib.hid fun h => ⟨cellsTwo h.1.1, cells3_of h.2.1⟩
  obtain ⟨pv, cv, rfl⟩ := hV.form
  obtain ⟨pf, cf, rfl⟩ := hF.form
  obtain ⟨pu, cu, rfl⟩ := hu.form
  obtain ⟨px, cx, rfl⟩ := hx.form
  clear hV hF hu hx kV kF ku kx
  obtain ⟨nu, hnu⟩ : ∃ n, n = a.vecs.length := ⟨_, rfl⟩
  obtain ⟨nx, hnx⟩ : ∃ n, n = a.flds.length := ⟨_, rfl⟩
  generalize V.length = nV at *
  generalize F.length = nF at *
  rw [← hnu] at HN HCP C1 C2 C3 C4 C5 C6
  rw [← hnx] at HN HCP C1 C2 C3 C4 C5 C6
  simp only [← hnu, ← hnx] at HE ⊢
  clear hnu hnx
  go_enter Tryd.func3, Tryd.ntmps3
  have hn := HN.out
  obtain ⟨⟨d0, d1⟩, d2, d3, d4⟩ := (HE _).out hn
  clear hn
  go_wp2_with fail
  clear d0 d1 d2 d3 d4
  generalize (w.alloc (.cells #[.slice pv nV cv, .slice pf nF cf] 25)).alloc (.cells #[.int .i64 a.id, .slice pu nu cu, .slice px nx cx] 29) = W0 at *
  refine (HCP.out _ HN.out).mono ?_
  rintro e w1 ⟨u2, x2, rfl, h1, h2, b1⟩
  have HN1 := Lib.hid (HN.out.below b1)
  obtain ⟨p2, c2, rfl⟩ := h1.form
  obtain ⟨p3, c3, rfl⟩ := h2.form
  generalize a.vecs.length = m2 at *
  generalize a.flds.length = m3 at *
  have hb2 := fresh_alloc w1 (.cells #[.int .i64 a.id, .slice p2 m2 c2, .slice p3 m3 c3] 29)
  have HN2 := Lib.hid (HN1.out.below hb2)
  have h1' := h1.below hb2
  have h2' := h2.below hb2
  obtain ⟨k0, k1, k2⟩ := cells3 w1 (.int .i64 a.id) (.slice p2 m2 c2) (.slice p3 m3 c3) 29
  clear b1 h1 h2 hb2
  go_wp2_with fail
  generalize w1.alloc (.cells #[.int .i64 a.id, .slice p2 m2 c2, .slice p3 m3 c3] 29) = W2 at *
  obtain ⟨⟨d0, d1⟩, d2, d3, d4⟩ := (HE _).out HN2.out
  have hS0 : W2.drew.cell? ⟨w.heap.size, 0, none⟩ = some (.slice pv nV cv) ∧ W2.drew.cell? ⟨w.heap.size, 1, none⟩ = some (.slice pf nF cf) ∧ W2.drew.cell? ⟨w.heap.size + 1, 0, none⟩ = some (.int .i64 a.id) ∧ W2.drew.cell? ⟨w.heap.size + 1, 1, none⟩ = some (.slice pu nu cu) ∧ W2.drew.cell? ⟨w.heap.size + 1, 2, none⟩ = some (.slice px nx cx) ∧ W2.drew.cell? ⟨w1.heap.size, 0, none⟩ = some (.int .i64 a.id) ∧ W2.drew.cell? ⟨w1.heap.size, 1, none⟩ = some (.slice p2 m2 c2) ∧ W2.drew.cell? ⟨w1.heap.size, 2, none⟩ = some (.slice p3 m3 c3) ∧ CkAt w W2.drew (.slice pv nV cv) (.slice pf nF cf) (.slice pu nu cu) (.slice px nx cx) V F a ∧ VecsAt W2.drew (.slice p2 m2 c2) a.vecs ∧ FldsAt W2.drew (.slice p3 m3 c3) a.flds := ⟨d0, d1, d2, d3, d4, k0, k1, k2, HN2.out.below (Below.refl _ _).drew, h1'.below (Below.refl _ _).drew, h2'.below (Below.refl _ _).drew⟩
  clear d0 d1 d2 d3 d4 k0 k1 k2 h1' h2' HN HN1 HCP
  go_region_held3 (fun y => y.cell? ⟨w.heap.size, 0, none⟩ = some (.slice pv nV cv) ∧ y.cell? ⟨w.heap.size, 1, none⟩ = some (.slice pf nF cf) ∧ y.cell? ⟨w.heap.size + 1, 0, none⟩ = some (.int .i64 a.id) ∧ y.cell? ⟨w.heap.size + 1, 1, none⟩ = some (.slice pu nu cu) ∧ y.cell? ⟨w.heap.size + 1, 2, none⟩ = some (.slice px nx cx) ∧ y.cell? ⟨w1.heap.size, 0, none⟩ = some (.int .i64 a.id) ∧ y.cell? ⟨w1.heap.size, 1, none⟩ = some (.slice p2 m2 c2) ∧ y.cell? ⟨w1.heap.size, 2, none⟩ = some (.slice p3 m3 c3) ∧ CkAt w y (.slice pv nV cv) (.slice pf nF cf) (.slice pu nu cu) (.slice px nx cx) V F a ∧ VecsAt y (.slice p2 m2 c2) a.vecs ∧ FldsAt y (.slice p3 m3 c3) a.flds)
    (first | assumption | exact LwS.then (by assumption) hb | go_keep)
    (first
      | (go_at_call 6; refine (C1.out _ (show LwS w w1.heap.size (.slice pv nV cv) (.slice pf nF cf) (.slice pu nu cu) (.slice px nx cx) (.slice p2 m2 c2) (.slice p3 m3 c3) V F a _ by assumption).ck).mono ?_; rintro e w5 ⟨rfl, hb⟩)
      | (go_at_call 7; refine (C2.out _ (show LwS w w1.heap.size (.slice pv nV cv) (.slice pf nF cf) (.slice pu nu cu) (.slice px nx cx) (.slice p2 m2 c2) (.slice p3 m3 c3) V F a _ by assumption).ck).mono ?_; rintro e w5 ⟨rfl, hb⟩)
      | (go_at_call 8; refine (C3.out w1.heap.size _ _ _ (show LwS w w1.heap.size (.slice pv nV cv) (.slice pf nF cf) (.slice pu nu cu) (.slice px nx cx) (.slice p2 m2 c2) (.slice p3 m3 c3) V F a _ by assumption)).mono ?_; rintro e w5 ⟨rfl, hb⟩)
      | (go_at_call 9; refine (C4.out _ (show LwS w w1.heap.size (.slice pv nV cv) (.slice pf nF cf) (.slice pu nu cu) (.slice px nx cx) (.slice p2 m2 c2) (.slice p3 m3 c3) V F a _ by assumption).ck).mono ?_; rintro e w5 ⟨rfl, hb⟩)
      | (go_at_call 10; refine (C5.out w1.heap.size _ _ _ (show LwS w w1.heap.size (.slice pv nV cv) (.slice pf nF cf) (.slice pu nu cu) (.slice px nx cx) (.slice p2 m2 c2) (.slice p3 m3 c3) V F a _ by assumption)).mono ?_; rintro e w5 ⟨rfl, hb⟩)
      | (go_at_call 11; refine (C6.out _ (show LwS w w1.heap.size (.slice pv nV cv) (.slice pf nF cf) (.slice pu nu cu) (.slice px nx cx) (.slice p2 m2 c2) (.slice p3 m3 c3) V F a _ by assumption).ck).mono ?_; rintro e w5 ⟨rfl, hb⟩))
  have hh : LwS w w1.heap.size (.slice pv nV cv) (.slice pf nF cf) (.slice pu nu cu) (.slice px nx cx) (.slice p2 m2 c2) (.slice p3 m3 c3) V F a w5 := by assumption
  have HH := Lib.hid hh.ck.2.2.2.2
  clear hh hS0 C1 C2 C3 C4 C5 C6
  go_wp2_with fail
  go_ret
  exact ⟨rfl, HH.out⟩
end Go.Proofs.YtfppemgagifmpaaDoor
