/- payload's pointOutlined, pointMayBe. Conditions: those that each theorem names. -/
import Derived.Test.YtfppemgagifmpaaDoorPlO
namespace Go.Proofs.YtfppemgagifmpaaDoor
set_option linter.unusedVariables false
open Go Go.RowKit Go.Shelf Pl
def maxId : Int := 4503599627370496
def vNames (L : List Vec) : List Nm := L.map fun x => x.name
def fNames (L : List Fld) : List Nm := L.map fun x => x.name
def idB (i : Int) : Bool := decide (1 ≤ i) && decide (i ≤ maxId)
def ptOutl (p : Pt) : Bool := idB p.id && (outl (vNames p.vecs) 1 4 && outl (fNames p.flds) 0 16)
def ptMay (p : Pt) : Bool := ptOutl p && ((p.vecs.all fun x => vecB x.v) && p.flds.all fun x => valB x.val)
theorem cells3 (w : World) (a b c : Value) (T : TypeId) : (w.alloc (.cells #[a, b, c] T)).cell? ⟨w.heap.size, 0, none⟩ = some a ∧ (w.alloc (.cells #[a, b, c] T)).cell? ⟨w.heap.size, 1, none⟩ = some b ∧
    (w.alloc (.cells #[a, b, c] T)).cell? ⟨w.heap.size, 2, none⟩ = some c := cells3_of (heap_last w (.cells #[a, b, c] T))
theorem fresh_alloc (w : World) (o : Obj) : Below w.heap.size w (w.alloc o) := Below.alloc (Below.refl _ w) (Nat.le_refl _) o
set_option maxHeartbeats 1000000 in
set_option maxRecDepth 100000 in
theorem ptOutl_any (i : Int) (vv fv : Value) (V : List Vec) (F : List Fld) (w : World) (hv : VecsAt w vv V) (hf : FldsAt w fv F) (kv : VecsOk V) (kf : FldsOk F) :
    Calls Tryd.prog 22 #[.agg #[.int .i64 i, vv, fv]] w fun e w' => e = .returned (.bool (ptOutl ⟨i, V, F⟩)) ∧ Below w.heap.size w w' := by
  have HV := Lib.hid (fun W (g : Below w.heap.size w W) => outlVecs_any V vv 1 4 W (hv.below g) kv)
  have HF := Lib.hid (fun W (g : Below w.heap.size w W) => outlFlds_any F fv 0 16 W (hf.below g) kf)
  obtain ⟨pv, cv, rfl⟩ := hv.form
  obtain ⟨pf, cf, rfl⟩ := hf.form
  clear hv hf kv kf
  obtain ⟨r, hr⟩ : ∃ r, r = ptOutl ⟨i, V, F⟩ := ⟨_, rfl⟩
  rw [← hr]
  unfold ptOutl idB vNames fNames maxId at hr
  have HR := Lib.hid hr
  clear hr
  generalize (outl (V.map fun x => x.name) 1 4) = a at *
  generalize (outl (F.map fun x => x.name) 0 16) = b at *
  generalize V.length = nv at *
  generalize F.length = nf at *
  obtain ⟨d0, d1, d2⟩ := cells3 w (.int .i64 i) (.slice pv nv cv) (.slice pf nf cf) 29
  have HB := Lib.hid (fresh_alloc w (.cells #[.int .i64 i, .slice pv nv cv, .slice pf nf cf] 29))
  go_enter Tryd.func22, Tryd.ntmps22
  by_cases h1 : (1 : Int) ≤ i
  · by_cases h2 : i ≤ 4503599627370496
    · go_wp2_with fail
      refine (HV.out _ HB.out).mono ?_
      rintro e w2 ⟨rfl, b2⟩
      have HB2 := Lib.hid (HB.out.trans (b2.mono HB.out.size))
      have x2 := (b2.block w.heap.size (by simp)).trans (heap_last w (.cells #[.int .i64 i, .slice pv nv cv, .slice pf nf cf] 29))
      obtain ⟨f0, f1, f2⟩ := cells3_of x2
      clear b2 x2
      cases a with
      | true =>
        go_wp2_with fail
        refine (HF.out _ HB2.out).mono ?_
        rintro e w3 ⟨rfl, b3⟩
        have HB3 := Lib.hid (HB2.out.trans (b3.mono HB2.out.size))
        clear b3
        go_wp2_with fail
        go_ret
        exact ⟨by rw [HR.out]; simp [h1, h2], HB3.out⟩
      | false =>
        go_wp2_with fail
        go_ret
        exact ⟨by rw [HR.out]; simp, HB2.out⟩
    · go_wp2_with fail
      go_ret
      exact ⟨by rw [HR.out]; simp [h1]; intros; omega, HB.out⟩
  · go_wp2_with fail
    go_ret
    exact ⟨by rw [HR.out]; simp; intros; omega, HB.out⟩
set_option maxHeartbeats 1000000 in
set_option maxRecDepth 100000 in
theorem ptMay_any (i : Int) (vv fv : Value) (V : List Vec) (F : List Fld) (w : World) (G : Gp w) (hv : VecsAt w vv V) (hf : FldsAt w fv F) (kv : VecsOk V) (kf : FldsOk F) :
    Calls Tryd.prog 35 #[.agg #[.int .i64 i, vv, fv]] w fun e w' => e = .returned (.bool (ptMay ⟨i, V, F⟩)) ∧ Below w.heap.size w w' := by
  have HO := Lib.hid (fun W (g : Below w.heap.size w W) => ptOutl_any i vv fv V F W (hv.below g) (hf.below g) kv kf)
  have HV := Lib.hid (fun W (g : Below w.heap.size w W) => allVecs_any V vv W (hv.below g) kv)
  have HF := Lib.hid (fun W (g : Below w.heap.size w W) => allFields_any F fv W (G.fresh g) (hf.below g) kf)
  obtain ⟨pv, cv, rfl⟩ := hv.form
  obtain ⟨pf, cf, rfl⟩ := hf.form
  clear hv hf kv kf
  obtain ⟨r, hr⟩ : ∃ r, r = ptMay ⟨i, V, F⟩ := ⟨_, rfl⟩
  rw [← hr]
  unfold ptMay at hr
  have HR := Lib.hid hr
  clear hr
  generalize ptOutl ⟨i, V, F⟩ = o at *
  generalize (V.all fun x => vecB x.v) = a at *
  generalize (F.all fun x => valB x.val) = b at *
  generalize V.length = nv at *
  generalize F.length = nf at *
  obtain ⟨d0, d1, d2⟩ := cells3 w (.int .i64 i) (.slice pv nv cv) (.slice pf nf cf) 29
  have HB := Lib.hid (fresh_alloc w (.cells #[.int .i64 i, .slice pv nv cv, .slice pf nf cf] 29))
  go_enter Tryd.func35, Tryd.ntmps35
  go_wp2_with fail
  refine (HO.out _ HB.out).mono ?_
  rintro e w1 ⟨rfl, b1⟩
  have HB1 := Lib.hid (HB.out.trans (b1.mono HB.out.size))
  have x1 := (b1.block w.heap.size (by simp)).trans (heap_last w (.cells #[.int .i64 i, .slice pv nv cv, .slice pf nf cf] 29))
  obtain ⟨e0, e1, e2⟩ := cells3_of x1
  have X1 := Lib.hid x1
  have S1 : Hid (w.heap.size < w1.heap.size) := Lib.hid (Nat.lt_of_lt_of_le (by simp) b1.size)
  clear b1 x1 d0 d1 d2
  cases o with
  | true =>
    go_wp2_with fail
    refine (HV.out _ HB1.out).mono ?_
    rintro e w2 ⟨rfl, b2⟩
    have HB2 := Lib.hid (HB1.out.trans (b2.mono HB1.out.size))
    obtain ⟨f0, f1, f2⟩ := cells3_of ((b2.block w.heap.size S1.out).trans X1.out)
    clear b2 e0 e1 e2
    cases a with
    | true =>
      go_wp2_with fail
      refine (HF.out _ HB2.out).mono ?_
      rintro e w3 ⟨rfl, b3⟩
      have HB3 := Lib.hid (HB2.out.trans (b3.mono HB2.out.size))
      clear b3
      go_wp2_with fail
      go_ret
      exact ⟨by rw [HR.out]; simp, HB3.out⟩
    | false =>
      go_wp2_with fail
      go_ret
      exact ⟨by rw [HR.out]; simp, HB2.out⟩
  | false =>
    go_wp2_with fail
    go_ret
    exact ⟨by rw [HR.out]; simp, HB1.out⟩
end Go.Proofs.YtfppemgagifmpaaDoor
