/- payload's Same. Conditions: those that each theorem names. -/
import Derived.Test.YtifghohaelmjjaaDoorPlSn
namespace Go.Proofs.YtifghohaelmjjaaDoor
set_option linter.unusedVariables false
open Go Go.RowKit Go.Shelf Pl
theorem pt_eq {a b : Pt} : a = b ↔ a.id = b.id ∧ a.vecs = b.vecs ∧ a.flds = b.flds := by
  obtain ⟨i, v, f⟩ := a
  obtain ⟨j, u, g⟩ := b
  simp only [Pt.mk.injEq]
theorem isB_pt (a b : Pt) : isB (a = b) = ((a.id == b.id) && (isB (a.vecs = b.vecs) && isB (a.flds = b.flds))) := isB_of (by rw [pt_eq]; simp only [Bool.and_eq_true, isB_iff, beq_iff_eq])
/-- A point that lies in a box. -/
theorem three_boxes (w : World) (a b c a' b' c' : Value) (T : TypeId) :
    (((w.alloc (.cells #[a, b, c] T)).alloc (.cells #[a', b', c'] T)).cell? ⟨w.heap.size, 0, none⟩ = some a ∧ ((w.alloc (.cells #[a, b, c] T)).alloc (.cells #[a', b', c'] T)).cell? ⟨w.heap.size, 1, none⟩ = some b ∧ ((w.alloc (.cells #[a, b, c] T)).alloc (.cells #[a', b', c'] T)).cell? ⟨w.heap.size, 2, none⟩ = some c) ∧
    (((w.alloc (.cells #[a, b, c] T)).alloc (.cells #[a', b', c'] T)).cell? ⟨w.heap.size + 1, 0, none⟩ = some a' ∧ ((w.alloc (.cells #[a, b, c] T)).alloc (.cells #[a', b', c'] T)).cell? ⟨w.heap.size + 1, 1, none⟩ = some b' ∧ ((w.alloc (.cells #[a, b, c] T)).alloc (.cells #[a', b', c'] T)).cell? ⟨w.heap.size + 1, 2, none⟩ = some c') ∧
    Below w.heap.size w ((w.alloc (.cells #[a, b, c] T)).alloc (.cells #[a', b', c'] T)) := by
  have h1 := heap_last (w.alloc (.cells #[a, b, c] T)) (.cells #[a', b', c'] T)
  rw [show (w.alloc (.cells #[a, b, c] T)).heap.size = w.heap.size + 1 by simp] at h1
  exact ⟨cells3_of ((heap_old _ _ (by simp)).trans (heap_last _ _)), cells3_of h1, (fresh_alloc w _).alloc (by simp) _⟩
theorem box_later {w W X : World} {g i : Nat} {v : Value} (h : W.cell? ⟨g, i, none⟩ = some v) (hb : Below W.heap.size W X) (hg : g < W.heap.size) : X.cell? ⟨g, i, none⟩ = some v := by
  rw [← h]; exact World.cell?_of_block (w := W) (hb.block g hg)
set_option maxHeartbeats 2000000 in
set_option maxRecDepth 100000 in
theorem same_any (a b : Pt) (u v x y : Value) (w : World) (hu : VecsAt w u a.vecs) (hv : VecsAt w v b.vecs) (hx : FldsAt w x a.flds) (hy : FldsAt w y b.flds) (oa : VecsOk a.vecs) (ob : VecsOk b.vecs) (fa : FldsOk a.flds) (fb : FldsOk b.flds) :
    Calls Tryd.prog 25 #[.agg #[.int .i64 a.id, u, x], .agg #[.int .i64 b.id, v, y]] w fun e w' => e = .returned (.bool (isB (a = b))) ∧ Below w.heap.size w w' := by
  rw [isB_pt]
  have HV := Lib.hid (fun W (g : Below w.heap.size w W) => equalVecs_any a.vecs b.vecs u v W (hu.below g) (hv.below g) oa ob)
  have HF := Lib.hid (fun W (g : Below w.heap.size w W) => equalFlds_any a.flds b.flds x y W (hx.below g) (hy.below g) (room_len fa.1) (room_len fb.1))
  obtain ⟨p1, c1, rfl⟩ := hu.form
  obtain ⟨p2, c2, rfl⟩ := hv.form
  obtain ⟨p3, c3, rfl⟩ := hx.form
  obtain ⟨p4, c4, rfl⟩ := hy.form
  clear hu hv hx hy oa ob fa fb
  generalize isB (a.vecs = b.vecs) = r1 at *
  generalize isB (a.flds = b.flds) = r2 at *
  generalize a.vecs.length = m1 at *
  generalize b.vecs.length = m2 at *
  generalize a.flds.length = m3 at *
  generalize b.flds.length = m4 at *
  generalize a.id = i at *
  generalize b.id = j at *
  obtain ⟨⟨a0, a1, a2⟩, ⟨b0, b1, b2⟩, hbe⟩ := three_boxes w (.int .i64 i) (.slice p1 m1 c1) (.slice p3 m3 c3) (.int .i64 j) (.slice p2 m2 c2) (.slice p4 m4 c4) 29
  have HB := Lib.hid hbe
  have hsz : w.heap.size + 2 ≤ ((w.alloc (.cells #[.int .i64 i, .slice p1 m1 c1, .slice p3 m3 c3] 29)).alloc (.cells #[.int .i64 j, .slice p2 m2 c2, .slice p4 m4 c4] 29)).heap.size := by simp
  have HSZ := Lib.hid hsz
  have A2 := Lib.hid a2
  have B2 := Lib.hid b2
  clear hbe hsz
  go_enter Tryd.func25, Tryd.ntmps25
  by_cases hij : i = j
  · subst hij
    go_wp2_with fail
    refine (HV.out _ HB.out).mono ?_
    rintro e w2 ⟨rfl, b3⟩
    generalize (w.alloc (.cells #[.int .i64 i, .slice p1 m1 c1, .slice p3 m3 c3] 29)).alloc (.cells #[.int .i64 i, .slice p2 m2 c2, .slice p4 m4 c4] 29) = W0 at *
    have d2 := box_later (w := w) A2.out b3 (by have := HSZ.out; omega)
    have e2 := box_later (w := w) B2.out b3 (by have := HSZ.out; omega)
    have HB2 := Lib.hid (HB.out.trans (b3.mono HB.out.size))
    clear b3 a0 a1 a2 b0 b1 b2
    cases r1 with
    | true =>
      go_wp2_with fail
      refine (HF.out _ HB2.out).mono ?_
      rintro e w3 ⟨rfl, b4⟩
      have HB3 := Lib.hid (HB2.out.trans (b4.mono HB2.out.size))
      clear b4 d2 e2
      go_wp2_with fail
      go_ret
      exact ⟨by simp, HB3.out⟩
    | false =>
      go_wp2_with fail
      go_ret
      exact ⟨by simp, HB2.out⟩
  · have hne : (i == j) = false := by simp [hij]
    go_wp2_with fail
    go_ret
    exact ⟨by simp [hij], HB.out⟩
end Go.Proofs.YtifghohaelmjjaaDoor
