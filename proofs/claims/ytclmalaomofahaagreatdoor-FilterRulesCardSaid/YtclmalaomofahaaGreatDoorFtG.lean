/- Whether a point passes a condition: plain, and the document's Passes. Conditions: those that each theorem names. -/
import Derived.Test.YtclmalaomofahaaGreatDoorFtE
import Derived.BigQuiet
namespace Go.Proofs.YtclmalaomofahaaGreatDoor
set_option linter.unusedVariables false
namespace Ft
open Go Go.RowKit Pq Pq.Pl Rk Px
section
variable {F : List Fld} {c : Cd}
theorem pass_is : pass F c = if c.kind = 1 then true else if c.kind = 3 then (getL F c.name).isSome else if c.kind = 4 then isB c.val (getL F c.name) else if c.kind = 5 then inB c.low c.high (getL F c.name) else if c.kind = 6 then passNot F c.list else if c.kind = 7 then passAll F c.list else if c.kind = 8 then passAny F c.list else false := by
  cases c; rw [pass]; rfl
theorem pass1 (h : c.kind = 1) : pass F c = true := by rw [pass_is, h]; rfl
theorem pass3 (h : c.kind = 3) : pass F c = (getL F c.name).isSome := by rw [pass_is, h]; rfl
theorem pass4 (h : c.kind = 4) : pass F c = isB c.val (getL F c.name) := by rw [pass_is, h]; rfl
theorem pass5 (h : c.kind = 5) : pass F c = inB c.low c.high (getL F c.name) := by rw [pass_is, h]; rfl
theorem pass6 (h : c.kind = 6) : pass F c = passNot F c.list := by rw [pass_is, h]; rfl
theorem pass7 (h : c.kind = 7) : pass F c = passAll F c.list := by rw [pass_is, h]; rfl
theorem pass8 (h : c.kind = 8) : pass F c = passAny F c.list := by rw [pass_is, h]; rfl
theorem pass0 (h1 : ¬ c.kind = 1) (h3 : ¬ c.kind = 3) (h4 : ¬ c.kind = 4) (h5 : ¬ c.kind = 5) (h6 : ¬ c.kind = 6) (h7 : ¬ c.kind = 7) (h8 : ¬ c.kind = 8) : pass F c = false := by
  rw [pass_is, if_neg h1, if_neg h3, if_neg h4, if_neg h5, if_neg h6, if_neg h7, if_neg h8]
theorem passAll_iff : ∀ {l : List Cd}, passAll F l = true ↔ ∀ x ∈ l, pass F x = true
  | [] => by simp [passAll]
  | c :: l => by simp [passAll, passAll_iff (l := l)]
theorem passAny_iff : ∀ {l : List Cd}, passAny F l = true ↔ ∃ x ∈ l, pass F x = true
  | [] => by simp [passAny]
  | c :: l => by simp [passAny, passAny_iff (l := l)]
theorem all_no {l : List Cd} {q : Nat} (h : q < l.length) (hx : pass F l[q] = false) : passAll F l = false := by
  rw [← Bool.not_eq_true, passAll_iff]
  intro c
  have := c _ (List.getElem_mem h)
  rw [this] at hx
  cases hx
theorem all_yes {l : List Cd} (h : ∀ q (h : q < l.length), pass F l[q] = true) : passAll F l = true := passAll_iff.2 fun x hx => by
  obtain ⟨i, hi, rfl⟩ := List.getElem_of_mem hx
  exact h i hi
theorem any_yes {l : List Cd} {q : Nat} (h : q < l.length) (hx : pass F l[q] = true) : passAny F l = true := passAny_iff.2 ⟨_, List.getElem_mem h, hx⟩
theorem any_no {l : List Cd} (h : ∀ q (h : q < l.length), pass F l[q] = false) : passAny F l = false := by
  rw [← Bool.not_eq_true, passAny_iff]
  rintro ⟨x, hx, hp⟩
  obtain ⟨i, hi, rfl⟩ := List.getElem_of_mem hx
  rw [h i hi] at hp
  cases hp
theorem not_one {l : List Cd} (h : l.length = 1) : passNot F l = !pass F (l[0]'(by omega)) := by
  match l, h with
  | [x], _ => simp [passNot]
theorem not_else {l : List Cd} (h : ¬ l.length = 1) : passNot F l = false := by
  match l, h with
  | [], _ => simp [passNot]
  | [x], h => exact absurd rfl h
  | x :: y :: l, _ => simp [passNot]
end
/-- What Get answers, in one form. -/
theorem got_is (o : Option Val) : ∃ (xk xn : Int) (xt : Nm) (b : Bool), gotV o = .tuple #[.agg #[.int .i64 xk, .int .i64 xn, .string xt], .bool b] ∧ o.isSome = b ∧ (∀ lo hi, inB lo hi o = (b && (xk == 1) && decide (lo ≤ xn) && decide (xn ≤ hi))) ∧ ∀ v, isB v o = (b && decide (cmpV ⟨xk, xn, xt⟩ v = 0)) := by
  cases o with
  | none => exact ⟨0, 0, ⟨#[]⟩, false, rfl, rfl, fun _ _ => rfl, fun _ => rfl⟩
  | some x =>
    refine ⟨x.kind, x.n, x.text, true, rfl, rfl, fun lo hi => ?_, fun v => ?_⟩
    · simp only [inB, Bool.true_and]
      rfl
    · simp only [isB, Bool.true_and]
theorem retb {a b : Bool} (h : b = a) : Ending.returned (.bool a) = .returned (.bool b) := by rw [h]
abbrev pv (p : Rp) : Value := .agg #[.int .i64 p.id, .slice p.v.p p.v.n p.v.c, .slice p.f.p p.f.n p.f.c]
abbrev pbox (p : Rp) : Obj := .cells #[.int .i64 p.id, .slice p.v.p p.v.n p.v.c, .slice p.f.p p.f.n p.f.c] 30
/-- Whether a point of the fields F passes the condition, wherever both lie. -/
def PassOk (f : Nat) (c : Cd) : Prop := ∀ (F : List Fld) (r : Rc) (p : Rp) (w : World), CdW (fun _ => True) w c r → Big c → FldsAt w (.slice p.f.p p.f.n p.f.c) F → FldsOk F →
  Calls Tryz.prog f #[cv r, pv p] w fun e w' => e = .returned (.bool (pass F c)) ∧ Below w.heap.size w w'
theorem pass_all {f : Nat} (h : ∀ c, (∀ x ∈ c.list, PassOk f x) → PassOk f c) : ∀ c, PassOk f c := by
  suffices ∀ n (c : Cd), SizeOf.sizeOf c ≤ n → PassOk f c from fun c => this _ c (Nat.le_refl _)
  intro n
  induction n with
  | zero => intro c hc; cases c; simp at hc
  | succ n ih =>
    intro c hc
    refine h c fun x hx => ih x ?_
    obtain ⟨k, nm, v, lo, hi, l⟩ := c
    have := List.sizeOf_lt_of_mem hx
    simp only [Cd.list] at this
    simp at hc
    omega
theorem boxes (w : World) (a : Rc) (b : Rp) : Below w.heap.size w ((w.alloc (cobj a)).alloc (pbox b)) ∧ ((w.alloc (cobj a)).alloc (pbox b)).heap[w.heap.size]? = some (cobj a) ∧ ((w.alloc (cobj a)).alloc (pbox b)).heap[w.heap.size + 1]? = some (pbox b) := by
  have s1 : (w.alloc (cobj a)).heap.size = w.heap.size + 1 := by simp
  exact ⟨((Below.refl _ w).alloc (Nat.le_refl _) _).alloc (by simp) _, by rw [Rk.heap_old _ _ (by omega), Rk.heap_last], by rw [← s1, Rk.heap_last]⟩
theorem cells3 {w : World} {g : Nat} {a0 a1 a2 : Value} {T : TypeId} {m : Nat × Nat} (h : w.heap[g]? = some (.cells #[a0, a1, a2] T m)) : w.cell? ⟨g, 0, none⟩ = some a0 ∧ w.cell? ⟨g, 1, none⟩ = some a1 ∧ w.cell? ⟨g, 2, none⟩ = some a2 :=
  ⟨Lib.cell_of_heap h 0, Lib.cell_of_heap h 1, Lib.cell_of_heap h 2⟩
set_option maxHeartbeats 2000000 in
set_option maxRecDepth 100000 in
theorem rpass_1 (c : Cd) (hk : c.kind = 1) (F : List Fld) (r : Rc) (p : Rp) (w : World) (h : CdW (fun _ => True) w c r) (hbig : Big c) (hf : FldsAt w (.slice p.f.p p.f.n p.f.c) F) (hok : FldsOk F) :
    Calls Tryz.prog 9 #[cv r, pv p] w fun e w' => e = .returned (.bool (pass F c)) ∧ Below w.heap.size w w' := by
  have HL := Lib.hid h.len
  have HP := Lib.hid h.parts
  have HK := Lib.hid h.kid
  have HB := Lib.hid hbig.parts
  have HT := Lib.hid (boxes w r p)
  have HG := Lib.hid (rget_any F _ c.name _ (hf.below HT.out.1) hok)
  have HFO := Lib.hid hok
  have HFA := Lib.hid (fun W (hW : Below w.heap.size w W) => hf.below hW)
  obtain ⟨xk, xn, xt, hb, hgot, hsome, hin, his⟩ := got_is (getL F c.name)
  rw [hgot] at HG
  have HPS : Hid (pass F c = true) := Lib.hid (pass1 hk)
  rw [HPS.out]
  obtain ⟨p1, p2, p3, p4, p5, _⟩ := h.parts
  have hln := h.len
  clear h hbig hf hok hgot hsome hin his
  obtain ⟨rk, rn, rv, rlo, rhi, ⟨rp, rl, rcap⟩⟩ := r
  obtain ⟨pid, ⟨vp, vn, vc⟩, ⟨fp, fn, fc⟩⟩ := p
  simp only at hln p1 p2 p3 p4 p5
  obtain rfl : rk = 1 := p1.trans hk
  subst p2 p3 p4 p5 hln
  clear hk p1
  obtain ⟨w1, hw1⟩ : ∃ w1, w1 = (w.alloc (cobj ⟨1, c.name, c.val, c.low, c.high, ⟨rp, c.list.length, rcap⟩⟩)).alloc (pbox ⟨pid, ⟨vp, vn, vc⟩, ⟨fp, fn, fc⟩⟩) := ⟨_, rfl⟩
  rw [← hw1] at HT HG
  obtain ⟨_, a1, _⟩ := cells8 HT.out.2.1
  obtain ⟨_, _, b2⟩ := cells3 HT.out.2.2
  go_enter Tryz.func9, Tryz.ntmps9
  go_wp2_with fail
  rw [← hw1]
  clear hw1
  refine HG.out.mono ?_
  clear HG
  rintro e w2 ⟨rfl, hb2⟩
  have HB2 := Lib.hid (HT.out.1.trans (hb2.mono HT.out.1.size))
  have hvb := Rk.fresh_alloc w2 (.cells #[.int .i64 xk, .int .i64 xn, .string xt] 23)
  have HBX := Lib.hid (HB2.out.trans (hvb.mono HB2.out.size))
  have z1 := (hvb.block _ (Nat.lt_of_lt_of_le (Rk.lt_of_block HT.out.2.1) hb2.size)).trans ((hb2.block _ (Rk.lt_of_block HT.out.2.1)).trans HT.out.2.1)
  have z2 := (hvb.block _ (Nat.lt_of_lt_of_le (Rk.lt_of_block HT.out.2.2) hb2.size)).trans ((hb2.block _ (Rk.lt_of_block HT.out.2.2)).trans HT.out.2.2)
  have z3 := Rk.heap_last w2 (.cells #[.int .i64 xk, .int .i64 xn, .string xt] 23)
  have HZ1 := Lib.hid z1
  have HZ2 := Lib.hid z2
  obtain ⟨c0, c1, c2, c3, c4, c5, c6, c7⟩ := cells8 z1
  obtain ⟨d0, d1, d2⟩ := cells3 z2
  obtain ⟨e0, e1, e2⟩ := cells3 z3
  simp only at c0 c1 c2 c3 c4 c5 c6 c7 d0 d1 d2
  clear z1 z2 z3 a1 b2 hb2 hvb
  go_wp2_with fail
  go_ret
  exact ⟨rfl, HBX.out⟩
set_option maxHeartbeats 2000000 in
set_option maxRecDepth 100000 in
theorem rpass_3 (c : Cd) (hk : c.kind = 3) (F : List Fld) (r : Rc) (p : Rp) (w : World) (h : CdW (fun _ => True) w c r) (hbig : Big c) (hf : FldsAt w (.slice p.f.p p.f.n p.f.c) F) (hok : FldsOk F) :
    Calls Tryz.prog 9 #[cv r, pv p] w fun e w' => e = .returned (.bool (pass F c)) ∧ Below w.heap.size w w' := by
  have HL := Lib.hid h.len
  have HP := Lib.hid h.parts
  have HK := Lib.hid h.kid
  have HB := Lib.hid hbig.parts
  have HT := Lib.hid (boxes w r p)
  have HG := Lib.hid (rget_any F _ c.name _ (hf.below HT.out.1) hok)
  have HFO := Lib.hid hok
  have HFA := Lib.hid (fun W (hW : Below w.heap.size w W) => hf.below hW)
  obtain ⟨xk, xn, xt, hb, hgot, hsome, hin, his⟩ := got_is (getL F c.name)
  rw [hgot] at HG
  have HPS : Hid (pass F c = hb) := Lib.hid ((pass3 hk).trans hsome)
  rw [HPS.out]
  obtain ⟨p1, p2, p3, p4, p5, _⟩ := h.parts
  have hln := h.len
  clear h hbig hf hok hgot hsome hin his
  obtain ⟨rk, rn, rv, rlo, rhi, ⟨rp, rl, rcap⟩⟩ := r
  obtain ⟨pid, ⟨vp, vn, vc⟩, ⟨fp, fn, fc⟩⟩ := p
  simp only at hln p1 p2 p3 p4 p5
  obtain rfl : rk = 3 := p1.trans hk
  subst p2 p3 p4 p5 hln
  clear hk p1
  obtain ⟨w1, hw1⟩ : ∃ w1, w1 = (w.alloc (cobj ⟨3, c.name, c.val, c.low, c.high, ⟨rp, c.list.length, rcap⟩⟩)).alloc (pbox ⟨pid, ⟨vp, vn, vc⟩, ⟨fp, fn, fc⟩⟩) := ⟨_, rfl⟩
  rw [← hw1] at HT HG
  obtain ⟨_, a1, _⟩ := cells8 HT.out.2.1
  obtain ⟨_, _, b2⟩ := cells3 HT.out.2.2
  go_enter Tryz.func9, Tryz.ntmps9
  go_wp2_with fail
  rw [← hw1]
  clear hw1
  refine HG.out.mono ?_
  clear HG
  rintro e w2 ⟨rfl, hb2⟩
  have HB2 := Lib.hid (HT.out.1.trans (hb2.mono HT.out.1.size))
  have hvb := Rk.fresh_alloc w2 (.cells #[.int .i64 xk, .int .i64 xn, .string xt] 23)
  have HBX := Lib.hid (HB2.out.trans (hvb.mono HB2.out.size))
  have z1 := (hvb.block _ (Nat.lt_of_lt_of_le (Rk.lt_of_block HT.out.2.1) hb2.size)).trans ((hb2.block _ (Rk.lt_of_block HT.out.2.1)).trans HT.out.2.1)
  have z2 := (hvb.block _ (Nat.lt_of_lt_of_le (Rk.lt_of_block HT.out.2.2) hb2.size)).trans ((hb2.block _ (Rk.lt_of_block HT.out.2.2)).trans HT.out.2.2)
  have z3 := Rk.heap_last w2 (.cells #[.int .i64 xk, .int .i64 xn, .string xt] 23)
  have HZ1 := Lib.hid z1
  have HZ2 := Lib.hid z2
  obtain ⟨c0, c1, c2, c3, c4, c5, c6, c7⟩ := cells8 z1
  obtain ⟨d0, d1, d2⟩ := cells3 z2
  obtain ⟨e0, e1, e2⟩ := cells3 z3
  simp only at c0 c1 c2 c3 c4 c5 c6 c7 d0 d1 d2
  clear z1 z2 z3 a1 b2 hb2 hvb
  go_wp2_with fail
  go_ret
  exact ⟨rfl, HBX.out⟩
set_option maxHeartbeats 2000000 in
set_option maxRecDepth 100000 in
theorem rpass_5 (c : Cd) (hk : c.kind = 5) (F : List Fld) (r : Rc) (p : Rp) (w : World) (h : CdW (fun _ => True) w c r) (hbig : Big c) (hf : FldsAt w (.slice p.f.p p.f.n p.f.c) F) (hok : FldsOk F) :
    Calls Tryz.prog 9 #[cv r, pv p] w fun e w' => e = .returned (.bool (pass F c)) ∧ Below w.heap.size w w' := by
  have HL := Lib.hid h.len
  have HP := Lib.hid h.parts
  have HK := Lib.hid h.kid
  have HB := Lib.hid hbig.parts
  have HT := Lib.hid (boxes w r p)
  have HG := Lib.hid (rget_any F _ c.name _ (hf.below HT.out.1) hok)
  have HFO := Lib.hid hok
  have HFA := Lib.hid (fun W (hW : Below w.heap.size w W) => hf.below hW)
  obtain ⟨xk, xn, xt, hb, hgot, hsome, hin, his⟩ := got_is (getL F c.name)
  rw [hgot] at HG
  have HPS : Hid (pass F c = (hb && (xk == 1) && decide (c.low ≤ xn) && decide (xn ≤ c.high))) := Lib.hid ((pass5 hk).trans (hin _ _))
  rw [HPS.out]
  obtain ⟨p1, p2, p3, p4, p5, _⟩ := h.parts
  have hln := h.len
  clear h hbig hf hok hgot hsome hin his
  obtain ⟨rk, rn, rv, rlo, rhi, ⟨rp, rl, rcap⟩⟩ := r
  obtain ⟨pid, ⟨vp, vn, vc⟩, ⟨fp, fn, fc⟩⟩ := p
  simp only at hln p1 p2 p3 p4 p5
  obtain rfl : rk = 5 := p1.trans hk
  subst p2 p3 p4 p5 hln
  clear hk p1
  obtain ⟨w1, hw1⟩ : ∃ w1, w1 = (w.alloc (cobj ⟨5, c.name, c.val, c.low, c.high, ⟨rp, c.list.length, rcap⟩⟩)).alloc (pbox ⟨pid, ⟨vp, vn, vc⟩, ⟨fp, fn, fc⟩⟩) := ⟨_, rfl⟩
  rw [← hw1] at HT HG
  obtain ⟨_, a1, _⟩ := cells8 HT.out.2.1
  obtain ⟨_, _, b2⟩ := cells3 HT.out.2.2
  go_enter Tryz.func9, Tryz.ntmps9
  go_wp2_with fail
  rw [← hw1]
  clear hw1
  refine HG.out.mono ?_
  clear HG
  rintro e w2 ⟨rfl, hb2⟩
  have HB2 := Lib.hid (HT.out.1.trans (hb2.mono HT.out.1.size))
  have hvb := Rk.fresh_alloc w2 (.cells #[.int .i64 xk, .int .i64 xn, .string xt] 23)
  have HBX := Lib.hid (HB2.out.trans (hvb.mono HB2.out.size))
  have z1 := (hvb.block _ (Nat.lt_of_lt_of_le (Rk.lt_of_block HT.out.2.1) hb2.size)).trans ((hb2.block _ (Rk.lt_of_block HT.out.2.1)).trans HT.out.2.1)
  have z2 := (hvb.block _ (Nat.lt_of_lt_of_le (Rk.lt_of_block HT.out.2.2) hb2.size)).trans ((hb2.block _ (Rk.lt_of_block HT.out.2.2)).trans HT.out.2.2)
  have z3 := Rk.heap_last w2 (.cells #[.int .i64 xk, .int .i64 xn, .string xt] 23)
  have HZ1 := Lib.hid z1
  have HZ2 := Lib.hid z2
  obtain ⟨c0, c1, c2, c3, c4, c5, c6, c7⟩ := cells8 z1
  obtain ⟨d0, d1, d2⟩ := cells3 z2
  obtain ⟨e0, e1, e2⟩ := cells3 z3
  simp only at c0 c1 c2 c3 c4 c5 c6 c7 d0 d1 d2
  clear z1 z2 z3 a1 b2 hb2 hvb
  cases hb
  · go_wp2_with fail
    go_ret
    exact ⟨rfl, HBX.out⟩
  · cases hx1 : (xk == 1)
    · go_wp2_with fail
      go_ret
      exact ⟨retb (by simp [hx1]), HBX.out⟩
    · cases hx2 : decide (c.low ≤ xn)
      · go_wp2_with fail
        go_ret
        exact ⟨retb (by simp [hx1, hx2]), HBX.out⟩
      · go_wp2_with fail
        go_ret
        exact ⟨retb (by simp only [hx1, hx2, Bool.true_and]), HBX.out⟩
set_option maxHeartbeats 2000000 in
set_option maxRecDepth 100000 in
theorem rpass_4 (c : Cd) (hk : c.kind = 4) (F : List Fld) (r : Rc) (p : Rp) (w : World) (h : CdW (fun _ => True) w c r) (hbig : Big c) (hf : FldsAt w (.slice p.f.p p.f.n p.f.c) F) (hok : FldsOk F) :
    Calls Tryz.prog 9 #[cv r, pv p] w fun e w' => e = .returned (.bool (pass F c)) ∧ Below w.heap.size w w' := by
  have HL := Lib.hid h.len
  have HP := Lib.hid h.parts
  have HK := Lib.hid h.kid
  have HB := Lib.hid hbig.parts
  have HT := Lib.hid (boxes w r p)
  have HG := Lib.hid (rget_any F _ c.name _ (hf.below HT.out.1) hok)
  have HFO := Lib.hid hok
  have HFA := Lib.hid (fun W (hW : Below w.heap.size w W) => hf.below hW)
  obtain ⟨xk, xn, xt, hb, hgot, hsome, hin, his⟩ := got_is (getL F c.name)
  rw [hgot] at HG
  have HPS : Hid (pass F c = (hb && decide (cmpV ⟨xk, xn, xt⟩ c.val = 0))) := Lib.hid ((pass4 hk).trans (his _))
  rw [HPS.out]
  obtain ⟨p1, p2, p3, p4, p5, _⟩ := h.parts
  have hln := h.len
  clear h hbig hf hok hgot hsome hin his
  obtain ⟨rk, rn, rv, rlo, rhi, ⟨rp, rl, rcap⟩⟩ := r
  obtain ⟨pid, ⟨vp, vn, vc⟩, ⟨fp, fn, fc⟩⟩ := p
  simp only at hln p1 p2 p3 p4 p5
  obtain rfl : rk = 4 := p1.trans hk
  subst p2 p3 p4 p5 hln
  clear hk p1
  obtain ⟨w1, hw1⟩ : ∃ w1, w1 = (w.alloc (cobj ⟨4, c.name, c.val, c.low, c.high, ⟨rp, c.list.length, rcap⟩⟩)).alloc (pbox ⟨pid, ⟨vp, vn, vc⟩, ⟨fp, fn, fc⟩⟩) := ⟨_, rfl⟩
  rw [← hw1] at HT HG
  obtain ⟨_, a1, _⟩ := cells8 HT.out.2.1
  obtain ⟨_, _, b2⟩ := cells3 HT.out.2.2
  go_enter Tryz.func9, Tryz.ntmps9
  go_wp2_with fail
  rw [← hw1]
  clear hw1
  refine HG.out.mono ?_
  clear HG
  rintro e w2 ⟨rfl, hb2⟩
  have HB2 := Lib.hid (HT.out.1.trans (hb2.mono HT.out.1.size))
  have hvb := Rk.fresh_alloc w2 (.cells #[.int .i64 xk, .int .i64 xn, .string xt] 23)
  have HBX := Lib.hid (HB2.out.trans (hvb.mono HB2.out.size))
  have z1 := (hvb.block _ (Nat.lt_of_lt_of_le (Rk.lt_of_block HT.out.2.1) hb2.size)).trans ((hb2.block _ (Rk.lt_of_block HT.out.2.1)).trans HT.out.2.1)
  have z2 := (hvb.block _ (Nat.lt_of_lt_of_le (Rk.lt_of_block HT.out.2.2) hb2.size)).trans ((hb2.block _ (Rk.lt_of_block HT.out.2.2)).trans HT.out.2.2)
  have z3 := Rk.heap_last w2 (.cells #[.int .i64 xk, .int .i64 xn, .string xt] 23)
  have HZ1 := Lib.hid z1
  have HZ2 := Lib.hid z2
  obtain ⟨c0, c1, c2, c3, c4, c5, c6, c7⟩ := cells8 z1
  obtain ⟨d0, d1, d2⟩ := cells3 z2
  obtain ⟨e0, e1, e2⟩ := cells3 z3
  simp only at c0 c1 c2 c3 c4 c5 c6 c7 d0 d1 d2
  clear z1 z2 z3 a1 b2 hb2 hvb
  have HC := Lib.hid (fun W => rcompare_any xk xn c.val.kind c.val.n xt c.val.text W)
  obtain ⟨cz, hcz⟩ : ∃ cz, cz = cmpV ⟨xk, xn, xt⟩ c.val := ⟨_, rfl⟩
  change Hid (∀ W, Calls _ _ _ W fun e w' => e = .returned (.int .i64 (cmpV ⟨xk, xn, xt⟩ c.val)) ∧ _) at HC
  rw [← hcz] at HC
  have HCZ := Lib.hid hcz
  clear hcz
  cases hb
  · clear HC
    go_wp2_with fail
    go_ret
    exact ⟨rfl, HBX.out⟩
  · go_wp2_with fail
    refine (HC.out _).mono ?_
    clear HC
    rintro e w4 ⟨rfl, hb4⟩
    have HB4 := Lib.hid (HBX.out.trans (hb4.mono HBX.out.size))
    clear hb4
    go_wp2_with fail
    go_ret
    exact ⟨retb (by rw [Bool.true_and, ← HCZ.out]; rfl), HB4.out⟩
set_option maxHeartbeats 2000000 in
set_option maxRecDepth 100000 in
theorem rpass_6 (c : Cd) (ih : ∀ x ∈ c.list, PassOk 9 x) (hk : c.kind = 6) (F : List Fld) (r : Rc) (p : Rp) (w : World) (h : CdW (fun _ => True) w c r) (hbig : Big c) (hf : FldsAt w (.slice p.f.p p.f.n p.f.c) F) (hok : FldsOk F) :
    Calls Tryz.prog 9 #[cv r, pv p] w fun e w' => e = .returned (.bool (pass F c)) ∧ Below w.heap.size w w' := by
  have HL := Lib.hid h.len
  have HP := Lib.hid h.parts
  have HK := Lib.hid h.kid
  have HB := Lib.hid hbig.parts
  have HT := Lib.hid (boxes w r p)
  have HG := Lib.hid (rget_any F _ c.name _ (hf.below HT.out.1) hok)
  have HFO := Lib.hid hok
  have HFA := Lib.hid (fun W (hW : Below w.heap.size w W) => hf.below hW)
  obtain ⟨xk, xn, xt, hb, hgot, hsome, hin, his⟩ := got_is (getL F c.name)
  rw [hgot] at HG
  have HPS : Hid (pass F c = passNot F c.list) := Lib.hid (pass6 hk)
  rw [HPS.out]
  obtain ⟨p1, p2, p3, p4, p5, _⟩ := h.parts
  have hln := h.len
  clear h hbig hf hok hgot hsome hin his
  obtain ⟨rk, rn, rv, rlo, rhi, ⟨rp, rl, rcap⟩⟩ := r
  obtain ⟨pid, ⟨vp, vn, vc⟩, ⟨fp, fn, fc⟩⟩ := p
  simp only at hln p1 p2 p3 p4 p5
  obtain rfl : rk = 6 := p1.trans hk
  subst p2 p3 p4 p5 hln
  clear hk p1
  obtain ⟨w1, hw1⟩ : ∃ w1, w1 = (w.alloc (cobj ⟨6, c.name, c.val, c.low, c.high, ⟨rp, c.list.length, rcap⟩⟩)).alloc (pbox ⟨pid, ⟨vp, vn, vc⟩, ⟨fp, fn, fc⟩⟩) := ⟨_, rfl⟩
  rw [← hw1] at HT HG
  obtain ⟨_, a1, _⟩ := cells8 HT.out.2.1
  obtain ⟨_, _, b2⟩ := cells3 HT.out.2.2
  go_enter Tryz.func9, Tryz.ntmps9
  go_wp2_with fail
  rw [← hw1]
  clear hw1
  refine HG.out.mono ?_
  clear HG
  rintro e w2 ⟨rfl, hb2⟩
  have HB2 := Lib.hid (HT.out.1.trans (hb2.mono HT.out.1.size))
  have hvb := Rk.fresh_alloc w2 (.cells #[.int .i64 xk, .int .i64 xn, .string xt] 23)
  have HBX := Lib.hid (HB2.out.trans (hvb.mono HB2.out.size))
  have z1 := (hvb.block _ (Nat.lt_of_lt_of_le (Rk.lt_of_block HT.out.2.1) hb2.size)).trans ((hb2.block _ (Rk.lt_of_block HT.out.2.1)).trans HT.out.2.1)
  have z2 := (hvb.block _ (Nat.lt_of_lt_of_le (Rk.lt_of_block HT.out.2.2) hb2.size)).trans ((hb2.block _ (Rk.lt_of_block HT.out.2.2)).trans HT.out.2.2)
  have z3 := Rk.heap_last w2 (.cells #[.int .i64 xk, .int .i64 xn, .string xt] 23)
  have HZ1 := Lib.hid z1
  have HZ2 := Lib.hid z2
  obtain ⟨c0, c1, c2, c3, c4, c5, c6, c7⟩ := cells8 z1
  obtain ⟨d0, d1, d2⟩ := cells3 z2
  obtain ⟨e0, e1, e2⟩ := cells3 z3
  simp only at c0 c1 c2 c3 c4 c5 c6 c7 d0 d1 d2
  clear z1 z2 z3 a1 b2 hb2 hvb
  have HI := Lib.hid ih
  clear ih
  by_cases h1 : c.list.length = 1
  · have hlt : 0 < c.list.length := by omega
    have HN : Hid (passNot F c.list = !pass F c.list[0]) := Lib.hid (not_one h1)
    have hg1 : ((c.list.length : Int) == 1) = true := by simp; omega
    go_upto_region 12 with fail
    obtain ⟨wo, hwo⟩ : ∃ wo, wo = w2.alloc (.cells #[.int .i64 xk, .int .i64 xn, .string xt] 23) := ⟨_, rfl⟩
    rw [← hwo] at HBX c0 c1 c2 c3 c4 c5 c6 c7 d0 d1 d2 ⊢
    clear hwo
    have HBO := HBX
    obtain ⟨g, off, cp, er, hg, r', hw', hc⟩ := HK.out 0 hlt
    simp only [Sl.mk.injEq] at er
    obtain ⟨rfl, _, rfl⟩ := er
    obtain ⟨x0, x1, x2, x3, x4, x5, x6, x7⟩ := hc wo (HBO.out.block g hg)
    have HC := Lib.hid (HI.out _ (List.getElem_mem hlt) F r' ⟨pid, ⟨vp, vn, vc⟩, ⟨fp, fn, fc⟩⟩ wo.drew (hw'.below HBO.out.drew) (HB.out.2.2.2 _ (List.getElem_mem hlt)) (HFA.out _ HBO.out.drew) HFO.out)
    have hqn : (0 : Int) < (c.list.length : Int) := by omega
    obtain ⟨k0, k1, ⟨k2, k3, k4⟩, k5, k6, ⟨k7, k8, k9⟩⟩ := r'
    simp only at x0 x1 x2 x3 x4 x5 x6 x7
    clear hc hw' hg
    simp only [Nat.zero_mul, Nat.add_zero] at x0 x1 x2 x3 x4 x5 x6 x7
    clear h1 e0 e1 e2 HZ1 HZ2
    go_cut [4] (fun b wx => b = .bool (passNot F c.list) ∧ Below w.heap.size w wx)
    case first =>
      go_region_with (go_at_call 9; refine HC.out.mono ?_; rintro e w5 ⟨rfl, hb5⟩)
      all_goals go_wp2_with fail
      all_goals go_meet
      all_goals exact ⟨by rw [HN.out], HBO.out.drew.trans (hb5.mono HBO.out.size)⟩
    case rest =>
      obtain ⟨rfl, hb6⟩ := hcut
      have HB6 := Lib.hid hb6
      clear hb6 HC
      go_wp2_with fail
      go_ret
      exact ⟨rfl, HB6.out⟩
  · have HN : Hid (passNot F c.list = false) := Lib.hid (not_else h1)
    have hg1 : ((c.list.length : Int) == 1) = false := by simp; omega
    clear h1
    go_wp2_with fail
    go_region
    go_wp2_with fail
    go_ret
    exact ⟨retb (by rw [HN.out]), HBX.out.drew⟩
set_option maxHeartbeats 2000000 in
set_option maxRecDepth 100000 in
theorem rpass_7 (c : Cd) (ih : ∀ x ∈ c.list, PassOk 9 x) (hk : c.kind = 7) (F : List Fld) (r : Rc) (p : Rp) (w : World) (h : CdW (fun _ => True) w c r) (hbig : Big c) (hf : FldsAt w (.slice p.f.p p.f.n p.f.c) F) (hok : FldsOk F) :
    Calls Tryz.prog 9 #[cv r, pv p] w fun e w' => e = .returned (.bool (pass F c)) ∧ Below w.heap.size w w' := by
  have HL := Lib.hid h.len
  have HP := Lib.hid h.parts
  have HK := Lib.hid h.kid
  have HB := Lib.hid hbig.parts
  have HT := Lib.hid (boxes w r p)
  have HG := Lib.hid (rget_any F _ c.name _ (hf.below HT.out.1) hok)
  have HFO := Lib.hid hok
  have HFA := Lib.hid (fun W (hW : Below w.heap.size w W) => hf.below hW)
  obtain ⟨xk, xn, xt, hb, hgot, hsome, hin, his⟩ := got_is (getL F c.name)
  rw [hgot] at HG
  have HPS : Hid (pass F c = passAll F c.list) := Lib.hid (pass7 hk)
  rw [HPS.out]
  obtain ⟨p1, p2, p3, p4, p5, _⟩ := h.parts
  have hln := h.len
  clear h hbig hf hok hgot hsome hin his
  obtain ⟨rk, rn, rv, rlo, rhi, ⟨rp, rl, rcap⟩⟩ := r
  obtain ⟨pid, ⟨vp, vn, vc⟩, ⟨fp, fn, fc⟩⟩ := p
  simp only at hln p1 p2 p3 p4 p5
  obtain rfl : rk = 7 := p1.trans hk
  subst p2 p3 p4 p5 hln
  clear hk p1
  obtain ⟨w1, hw1⟩ : ∃ w1, w1 = (w.alloc (cobj ⟨7, c.name, c.val, c.low, c.high, ⟨rp, c.list.length, rcap⟩⟩)).alloc (pbox ⟨pid, ⟨vp, vn, vc⟩, ⟨fp, fn, fc⟩⟩) := ⟨_, rfl⟩
  rw [← hw1] at HT HG
  obtain ⟨_, a1, _⟩ := cells8 HT.out.2.1
  obtain ⟨_, _, b2⟩ := cells3 HT.out.2.2
  go_enter Tryz.func9, Tryz.ntmps9
  go_wp2_with fail
  rw [← hw1]
  clear hw1
  refine HG.out.mono ?_
  clear HG
  rintro e w2 ⟨rfl, hb2⟩
  have HB2 := Lib.hid (HT.out.1.trans (hb2.mono HT.out.1.size))
  have hvb := Rk.fresh_alloc w2 (.cells #[.int .i64 xk, .int .i64 xn, .string xt] 23)
  have HBX := Lib.hid (HB2.out.trans (hvb.mono HB2.out.size))
  have z1 := (hvb.block _ (Nat.lt_of_lt_of_le (Rk.lt_of_block HT.out.2.1) hb2.size)).trans ((hb2.block _ (Rk.lt_of_block HT.out.2.1)).trans HT.out.2.1)
  have z2 := (hvb.block _ (Nat.lt_of_lt_of_le (Rk.lt_of_block HT.out.2.2) hb2.size)).trans ((hb2.block _ (Rk.lt_of_block HT.out.2.2)).trans HT.out.2.2)
  have z3 := Rk.heap_last w2 (.cells #[.int .i64 xk, .int .i64 xn, .string xt] 23)
  have HZ1 := Lib.hid z1
  have HZ2 := Lib.hid z2
  obtain ⟨c0, c1, c2, c3, c4, c5, c6, c7⟩ := cells8 z1
  obtain ⟨d0, d1, d2⟩ := cells3 z2
  obtain ⟨e0, e1, e2⟩ := cells3 z3
  simp only at c0 c1 c2 c3 c4 c5 c6 c7 d0 d1 d2
  clear z1 z2 z3 a1 b2 hb2 hvb
  have HI := Lib.hid ih
  clear ih e0 e1 e2
  go_wp2_with fail
  obtain ⟨wv, hwv⟩ : ∃ wv, wv = w2.alloc (.cells #[.int .i64 xk, .int .i64 xn, .string xt] 23) := ⟨_, rfl⟩
  rw [← hwv] at HBX HZ1 HZ2 c0 c1 c2 c3 c4 c5 c6 c7 d0 d1 d2 ⊢
  clear hwv
  go_loopw [7] (fun kk wr => ∃ q : Nat, q ≤ c.list.length ∧ kk = .int .i64 q ∧ Hid (∀ i (h : i < c.list.length), i < q → pass F c.list[i] = true) ∧ Below wv.heap.size wv wr) (fun kk _ => c.list.length - (intOf kk).toNat)
  case atStart => exact ⟨0, Nat.zero_le _, rfl, Lib.hid (fun i _ h => absurd h (by omega)), Below.refl _ _⟩
  case round =>
    obtain ⟨q, hq, rfl, HS, hb⟩ := hrel
    have HBW := Lib.hid hb
    have HBO := Lib.hid (HBX.out.trans (hb.mono HBX.out.size))
    obtain ⟨wo, rfl⟩ : ∃ wo : World, wo = wr := ⟨_, rfl⟩
    obtain ⟨_, _, _, _, _, _, _, m7⟩ := cells8 ((hb.block _ (Rk.lt_of_block HZ1.out)).trans HZ1.out)
    obtain ⟨n0, n1, n2⟩ := cells3 ((hb.block _ (Rk.lt_of_block HZ2.out)).trans HZ2.out)
    simp only at m7 n0 n1 n2
    clear hb c0 c1 c2 c3 c4 c5 c6 c7 d0 d1 d2
    by_cases hlt : q < c.list.length
    · obtain ⟨g, off, cp, er, hg, r', hw', hc⟩ := HK.out q hlt
      simp only [Sl.mk.injEq] at er
      obtain ⟨rfl, _, rfl⟩ := er
      obtain ⟨x0, x1, x2, x3, x4, x5, x6, x7⟩ := hc wo (HBO.out.block g hg)
      have HC := Lib.hid (HI.out _ (List.getElem_mem hlt) F r' ⟨pid, ⟨vp, vn, vc⟩, ⟨fp, fn, fc⟩⟩ wo.drew (hw'.below HBO.out.drew) (HB.out.2.2.2 _ (List.getElem_mem hlt)) (HFA.out _ HBO.out.drew) HFO.out)
      have hqn : (q : Int) < (c.list.length : Int) := by omega
      obtain ⟨k0, k1, ⟨k2, k3, k4⟩, k5, k6, ⟨k7, k8, k9⟩⟩ := r'
      simp only at x0 x1 x2 x3 x4 x5 x6 x7
      clear hc hw' hg
      have HLT := Lib.hid hlt
      obtain ⟨b, hbb⟩ : ∃ b, b = pass F c.list[q] := ⟨_, rfl⟩
      change Hid (Calls _ _ _ _ fun e w' => e = Ending.returned (Value.bool (pass F c.list[q])) ∧ _) at HC
      rw [← hbb] at HC
      have HBB := Lib.hid hbb
      clear hbb
      go_upto_region 17 with fail
      go_cut [87] (fun bb wx => bb = .bool (!b) ∧ Below wv.heap.size wv wx)
      case first =>
        go_region_with (go_at_call 9; refine HC.out.mono ?_; rintro e w5 ⟨rfl, hb5⟩)
        all_goals go_wp2_with fail
        all_goals go_meet
        all_goals exact ⟨rfl, HBW.out.drew.trans (hb5.mono HBW.out.size)⟩
      case rest =>
        obtain ⟨rfl, hb6⟩ := hcut
        have HB6 := Lib.hid hb6
        clear hb6 HC
        cases hbv : b
        · have HE := Lib.hid (all_no HLT.out (HBB.out.symm.trans hbv))
          go_wp2_with fail
          go_ret
          exact ⟨retb (by rw [HE.out]), HBX.out.trans (HB6.out.mono HBX.out.size)⟩
        · have HSN : Hid (∀ i (h : i < c.list.length), i < q + 1 → pass F c.list[i] = true) := Lib.hid (fun i h hi => by
            rcases Nat.lt_or_ge i q with c' | c'
            · exact HS.out i h c'
            · obtain rfl : i = q := by omega
              exact HBB.out.symm.trans hbv)
          go_wp2_with fail
          go_roundw
          case rel => exact ⟨q + 1, HLT.out, congrArg _ (wrap_q HB.out.2.2.1 HLT.out), HSN, HB6.out⟩
          case measure =>
            rw [wrap_q HB.out.2.2.1 HLT.out]
            exact less_q HLT.out
    · obtain rfl : q = c.list.length := by omega
      have HE := Lib.hid (all_yes (F := F) (l := c.list) fun i h => HS.out i h h)
      go_wp2_with fail
      go_ret
      exact ⟨retb (by rw [HE.out]), HBO.out⟩
set_option maxHeartbeats 2000000 in
set_option maxRecDepth 100000 in
theorem rpass_8 (c : Cd) (ih : ∀ x ∈ c.list, PassOk 9 x) (hk : c.kind = 8) (F : List Fld) (r : Rc) (p : Rp) (w : World) (h : CdW (fun _ => True) w c r) (hbig : Big c) (hf : FldsAt w (.slice p.f.p p.f.n p.f.c) F) (hok : FldsOk F) :
    Calls Tryz.prog 9 #[cv r, pv p] w fun e w' => e = .returned (.bool (pass F c)) ∧ Below w.heap.size w w' := by
  have HL := Lib.hid h.len
  have HP := Lib.hid h.parts
  have HK := Lib.hid h.kid
  have HB := Lib.hid hbig.parts
  have HT := Lib.hid (boxes w r p)
  have HG := Lib.hid (rget_any F _ c.name _ (hf.below HT.out.1) hok)
  have HFO := Lib.hid hok
  have HFA := Lib.hid (fun W (hW : Below w.heap.size w W) => hf.below hW)
  obtain ⟨xk, xn, xt, hb, hgot, hsome, hin, his⟩ := got_is (getL F c.name)
  rw [hgot] at HG
  have HPS : Hid (pass F c = passAny F c.list) := Lib.hid (pass8 hk)
  rw [HPS.out]
  obtain ⟨p1, p2, p3, p4, p5, _⟩ := h.parts
  have hln := h.len
  clear h hbig hf hok hgot hsome hin his
  obtain ⟨rk, rn, rv, rlo, rhi, ⟨rp, rl, rcap⟩⟩ := r
  obtain ⟨pid, ⟨vp, vn, vc⟩, ⟨fp, fn, fc⟩⟩ := p
  simp only at hln p1 p2 p3 p4 p5
  obtain rfl : rk = 8 := p1.trans hk
  subst p2 p3 p4 p5 hln
  clear hk p1
  obtain ⟨w1, hw1⟩ : ∃ w1, w1 = (w.alloc (cobj ⟨8, c.name, c.val, c.low, c.high, ⟨rp, c.list.length, rcap⟩⟩)).alloc (pbox ⟨pid, ⟨vp, vn, vc⟩, ⟨fp, fn, fc⟩⟩) := ⟨_, rfl⟩
  rw [← hw1] at HT HG
  obtain ⟨_, a1, _⟩ := cells8 HT.out.2.1
  obtain ⟨_, _, b2⟩ := cells3 HT.out.2.2
  go_enter Tryz.func9, Tryz.ntmps9
  go_wp2_with fail
  rw [← hw1]
  clear hw1
  refine HG.out.mono ?_
  clear HG
  rintro e w2 ⟨rfl, hb2⟩
  have HB2 := Lib.hid (HT.out.1.trans (hb2.mono HT.out.1.size))
  have hvb := Rk.fresh_alloc w2 (.cells #[.int .i64 xk, .int .i64 xn, .string xt] 23)
  have HBX := Lib.hid (HB2.out.trans (hvb.mono HB2.out.size))
  have z1 := (hvb.block _ (Nat.lt_of_lt_of_le (Rk.lt_of_block HT.out.2.1) hb2.size)).trans ((hb2.block _ (Rk.lt_of_block HT.out.2.1)).trans HT.out.2.1)
  have z2 := (hvb.block _ (Nat.lt_of_lt_of_le (Rk.lt_of_block HT.out.2.2) hb2.size)).trans ((hb2.block _ (Rk.lt_of_block HT.out.2.2)).trans HT.out.2.2)
  have z3 := Rk.heap_last w2 (.cells #[.int .i64 xk, .int .i64 xn, .string xt] 23)
  have HZ1 := Lib.hid z1
  have HZ2 := Lib.hid z2
  obtain ⟨c0, c1, c2, c3, c4, c5, c6, c7⟩ := cells8 z1
  obtain ⟨d0, d1, d2⟩ := cells3 z2
  obtain ⟨e0, e1, e2⟩ := cells3 z3
  simp only at c0 c1 c2 c3 c4 c5 c6 c7 d0 d1 d2
  clear z1 z2 z3 a1 b2 hb2 hvb
  have HI := Lib.hid ih
  clear ih e0 e1 e2
  go_wp2_with fail
  obtain ⟨wv, hwv⟩ : ∃ wv, wv = w2.alloc (.cells #[.int .i64 xk, .int .i64 xn, .string xt] 23) := ⟨_, rfl⟩
  rw [← hwv] at HBX HZ1 HZ2 c0 c1 c2 c3 c4 c5 c6 c7 d0 d1 d2 ⊢
  clear hwv
  go_loopw [8] (fun kk wr => ∃ q : Nat, q ≤ c.list.length ∧ kk = .int .i64 q ∧ Hid (∀ i (h : i < c.list.length), i < q → pass F c.list[i] = false) ∧ Below wv.heap.size wv wr) (fun kk _ => c.list.length - (intOf kk).toNat)
  case atStart => exact ⟨0, Nat.zero_le _, rfl, Lib.hid (fun i _ h => absurd h (by omega)), Below.refl _ _⟩
  case round =>
    obtain ⟨q, hq, rfl, HS, hb⟩ := hrel
    have HBW := Lib.hid hb
    have HBO := Lib.hid (HBX.out.trans (hb.mono HBX.out.size))
    obtain ⟨wo, rfl⟩ : ∃ wo : World, wo = wr := ⟨_, rfl⟩
    obtain ⟨_, _, _, _, _, _, _, m7⟩ := cells8 ((hb.block _ (Rk.lt_of_block HZ1.out)).trans HZ1.out)
    obtain ⟨n0, n1, n2⟩ := cells3 ((hb.block _ (Rk.lt_of_block HZ2.out)).trans HZ2.out)
    simp only at m7 n0 n1 n2
    clear hb c0 c1 c2 c3 c4 c5 c6 c7 d0 d1 d2
    by_cases hlt : q < c.list.length
    · obtain ⟨g, off, cp, er, hg, r', hw', hc⟩ := HK.out q hlt
      simp only [Sl.mk.injEq] at er
      obtain ⟨rfl, _, rfl⟩ := er
      obtain ⟨x0, x1, x2, x3, x4, x5, x6, x7⟩ := hc wo (HBO.out.block g hg)
      have HC := Lib.hid (HI.out _ (List.getElem_mem hlt) F r' ⟨pid, ⟨vp, vn, vc⟩, ⟨fp, fn, fc⟩⟩ wo.drew (hw'.below HBO.out.drew) (HB.out.2.2.2 _ (List.getElem_mem hlt)) (HFA.out _ HBO.out.drew) HFO.out)
      have hqn : (q : Int) < (c.list.length : Int) := by omega
      obtain ⟨k0, k1, ⟨k2, k3, k4⟩, k5, k6, ⟨k7, k8, k9⟩⟩ := r'
      simp only at x0 x1 x2 x3 x4 x5 x6 x7
      clear hc hw' hg
      have HLT := Lib.hid hlt
      obtain ⟨b, hbb⟩ : ∃ b, b = pass F c.list[q] := ⟨_, rfl⟩
      change Hid (Calls _ _ _ _ fun e w' => e = Ending.returned (Value.bool (pass F c.list[q])) ∧ _) at HC
      rw [← hbb] at HC
      have HBB := Lib.hid hbb
      clear hbb
      go_upto_region 24 with fail
      go_cut [103] (fun bb wx => bb = .bool b ∧ Below wv.heap.size wv wx)
      case first =>
        go_region_with (go_at_call 9; refine HC.out.mono ?_; rintro e w5 ⟨rfl, hb5⟩)
        all_goals go_wp2_with fail
        all_goals go_meet
        all_goals exact ⟨rfl, HBW.out.drew.trans (hb5.mono HBW.out.size)⟩
      case rest =>
        obtain ⟨rfl, hb6⟩ := hcut
        have HB6 := Lib.hid hb6
        clear hb6 HC
        cases hbv : b
        · have HSN : Hid (∀ i (h : i < c.list.length), i < q + 1 → pass F c.list[i] = false) := Lib.hid (fun i h hi => by
            rcases Nat.lt_or_ge i q with c' | c'
            · exact HS.out i h c'
            · obtain rfl : i = q := by omega
              exact HBB.out.symm.trans hbv)
          go_wp2_with fail
          go_roundw
          case rel => exact ⟨q + 1, HLT.out, congrArg _ (wrap_q HB.out.2.2.1 HLT.out), HSN, HB6.out⟩
          case measure =>
            rw [wrap_q HB.out.2.2.1 HLT.out]
            exact less_q HLT.out
        · have HE := Lib.hid (any_yes HLT.out (HBB.out.symm.trans hbv))
          go_wp2_with fail
          go_ret
          exact ⟨retb (by rw [HE.out]), HBX.out.trans (HB6.out.mono HBX.out.size)⟩
    · obtain rfl : q = c.list.length := by omega
      have HE := Lib.hid (any_no (F := F) (l := c.list) fun i h => HS.out i h h)
      go_wp2_with fail
      go_ret
      exact ⟨retb (by rw [HE.out]), HBO.out⟩
set_option maxHeartbeats 2000000 in
set_option maxRecDepth 100000 in
theorem rpass_0 (c : Cd) (h1 : ¬ c.kind = 1) (h3 : ¬ c.kind = 3) (h4 : ¬ c.kind = 4) (h5 : ¬ c.kind = 5) (h6 : ¬ c.kind = 6) (h7 : ¬ c.kind = 7) (h8 : ¬ c.kind = 8) (F : List Fld) (r : Rc) (p : Rp) (w : World) (h : CdW (fun _ => True) w c r) (hbig : Big c) (hf : FldsAt w (.slice p.f.p p.f.n p.f.c) F) (hok : FldsOk F) :
    Calls Tryz.prog 9 #[cv r, pv p] w fun e w' => e = .returned (.bool (pass F c)) ∧ Below w.heap.size w w' := by
  have HL := Lib.hid h.len
  have HP := Lib.hid h.parts
  have HK := Lib.hid h.kid
  have HB := Lib.hid hbig.parts
  have HT := Lib.hid (boxes w r p)
  have HG := Lib.hid (rget_any F _ c.name _ (hf.below HT.out.1) hok)
  have HFO := Lib.hid hok
  have HFA := Lib.hid (fun W (hW : Below w.heap.size w W) => hf.below hW)
  obtain ⟨xk, xn, xt, hb, hgot, hsome, hin, his⟩ := got_is (getL F c.name)
  rw [hgot] at HG
  have HPS : Hid (pass F c = false) := Lib.hid (pass0 h1 h3 h4 h5 h6 h7 h8)
  rw [HPS.out]
  obtain ⟨p1, p2, p3, p4, p5, _⟩ := h.parts
  have hln := h.len
  clear h hbig hf hok hgot hsome hin his
  obtain ⟨rk, rn, rv, rlo, rhi, ⟨rp, rl, rcap⟩⟩ := r
  obtain ⟨pid, ⟨vp, vn, vc⟩, ⟨fp, fn, fc⟩⟩ := p
  simp only at hln p1 p2 p3 p4 p5
  rw [← p1] at h1 h3 h4 h5 h6 h7 h8
  subst p2 p3 p4 p5 hln
  clear p1
  obtain ⟨w1, hw1⟩ : ∃ w1, w1 = (w.alloc (cobj ⟨rk, c.name, c.val, c.low, c.high, ⟨rp, c.list.length, rcap⟩⟩)).alloc (pbox ⟨pid, ⟨vp, vn, vc⟩, ⟨fp, fn, fc⟩⟩) := ⟨_, rfl⟩
  rw [← hw1] at HT HG
  obtain ⟨_, a1, _⟩ := cells8 HT.out.2.1
  obtain ⟨_, _, b2⟩ := cells3 HT.out.2.2
  go_enter Tryz.func9, Tryz.ntmps9
  go_wp2_with fail
  rw [← hw1]
  clear hw1
  refine HG.out.mono ?_
  clear HG
  rintro e w2 ⟨rfl, hb2⟩
  have HB2 := Lib.hid (HT.out.1.trans (hb2.mono HT.out.1.size))
  have hvb := Rk.fresh_alloc w2 (.cells #[.int .i64 xk, .int .i64 xn, .string xt] 23)
  have HBX := Lib.hid (HB2.out.trans (hvb.mono HB2.out.size))
  have z1 := (hvb.block _ (Nat.lt_of_lt_of_le (Rk.lt_of_block HT.out.2.1) hb2.size)).trans ((hb2.block _ (Rk.lt_of_block HT.out.2.1)).trans HT.out.2.1)
  have z2 := (hvb.block _ (Nat.lt_of_lt_of_le (Rk.lt_of_block HT.out.2.2) hb2.size)).trans ((hb2.block _ (Rk.lt_of_block HT.out.2.2)).trans HT.out.2.2)
  have z3 := Rk.heap_last w2 (.cells #[.int .i64 xk, .int .i64 xn, .string xt] 23)
  have HZ1 := Lib.hid z1
  have HZ2 := Lib.hid z2
  obtain ⟨c0, c1, c2, c3, c4, c5, c6, c7⟩ := cells8 z1
  obtain ⟨d0, d1, d2⟩ := cells3 z2
  obtain ⟨e0, e1, e2⟩ := cells3 z3
  simp only at c0 c1 c2 c3 c4 c5 c6 c7 d0 d1 d2
  clear z1 z2 z3 a1 b2 hb2 hvb
  have g1 : (rk == 1) = false := by simpa using h1
  have g3 : (rk == 3) = false := by simpa using h3
  have g4 : (rk == 4) = false := by simpa using h4
  have g5 : (rk == 5) = false := by simpa using h5
  have g6 : (rk == 6) = false := by simpa using h6
  have g7 : (rk == 7) = false := by simpa using h7
  have g8 : (rk == 8) = false := by simpa using h8
  clear h1 h3 h4 h5 h6 h7 h8
  go_wp2_with fail
  go_ret
  exact ⟨rfl, HBX.out⟩
theorem rpass_step (c : Cd) (ih : ∀ x ∈ c.list, PassOk 9 x) : PassOk 9 c := by
  intro F r p w h hb hf hk
  by_cases h1 : c.kind = 1
  · exact rpass_1 c h1 F r p w h hb hf hk
  by_cases h3 : c.kind = 3
  · exact rpass_3 c h3 F r p w h hb hf hk
  by_cases h4 : c.kind = 4
  · exact rpass_4 c h4 F r p w h hb hf hk
  by_cases h5 : c.kind = 5
  · exact rpass_5 c h5 F r p w h hb hf hk
  by_cases h6 : c.kind = 6
  · exact rpass_6 c ih h6 F r p w h hb hf hk
  by_cases h7 : c.kind = 7
  · exact rpass_7 c ih h7 F r p w h hb hf hk
  by_cases h8 : c.kind = 8
  · exact rpass_8 c ih h8 F r p w h hb hf hk
  exact rpass_0 c h1 h3 h4 h5 h6 h7 h8 F r p w h hb hf hk
theorem rpass_any : ∀ c, PassOk 9 c := pass_all rpass_step
end Ft
end Go.Proofs.YtclmalaomofahaaGreatDoor
