/- The walk of FilterRules: its beginning, and laws for regions that only read. Conditions: those that each theorem names. -/
import Derived.Test.YtclmalaomofahaaGreatDoorFtV
import Derived.Test.YtclmalaomofahaaGreatDoorFtS
import Derived.Deep.RegionHeld3
import Derived.Deep.DeepCutAuto
namespace Go.Proofs.YtclmalaomofahaaGreatDoor
set_option linter.unusedVariables false
namespace Ft
open Go Go.RowKit Go.Shelf Pq Pq.Pl Px
section
variable {P : Program} {md : Region.Mode} {ops : Array Oper} {Q : Exit → Act → World → Prop} {S : World → Prop}
theorem H_at {i : Nat} {o : Oper} {rest : List Oper} (hd : ops.toList.drop i = o :: rest) : ops[i]? = some o := by
  have e : (ops.toList.drop i)[0]? = some o := by rw [hd]; rfl
  rw [List.getElem?_drop, Nat.add_zero, Array.getElem?_toList] at e
  exact e
theorem H_take' {i : Nat} {oi : Oper} {rest : List Oper} {v : Value} {n : Nat} {l : Array Bool} {a : Act} {w : World} (hd : ops.toList.drop i = oi :: rest)
    (hs : Region.noSelect ops = true) (hf : Region.free md ops l i = true) (hr : (Region.ready md ops l).contains i = true)
    (hQ : ∀ c a w, Q (.panic c) (a.put oi.dst v) w → Q (.panic c) a w) (hy : YieldsIf P ops S oi v a) (hS : S w)
    (h : wpAnyH P md ops Q S n (l.setIfInBounds i true) (a.put oi.dst v) w) : wpAnyH P md ops Q S (n + 1) l a w :=
  wpAnyH_take (H_at hd) hs hf hr hQ hy hS h
theorem H_one' {i : Nat} {o : Oper} {rest : List Oper} {n : Nat} {l : Array Bool} {a : Act} {w : World} (hd : ops.toList.drop i = o :: rest) (hr : Region.ready md ops l = [i])
    (h : ∀ K : Act → World → Prop, (∀ a' w', S w' → wpAnyH P md ops Q S n (l.setIfInBounds i true) a' w' → K a' w') →
      if Region.wanted o (yielded ops a.tmps) = true then Oper.wp P o a w K Q else K (a.put o.dst undef) w) : wpAnyH P md ops Q S (n + 1) l a w :=
  wpAnyH_all hr (by simp) fun j hj => by
    obtain rfl : j = i := by simpa using hj
    exact wpOp_step (H_at hd) (fun K' hK => h K' fun a w p q => hK a w ⟨p, q⟩)
end
abbrev aobj (a b c : Rc) : Obj := .cells #[.int .i64 a.kind, .string a.name, .int .i64 a.val.kind, .int .i64 a.val.n, .string a.val.text, .int .i64 a.low, .int .i64 a.high, .slice a.l.p a.l.n a.l.c, .int .i64 b.kind, .string b.name, .int .i64 b.val.kind, .int .i64 b.val.n, .string b.val.text, .int .i64 b.low, .int .i64 b.high, .slice b.l.p b.l.n b.l.c, .int .i64 c.kind, .string c.name, .int .i64 c.val.kind, .int .i64 c.val.n, .string c.val.text, .int .i64 c.low, .int .i64 c.high, .slice c.l.p c.l.n c.l.c] 41
abbrev cv3 (a b c : Rc) : Value := .agg #[.int .i64 a.kind, .string a.name, .int .i64 a.val.kind, .int .i64 a.val.n, .string a.val.text, .int .i64 a.low, .int .i64 a.high, .slice a.l.p a.l.n a.l.c, .int .i64 b.kind, .string b.name, .int .i64 b.val.kind, .int .i64 b.val.n, .string b.val.text, .int .i64 b.low, .int .i64 b.high, .slice b.l.p b.l.n b.l.c, .int .i64 c.kind, .string c.name, .int .i64 c.val.kind, .int .i64 c.val.n, .string c.val.text, .int .i64 c.low, .int .i64 c.high, .slice c.l.p c.l.n c.l.c]
theorem boxes3 (w : World) (a b c : Rc) (p : Rp) : Below w.heap.size w ((w.alloc (aobj a b c)).alloc (pbox p)) ∧ ((w.alloc (aobj a b c)).alloc (pbox p)).heap[w.heap.size]? = some (aobj a b c) ∧ ((w.alloc (aobj a b c)).alloc (pbox p)).heap[w.heap.size + 1]? = some (pbox p) := by
  have s1 : (w.alloc (aobj a b c)).heap.size = w.heap.size + 1 := by simp
  exact ⟨((Below.refl _ w).alloc (Nat.le_refl _) _).alloc (by simp) _, by rw [Rk.heap_old _ _ (by omega), Rk.heap_last], by rw [← s1, Rk.heap_last]⟩
/-- Three conditions and a point, each in a box of its own. -/
structure Trio (w1 : World) (a b c : Rc) (p : Rp) (A B C D : Nat) (x : World) : Prop where
  bel : Below w1.heap.size w1 x
  a : x.heap[A]? = some (cobj a)
  b : x.heap[B]? = some (cobj b)
  c : x.heap[C]? = some (cobj c)
  p : x.heap[D]? = some (pbox p)
theorem Trio.below {w1 : World} {a b c : Rc} {p : Rp} {A B C D : Nat} {x y : World} (h : Trio w1 a b c p A B C D x) (g : Below x.heap.size x y) : Trio w1 a b c p A B C D y :=
  ⟨h.bel.trans (g.mono h.bel.size), (g.block _ (Rk.lt_of_block h.a)).trans h.a, (g.block _ (Rk.lt_of_block h.b)).trans h.b, (g.block _ (Rk.lt_of_block h.c)).trans h.c, (g.block _ (Rk.lt_of_block h.p)).trans h.p⟩
section
variable {P : Program} {md : Region.Mode} {ops : Array Oper} {Q : Exit → Act → World → Prop} {S : World → Prop}
/-- Whatever order is picked: what holds behind each operation, however far the region has come. -/
theorem H_inv {Inv : Nat → Array Bool → Act → World → Prop} (hS : ∀ n l a w, Inv n l a w → S w)
    (step : ∀ n l a w i, Inv (n + 1) l a w → i ∈ Region.ready md ops l → ∃ o, ops[i]? = some o ∧ ∀ K : Act → World → Prop, (∀ a' w', Inv n (l.setIfInBounds i true) a' w' → K a' w') →
      if Region.wanted o (yielded ops a.tmps) = true then Oper.wp P o a w K Q else K (a.put o.dst undef) w)
    (fin : ∀ l a w, Inv 0 l a w → Region.ready md ops l = [] ∧ Q .normal a w) (more : ∀ n l a w, Inv (n + 1) l a w → Region.ready md ops l ≠ []) :
    ∀ n l a w, Inv n l a w → wpAnyH P md ops Q S n l a w
  | 0, l, a, w, h => fin l a w h
  | n + 1, l, a, w, h => ⟨fun h0 => absurd h0 (more n l a w h), fun i hi => by
    obtain ⟨o, ho, hs⟩ := step n l a w i h hi
    exact wpOp_step ho fun K hK => hs K fun a' w' hI => hK a' w' ⟨hS _ _ _ _ hI, H_inv hS step fin more n _ a' w' hI⟩⟩
theorem dep_of {i : Nat} {o : Oper} {rest : List Oper} {l : Array Bool} (hd : ops.toList.drop i = o :: rest) (hi : i ∈ Region.ready md ops l) {e : Edge} (he : e ∈ o.after) (hb : Region.binds md e = true) : l.getD e.on false = true := by
  obtain ⟨_, o', ho, hall⟩ := mem_ready.1 hi
  rw [H_at hd] at ho
  injection ho with ho
  subst ho
  exact hall e he hb
theorem more_at {i : Nat} {o : Oper} {rest : List Oper} {l : Array Bool} (h0 : Region.ready md ops l = []) (hd : ops.toList.drop i = o :: rest) (hl : l.getD i true = false) (ha : ∀ e ∈ o.after, Region.binds md e = true → l.getD e.on false = true) : False := by
  have := mem_ready.2 ⟨hl, o, H_at hd, ha⟩
  rw [h0] at this
  cases this
theorem H_start {Inv : Act → Nat → Array Bool → Act → World → Prop} {n : Nat} {l0 : Array Bool} {a0 : Act} {w0 : World} (init : Inv a0 n l0 a0 w0) (main : ∀ n l a w, Inv a0 n l a w → wpAnyH P md ops Q S n l a w) : wpAnyH P md ops Q S n l0 a0 w0 :=
  main _ _ _ _ init
end
abbrev rowobj (a b c : Rc) : Obj := .cells #[.int .i64 a.kind, .string a.name, .int .i64 a.val.kind, .int .i64 a.val.n, .string a.val.text, .int .i64 a.low, .int .i64 a.high, .slice a.l.p a.l.n a.l.c, .int .i64 b.kind, .string b.name, .int .i64 b.val.kind, .int .i64 b.val.n, .string b.val.text, .int .i64 b.low, .int .i64 b.high, .slice b.l.p b.l.n b.l.c, .int .i64 c.kind, .string c.name, .int .i64 c.val.kind, .int .i64 c.val.n, .string c.val.text, .int .i64 c.low, .int .i64 c.high, .slice c.l.p c.l.n c.l.c] 26
abbrev rK (k : Int) (g : Nat) : Rc := ⟨k, ⟨#[]⟩, v0, 0, 0, ⟨some ⟨g, 0, none⟩, 3, 3⟩⟩
def put6 (a : Act) (x37 x38 x42 x43 x11 x12 : Value) : Act := { a with tmps := (((((a.tmps.setIfInBounds 37 x37).setIfInBounds 38 x38).setIfInBounds 42 x42).setIfInBounds 43 x43).setIfInBounds 11 x11).setIfInBounds 12 x12 }
def cnt (b : Bool) : Nat := if b then 1 else 0
theorem cnt_le (b : Bool) : cnt b ≤ 1 := by cases b <;> simp [cnt]
theorem cnt_one {b : Bool} (h : cnt b = 1) : b = true := by cases b <;> simp [cnt] at h ⊢
/-- How far the region has come that makes both conditions: which operations are done, and what they have made. -/
def INV (w2 : World) (a b c : Rc) (a0 : Act) (n : Nat) (l : Array Bool) (x : Act) (w : World) : Prop :=
  ∃ (b3 b4 b8 b9 b10 b11 b12 b13 : Bool) (x37 x38 x42 x43 x11 x12 : Value) (g3 g8 A4 A5 : Nat),
    l = #[true, true, true, b3, b4, true, true, true, b8, b9, b10, b11, b12, b13] ∧ n + (cnt b3 + cnt b4 + cnt b8 + cnt b9 + cnt b10 + cnt b11 + cnt b12 + cnt b13) = 8 ∧ x = put6 a0 x37 x38 x42 x43 x11 x12 ∧ Below w2.heap.size w2 w ∧
    (b3 = true → x37 = .slice (some ⟨g3, 0, none⟩) 3 3 ∧ w.heap[g3]? = some (rowobj a b c)) ∧ (b4 = true → b3 = true ∧ x38 = cv (rK 7 g3)) ∧
    (b8 = true → x42 = .slice (some ⟨g8, 0, none⟩) 3 3 ∧ w.heap[g8]? = some (rowobj a b c)) ∧ (b9 = true → b8 = true ∧ b4 = true ∧ x43 = cv (rK 8 g8)) ∧
    (b10 = true → x11 = .pointer (some ⟨A4, 0, none⟩) ∧ w2.heap.size ≤ A4 ∧ w.heap[A4]? = some (if b12 then cobj (rK 7 g3) else zC)) ∧
    (b11 = true → x12 = .pointer (some ⟨A5, 0, none⟩) ∧ w2.heap.size ≤ A5 ∧ w.heap[A5]? = some (if b13 then cobj (rK 8 g8) else zC)) ∧
    (b10 = true → b11 = true → A4 ≠ A5) ∧ (b12 = true → b9 = true ∧ b10 = true ∧ b11 = true) ∧ (b13 = true → b12 = true)
theorem row_ne {w : World} {g A : Nat} {a b c r : Rc} (h : w.heap[g]? = some (rowobj a b c)) (h2 : w.heap[A]? = some (cobj r)) : A ≠ g := fun e => by
  subst e
  rw [h] at h2
  simp at h2

theorem of3_at {k : Int} {ca cb cc : Cd} {a b c : Rc} {w : World} {g : Nat} (h : w.heap[g]? = some (rowobj a b c)) (ha : CdW (fun _ => True) w ca a) (hb : CdW (fun _ => True) w cb b) (hc : CdW (fun _ => True) w cc c) : CdW (fun _ => True) w (.mk k ⟨#[]⟩ v0 0 0 [ca, cb, cc]) (rK k g) := by
  unfold CdW
  refine ⟨rfl, rfl, rfl, rfl, rfl, [a, b, c], row_lit flatC (L := [a, b, c]) (by simpa [Rk.rowC, encC] using h) 3, fun _ _ _ => trivial, ?_⟩
  exact KidsW.mk rfl fun j h1 h2 => by
    have hj : j = 0 ∨ j = 1 ∨ j = 2 := by simp at h1; omega
    rcases hj with rfl | rfl | rfl
    · exact ha
    · exact hb
    · exact hc
theorem big3 {k : Int} {ca cb cc : Cd} (ha : Big ca) (hb : Big cb) (hc : Big cc) : Big (.mk k ⟨#[]⟩ v0 0 0 [ca, cb, cc]) := by
  unfold Big
  exact ⟨room0, room0, by simp, BigL.mk fun x hx => by simp at hx; rcases hx with rfl | rfl | rfl <;> assumption⟩
theorem pass_and3 (F : List Fld) (a b c : Cd) : pass F (.mk 7 ⟨#[]⟩ v0 0 0 [a, b, c]) = (pass F a && pass F b && pass F c) := by simp [pass, passAll, Bool.and_assoc]
theorem pass_or3 (F : List Fld) (a b c : Cd) : pass F (.mk 8 ⟨#[]⟩ v0 0 0 [a, b, c]) = (pass F a || pass F b || pass F c) := by simp [pass, passAny, Bool.or_assoc]
theorem of4_at {k : Int} {ca cb cc cd : Cd} {a b c d : Rc} {w : World} {g : Nat} (h : w.heap[g]? = some (.cells (Rk.rowC encC [a, b, c, d]).toArray 26 (0, 0))) (ha : CdW (fun _ => True) w ca a) (hb : CdW (fun _ => True) w cb b) (hc : CdW (fun _ => True) w cc c) (hd : CdW (fun _ => True) w cd d) : CdW (fun _ => True) w (.mk k ⟨#[]⟩ v0 0 0 [ca, cb, cc, cd]) ⟨k, ⟨#[]⟩, v0, 0, 0, ⟨some ⟨g, 0, none⟩, 4, 4⟩⟩ := by
  unfold CdW
  refine ⟨rfl, rfl, rfl, rfl, rfl, [a, b, c, d], row_lit flatC (L := [a, b, c, d]) h 4, fun _ _ _ => trivial, ?_⟩
  exact KidsW.mk rfl fun j h1 h2 => by
    have hj : j = 0 ∨ j = 1 ∨ j = 2 ∨ j = 3 := by simp at h1; omega
    rcases hj with rfl | rfl | rfl | rfl
    · exact ha
    · exact hb
    · exact hc
    · exact hd
theorem big4 {k : Int} {ca cb cc cd : Cd} (ha : Big ca) (hb : Big cb) (hc : Big cc) (hd : Big cd) : Big (.mk k ⟨#[]⟩ v0 0 0 [ca, cb, cc, cd]) := by
  unfold Big
  exact ⟨room0, room0, by simp, BigL.mk fun x hx => by simp at hx; rcases hx with rfl | rfl | rfl | rfl <;> assumption⟩
theorem pass_and4 (F : List Fld) (a b c : Cd) : pass F (.mk 7 ⟨#[]⟩ v0 0 0 [c, b, a, a]) = (pass F a && pass F b && pass F c) := by
  simp only [pass, passAll]
  cases pass F a <;> cases pass F b <;> cases pass F c <;> rfl
theorem pass_or4 (F : List Fld) (a b c : Cd) : pass F (.mk 8 ⟨#[]⟩ v0 0 0 [c, b, a, b]) = (pass F a || pass F b || pass F c) := by
  simp only [pass, passAny]
  cases pass F a <;> cases pass F b <;> cases pass F c <;> rfl
theorem not_and (x y z : Bool) : ((!x) || (!y) || (!z)) = !(x && y && z) := by cases x <;> cases y <;> cases z <;> rfl
theorem not_or (x y z : Bool) : ((!x) && (!y) && (!z)) = !(x || y || z) := by cases x <;> cases y <;> cases z <;> rfl
theorem size_and3 (a b c : Cd) : sizeC (.mk 7 ⟨#[]⟩ v0 0 0 [a, b, c]) = wrap64 (wrap64 (wrap64 (1 + sizeC a) + sizeC b) + sizeC c) := by simp [sizeC, sizeL]
theorem pass_eq {F : List Fld} {c : Cd} {r : Rc} {p : Rp} {w : World} {b : Bool} (hb : pass F c = b) (h : CdW (fun _ => True) w c r) (hbig : Big c) (hf : FldsAt w (.slice p.f.p p.f.n p.f.c) F) (hok : FldsOk F) :
    Calls Tryz.prog 8 #[cv r, pv p] w fun e w' => e = .returned (.bool b) ∧ Below w.heap.size w w' := by
  rw [← hb]
  exact pass_any c F r p w h hbig hf hok
theorem size_eq {c : Cd} {r : Rc} {w : World} {z : Int} (hz : sizeC c = z) (h : CdW (fun _ => True) w c r) (hbig : Big c) :
    Calls Tryz.prog 10 #[cv r] w fun e w' => e = .returned (.int .i64 z) ∧ Below w.heap.size w w' := by
  rw [← hz]
  exact size_any c r w h hbig
theorem w64 (x : Int) : wrap64 x = IntKind.i64.wrap x := by unfold wrap64; rw [IntKind.wrap_i64]
end Ft
end Go.Proofs.YtclmalaomofahaaGreatDoor
