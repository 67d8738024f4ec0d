/- Two rows of numbers that grow side by side; a loop over All that keeps what it is told. Conditions: those that each theorem names. -/
import Derived.Test.YtbfaoelgbfhjdaaIdR
import Derived.Test.YtbfaoelgbfhjdaaIdS
import Derived.Maps.AppendAt
namespace Go.Proofs.Ytbfaoelgbfhjdaa
set_option linter.unusedVariables false
open Go Go.RowKit Go.Shelf Ids
attribute [local go_sem] Oper.semAt_some
/-- A step that leaves what lay below nR, and whatever is no cells. -/
structure Step (nR : Nat) (W W' : World) : Prop where
  bel : Below nR W W'
  oth : KeepsOthers W W'
theorem Step.refl (nR : Nat) (W : World) : Step nR W W := ⟨Below.refl _ _, KeepsOthers.refl _⟩
theorem Step.trans {nR : Nat} {A B C : World} (h : Step nR A B) (k : Step nR B C) : Step nR A C := ⟨h.bel.trans k.bel, h.oth.trans k.oth⟩
theorem Step.alloc {nR : Nat} {A B : World} (h : Step nR A B) (hn : nR ≤ B.heap.size) (o : Obj) : Step nR A (B.alloc o) := ⟨h.bel.alloc hn o, h.oth.trans (KeepsOthers.alloc B o)⟩
theorem Step.setCell {nR : Nat} {A B : World} (h : Step nR A B) {p : Nat} (hp : nR ≤ p) (v : Value) : Step nR A (B.setCell ⟨p, 0, none⟩ v) := ⟨h.bel.setCell (p := ⟨p, 0, none⟩) hp v, h.oth.trans (KeepsOthers.setCell _ _ _)⟩
/-- A block of one number, just laid for an append. -/
def Tmp (W : World) (t : Nat) (z : Int) : Prop := W.heap[t]? = some (.cells #[.int .i64 z] 3 (0, 0))
theorem Tmp.lt {W : World} {t : Nat} {z : Int} (h : Tmp W t z) : t < W.heap.size := (Array.getElem?_eq_some_iff.1 h).1
theorem Tmp.new (W : World) (z : Int) : Tmp (W.alloc (.cells #[.int .i64 z] 3)) W.heap.size z := World.alloc_heap_new W _
theorem Tmp.kept {W W' : World} {t : Nat} {z : Int} {row : Option Nat} (h : Tmp W t z) (hg : W.grownBy W' row) (hne : some t ≠ row) : Tmp W' t z := (hg.block t h.lt hne).trans h
theorem Tmp.cell {W : World} {t : Nat} {z : Int} (h : Tmp W t z) : W.cell? ⟨t, 0, none⟩ = some (.int .i64 z) := by simp [World.cell?, show W.heap[t]? = _ from h]
/-- Two boxes with u1, u2, and two rows v1, v2 that hold xs, ys. -/
structure Two (r : Nat) (W : World) (B1 B2 : Nat) (u1 u2 v1 v2 : Value) (xs ys : List Int) : Prop where
  b1 : Boxed W B1 22 u1
  b2 : Boxed W B2 22 u2
  o1 : Own W r v1 xs
  o2 : Own W r v2 ys
  ne : v1.ownBlock = none ∨ v2.ownBlock = none ∨ v1.ownBlock ≠ v2.ownBlock
theorem Two.swap {r : Nat} {W : World} {B1 B2 : Nat} {u1 u2 v1 v2 : Value} {xs ys : List Int} (h : Two r W B1 B2 u1 u2 v1 v2 xs ys) : Two r W B2 B1 u2 u1 v2 v1 ys xs :=
  ⟨h.b2, h.b1, h.o2, h.o1, by rcases h.ne with c | c | c
                              · exact .inr (.inl c)
                              · exact .inl c
                              · exact .inr (.inr c.symm)⟩
theorem Two.drew {r : Nat} {W : World} {B1 B2 : Nat} {u1 u2 v1 v2 : Value} {xs ys : List Int} (h : Two r W B1 B2 u1 u2 v1 v2 xs ys) : Two r W.drew B1 B2 u1 u2 v1 v2 xs ys := ⟨h.b1, h.b2, h.o1, h.o2, h.ne⟩
theorem own_lt {r : Nat} {W : World} {v : Value} {L : List Int} (h : Own W r v L) {g : Nat} (hg : v.ownBlock = some g) : r ≤ g ∧ g < W.heap.size ∧ ∃ cur, W.heap[g]? = some (.cells cur 3 (0, 0)) := by
  rcases h.2 with ⟨rfl, _⟩ | ⟨g', cap, cur, rfl, hb, hgb, _⟩
  · simp [Value.ownBlock] at hg
  · simp [Value.ownBlock] at hg
    subst hg
    exact ⟨hb, (Array.getElem?_eq_some_iff.1 hgb).1, cur, hgb⟩
theorem Two.alloc {r : Nat} {W : World} {B1 B2 : Nat} {u1 u2 v1 v2 : Value} {xs ys : List Int} (h : Two r W B1 B2 u1 u2 v1 v2 xs ys) (o : Obj) : Two r (W.alloc o) B1 B2 u1 u2 v1 v2 xs ys :=
  ⟨h.b1.alloc o, h.b2.alloc o, World.ownsRow.alloc h.o1 o, World.ownsRow.alloc h.o2 o, h.ne⟩
/-- Kept by a change of a block that is no cells, and is none of these. -/
theorem Two.kept {r : Nat} {W W' : World} {B1 B2 : Nat} {u1 u2 v1 v2 : Value} {xs ys : List Int} {row : Option Nat} (h : Two r W B1 B2 u1 u2 v1 v2 xs ys) (hg : W.grownBy W' row) (hr : ∀ q, row = some q → ∃ o : Obj, W.heap[q]? = some o ∧ o.isCells = false) : Two r W' B1 B2 u1 u2 v1 v2 xs ys := by
  have hbox : ∀ {B : Nat} {u : Value}, Boxed W B 22 u → some B ≠ row := fun {B u} hb e => by
    obtain ⟨o, ho, hc⟩ := hr B e.symm
    rw [show W.heap[B]? = _ from hb] at ho
    cases ho
    cases hc
  have hrow : ∀ {v : Value} {L : List Int}, Own W r v L → v.ownBlock = none ∨ v.ownBlock ≠ row := fun {v L} ho => by
    cases hv : v.ownBlock with
    | none => exact .inl rfl
    | some g =>
      refine .inr fun e => ?_
      obtain ⟨o, h1, hc⟩ := hr g e.symm
      obtain ⟨_, _, cur, h2⟩ := own_lt ho hv
      rw [h2] at h1
      cases h1
      cases hc
  exact ⟨h.b1.kept hg (hbox h.b1), h.b2.kept hg (hbox h.b2), World.ownsRow.kept h.o1 hg (hrow h.o1), World.ownsRow.kept h.o2 hg (hrow h.o2), h.ne⟩
/-- One number more behind the first row. -/
theorem Two.app {r nR : Nat} {W : World} {B1 B2 : Nat} {u1 u2 v1 v2 : Value} {xs ys : List Int} (h : Two r W B1 B2 u1 u2 v1 v2 xs ys) (z : Int) (t : Nat) (ht : Tmp W t z) (hl : xs.length ≤ 17592186044000) (hr : r ≤ W.heap.size) (hn : nR ≤ r) :
    ∃ g cap W', (∀ ty, (Builtin.append_ #[22, 22] ty #[v1, .slice (some ⟨t, 0, none⟩) 1 1]).run Try.prog W = .ok (.slice (some ⟨g, 0, none⟩) (xs.length + 1) cap) W') ∧ Two r W' B1 B2 u1 u2 (.slice (some ⟨g, 0, none⟩) (xs.length + 1) cap) v2 (xs ++ [z]) ys ∧ Step nR W W' ∧ W.grownBy W' v1.ownBlock := by
  obtain ⟨i0, hi, hz0, hz1, hz2⟩ := info_parts infoI
  have hxl : (ints xs).length = xs.length := ints_length xs
  have ha := fun ty => run_append_own_at (P := Try.prog) W r 22 ty 3 i0 _ 1 8 Try.underlying22 hi hz0 hz1 hz2 rfl (by decide) v1 xs.length (ints xs) h.o1 ⟨t, 0, none⟩ 1 1 [.int .i64 z] rfl
    (fun j u hu => by
      cases j with
      | zero => simp at hu; subst hu; exact ht.cell
      | succ j => simp at hu) (by simp [Value.oneCell']) (by unfold maxLen; omega) (by omega) hr
  obtain ⟨v', W', hrun, hown, hg, _, hat⟩ := ha 0
  obtain ⟨g, cap, rfl⟩ := ownsRow_succ hown
  have hrun' : ∀ ty, (Builtin.append_ #[22, 22] ty #[v1, .slice (some ⟨t, 0, none⟩) 1 1]).run Try.prog W = .ok (.slice (some ⟨g, 0, none⟩) (xs.length + 1) cap) W' := fun _ => hrun
  have hb : ∀ {B : Nat} {u : Value}, Boxed W B 22 u → some B ≠ v1.ownBlock := fun hb => hb.not_row (by decide) h.o1
  have ho2 : v2.ownBlock = none ∨ v2.ownBlock ≠ v1.ownBlock := by
    rcases h.ne with c | c | c
    · cases hv : v2.ownBlock with
      | none => exact .inl rfl
      | some q => exact .inr (by rw [c]; exact fun e => by cases e)
    · exact .inl c
    · exact .inr c.symm
  have hbel : Below nR W W' := (Below.refl nR W).grown hg (Nat.le_trans hn hr) fun j ej => Nat.le_trans hn (own_lt h.o1 ej).1
  have hoth : KeepsOthers W W' := KeepsOthers.of_grownBy hg fun j o ej hj => by
    obtain ⟨_, _, cur, hc⟩ := own_lt h.o1 ej
    rw [hc] at hj
    cases hj
    rfl
  have hown' : Own W' r (.slice (some ⟨g, 0, none⟩) (xs.length + 1) cap) (xs ++ [z]) := by
    unfold Own
    rw [show ints (xs ++ [z]) = ints xs ++ [.int .i64 z] by simp [ints], List.length_append, List.length_singleton]
    exact hown
  refine ⟨g, cap, W', hrun', ⟨h.b1.kept hg (hb h.b1), h.b2.kept hg (hb h.b2), hown', World.ownsRow.kept h.o2 hg ho2, ?_⟩, ⟨hbel, hoth⟩, hg⟩
  cases hv : v2.ownBlock with
  | none => exact .inr (.inl rfl)
  | some q =>
    refine .inr (.inr ?_)
    rcases hat with c | c
    · rw [c]
      rcases ho2 with d | d
      · rw [hv] at d; cases d
      · rw [hv] at d; exact fun e => d e.symm
    · rw [c]
      intro e
      have := (own_lt h.o2 hv).2.1
      injection e with e
      omega
theorem Two.set1 {r : Nat} {W : World} {B1 B2 : Nat} {u1 u2 v1 v2 : Value} {xs ys : List Int} (h : Two r W B1 B2 u1 u2 v1 v2 xs ys) (hne : B1 ≠ B2) (u : Value) : Two r (W.setCell ⟨B1, 0, none⟩ u) B1 B2 u u2 v1 v2 xs ys := by
  have hb : ∀ {v : Value} {L : List Int}, Own W r v L → v.ownBlock = none ∨ v.ownBlock ≠ some B1 := fun ho => .inr (h.b1.not_row (by decide) ho).symm
  exact ⟨h.b1.set u, h.b2.other hne.symm u, World.ownsRow.kept h.o1 (grownBy_setCell' W B1 u) (hb h.o1), World.ownsRow.kept h.o2 (grownBy_setCell' W B1 u) (hb h.o2), h.ne⟩
theorem two_none (W : World) (r : Nat) (B1 B2 : Nat) (h1 : Boxed W B1 22 (.slice none 0 0)) (h2 : Boxed W B2 22 (.slice none 0 0)) : Two r W B1 B2 (.slice none 0 0) (.slice none 0 0) (.slice none 0 0) (.slice none 0 0) [] [] :=
  ⟨h1, h2, World.ownsRow_nil _ _ _ _, World.ownsRow_nil _ _ _ _, .inl rfl⟩
theorem Tmp.alloc {W : World} {t : Nat} {z : Int} (h : Tmp W t z) (o : Obj) : Tmp (W.alloc o) t z := h.kept (World.grownBy_alloc W o none) (by simp)
theorem not_own {r : Nat} {W : World} {v : Value} {L : List Int} (h : Own W r v L) {t : Nat} (ht : W.heap.size ≤ t) : some t ≠ v.ownBlock := fun e => by
  have := (own_lt h e.symm).2.1
  omega
theorem Step.drew (nR : Nat) (W : World) : Step nR W W.drew := ⟨⟨rfl, rfl, rfl, Nat.le_refl _, fun _ _ => rfl⟩, KeepsOthers.drew W⟩
/-- The two stores at the end. -/
theorem Two.stored {r nR : Nat} {W Wf : World} {B1 B2 : Nat} {u1 u2 v1 v2 : Value} {xs ys : List Int} (h : Two r Wf B1 B2 u1 u2 v1 v2 xs ys) (hs : Step nR W Wf) (h1 : nR ≤ B1) (h2 : nR ≤ B2) (hne : B1 ≠ B2) :
    Two r ((Wf.setCell ⟨B1, 0, none⟩ v1).setCell ⟨B2, 0, none⟩ v2) B1 B2 v1 v2 v1 v2 xs ys ∧ Step nR W ((Wf.setCell ⟨B1, 0, none⟩ v1).setCell ⟨B2, 0, none⟩ v2) ∧
    Wf.cell? ⟨B1, 0, none⟩ = some u1 ∧ Wf.frozen? ⟨B1, 0, none⟩ = false ∧ (Wf.setCell ⟨B1, 0, none⟩ v1).cell? ⟨B2, 0, none⟩ = some u2 ∧ (Wf.setCell ⟨B1, 0, none⟩ v1).frozen? ⟨B2, 0, none⟩ = false := by
  have a := h.set1 hne v1
  exact ⟨(a.swap.set1 hne.symm v2).swap, (hs.setCell h1 _).setCell h2 _, h.b1.cell, h.b1.frozen, a.b2.cell, a.b2.frozen⟩
/-- What holds at a round's end: what was told so far lies in the two rows; the box of the round's number; what lay below nR. -/
structure Inv (wR : World) (r B1 B2 Bt : Nat) (tm : Int) (pre : List (Int × Int)) (W : World) : Prop where
  two : ∃ v1 v2, Two r W B1 B2 v1 v2 v1 v2 (pre.map Prod.fst) (pre.map Prod.snd)
  bt : Boxed W Bt 3 (.int .i64 tm)
  bel : Below wR.heap.size wR W
  le : r ≤ W.heap.size
theorem Inv.own {wR : World} {r B1 B2 Bt : Nat} {tm : Int} {B : Nat} (hB : wR.heap.size ≤ B) (G : List (Int × Int) → Prop) : OwnFrom B (fun pre W => Inv wR r B1 B2 Bt tm pre W ∧ G pre) := fun pre W W' row hs hg hr => by
  obtain ⟨⟨⟨v1, v2, h⟩, hb, hl, hle⟩, hG⟩ := hs
  refine ⟨⟨⟨v1, v2, h.kept hg fun q e => (hr q e).2⟩, hb.kept hg fun e => ?_, ?_, Nat.le_trans hle hg.size⟩, hG⟩
  · obtain ⟨o, ho, hc⟩ := (hr Bt e.symm).2
    rw [show W.heap[Bt]? = _ from hb] at ho
    cases ho
    cases hc
  · exact hl.grown hg (by have := hl.size; omega) fun j ej => Nat.le_trans hB (hr j ej).1
/-- A loop over All: what it is told, in order, to the end or to where the body leaves it. -/
theorem range_walk {g : Operand} {ps : Array Go.Tmp} {assign body : Code} {Q : Exit → Act → World → Prop} {a : Act} {w : World} (f : Act → Int × Int → Act) (A B : List Int) (m n₀ C1 C2 id : Nat)
    (hg : a.eval g = fnAll C1 C2) (hall : AllAt w m n₀ C1 C2 A B) (hn₀ : n₀ ≤ w.heap.size) (hset : (setL A).length + (setL B).length ≤ 9223372036854775807) (hps : ps.size = 2)
    (I X : List (Int × Int) → World → Prop) (hI : OwnFrom w.heap.size I) (hX : OwnFrom w.heap.size X) (h0 : I [] w)
    (hassign : ∀ (l : Nat) (x : Int × Int) (W : World) (K : Act → World → Prop), K (f a x) W →
      assign.wpIn (Fence.wide.inRound l) 2 Try.prog (Exit.then K (fun _ _ _ => False)) { tmps := (ps.zip (enc2 x)).foldl (fun t (p, v) => t.setIfInBounds p v) a.tmps, defers := [] } W)
    (hbody : ∀ (l : Nat) (pre : List (Int × Int)) (x : Int × Int) (W : World), I pre W → pre.length < (told A B).length →
      body.wpIn (Fence.wide.inRound l) 2 Try.prog (ownPostG w.heap.size (Kr m n₀) I (fun c xs W => c = .exit id ∧ X xs W) (pre ++ [x]) W) (f a x) W)
    (he : ∀ a W, Q .normal a W → Q (.exit id) a W)
    (fin : ∀ (D : Nat) (pre : List (Int × Int)) (W : World), w.heap.size ≤ D → (pre = told A B ∧ I pre W ∨ pre <+: told A B ∧ X pre W) → W.heap[D]? = some (.deferred (some [])) → Q .normal { a with defers := { target := .collected D, args := #[] } :: a.defers } W) :
    (Code.rangeFunc g ps assign body).wp Try.prog Q a w := by
  refine (wpIn_wide (n := 4)).1 ?_
  refine wpIn_rangeFunc_ownG rfl (by omega) (gf := 37) (lb := #[.pointer (some ⟨C1, 0, none⟩), .pointer (some ⟨C2, 0, none⟩)]) hg trivial (enters_of Try.func37 (by kernel_rfl) rfl)
    (all_stops _ m n₀ C1 C2 (by omega) A B w hall hn₀ hset) Kr.trans (kr_b hn₀) (Below.refl _ _) (fun _ => hps.symm)
    I (fun c xs W => c = .exit id ∧ X xs W) hI (fun c pre W W' row hs hg hr => ⟨hs.1, hX pre W W' row hs.2 hg hr⟩) h0 (f a) hassign hbody ?_ ?_
  · exact fun D xs W hD hS hi hK => fin D xs W hD (.inl ⟨hS, hi⟩) hK
  · rintro D c pre W hD hS ⟨rfl, hx⟩ hK
    exact wpIn_exit (he _ _ (fin D pre W hD (.inr ⟨hS, hx⟩) hK))
end Go.Proofs.Ytbfaoelgbfhjdaa
