/- A region that draws its order within a round of a range over a function: its operations as the plain calculus has them; a fact kept behind every operation but some late ones. Conditions: those that each theorem names. -/
import Derived.OrdersHeld
import Derived.Deep.RegionHeld
import Derived.OrdersIn
import Derived.RangeFuncCalls
namespace Go.Proofs.Ytbfaoelgbfhjdaa
set_option linter.unusedVariables false
open Go
section
variable {P : Program} {md : Region.Mode} {ops : Array Oper} {Q : Exit → Act → World → Prop} {S : World → Prop} {late : List Nat}
/-- Whatever order is picked, and S holds behind every operation but the last. -/
def wpAnyU (P : Program) (md : Region.Mode) (ops : Array Oper) (Q : Exit → Act → World → Prop) (S : World → Prop) (late : List Nat) : Nat → Array Bool → Act → World → Prop
  | 0, l, a, w => Region.ready md ops l = [] ∧ Q .normal a w
  | n + 1, l, a, w => (Region.ready md ops l = [] → Q .normal a w) ∧
    ∀ i ∈ Region.ready md ops l, wpOp P ops Q i (fun a' w' => (i ∉ late → S w') ∧ wpAnyU P md ops Q S late n (l.setIfInBounds i true) a' w') a w
theorem wpAny_of_U : ∀ (n : Nat) (l : Array Bool) (a : Act) (w : World), wpAnyU P md ops Q S late n l a w → wpAny P md ops Q n l a w
  | 0, _, _, _, h => h
  | n + 1, _, _, _, h => ⟨h.1, fun i hi => wpOp_mono (fun a' w' k => wpAny_of_U n _ a' w' k.2) (h.2 i hi)⟩
theorem U_first {i : Nat} {oi : Oper} {v : Value} (hi : ops[i]? = some oi) (hsel : ∀ (j : Nat) (o : Oper) cs b, ops[j]? = some o → o.op ≠ .select cs b)
    (hQ : ∀ c a w, Q (.panic c) (a.put oi.dst v) w → Q (.panic c) a w) (U : List Nat) (hU : ∀ j ∈ U, ∀ o, ops[j]? = some o → ∃ e ∈ o.after, Region.binds md e = true ∧ (e.on = i ∨ e.on ∈ U)) (hlate : ∀ j ∈ late, j ∈ U) :
    ∀ (n : Nat) (l : Array Bool) (a : Act) (w : World),
      (∀ j oj, ops[j]? = some oj → j ≠ i → l.getD j true = false → (∀ e ∈ oj.after, Region.binds md e = true → e.on ≠ i) → oi.apart ops oj = true) →
      (∀ u ∈ U, l.getD u true = false) → i ∈ Region.ready md ops l → YieldsIf P ops S oi v a → S w →
      wpAnyU P md ops Q S late n (l.setIfInBounds i true) (a.put oi.dst v) w → wpAnyU P md ops Q S late (n + 1) l a w := by
  intro n
  induction n with
  | zero =>
    intro l a w _ hus hr hy hS H
    refine ⟨fun h => (by rw [h] at hr; cases hr), fun j hj => ?_⟩
    by_cases hji : j = i
    · subst hji; exact hy.wpOp hi hS ⟨fun _ => hS, H⟩
    · have h0 := ready_mono hj hji
      rw [H.1] at h0
      cases h0
  | succ n ih =>
    intro l a w hfree hus hr hy hS H
    refine ⟨fun h => (by rw [h] at hr; cases hr), fun j hj => ?_⟩
    by_cases hji : j = i
    · subst hji; exact hy.wpOp hi hS ⟨fun _ => hS, H⟩
    · have h1 := H.2 j (ready_mono hj hji)
      obtain ⟨hjun, oj, hoj, hall⟩ := mem_ready.1 hj
      have hnot : ∀ e ∈ oj.after, Region.binds md e = true → e.on ≠ i := fun e he hb heq => by
        have h1 := hall e he hb
        have h0 := (mem_ready.1 hr).1
        rw [heq] at h1
        rcases Nat.lt_or_ge i l.size with h' | h'
        · simp [h'] at h0 h1; rw [h0] at h1; cases h1
        · simp [Array.getElem?_eq_none h'] at h1
      have falls : ∀ x, l.getD x true = false → l.getD x false = true → False := fun x h0 h1 => by
        rcases Nat.lt_or_ge x l.size with h' | h'
        · simp [h'] at h0 h1; rw [h0] at h1; cases h1
        · simp [Array.getElem?_eq_none h'] at h1
      have hjU : j ∉ U := fun hj' => by
        obtain ⟨e, he, hb, ho⟩ := hU j hj' oj hoj
        rcases ho with ho | ho
        · exact hnot e he hb ho
        · exact falls _ (hus _ ho) (hall e he hb)
      have hjl : j ∉ late := fun e => hjU (hlate j e)
      have h2 := wpOp_putIf hoj (hfree j oj hoj hji hjun hnot) (fun cs b => hsel i oi cs b hi) (fun cs b => hsel j oj cs b hoj) hQ hy h1
      have hfree' : ∀ k ok, ops[k]? = some ok → k ≠ i → (l.setIfInBounds j true).getD k true = false →
          (∀ e ∈ ok.after, Region.binds md e = true → e.on ≠ i) → oi.apart ops ok = true := fun k ok hk hki hun hno => by
        refine hfree k ok hk hki ?_ hno
        by_cases hjk : j = k
        · subst hjk; exact hjun
        · rw [getD_set_ne true hjk] at hun; exact hun
      refine wpOp_mono (fun a' w' h3 => ⟨h3.2.1, ih (l.setIfInBounds j true) a' w' hfree' (fun u hu => by rw [getD_set_ne (i := j) (j := u) true (fun e => hjU (by rw [e]; exact hu))]; exact hus u hu) (ready_mono hr (Ne.symm hji)) h3.1 (h3.2.1 hjl) ?_⟩) h2
      rw [Array.setIfInBounds_comm _ _ hji]
      exact h3.2.2
/-- Waits each of U for i, or for another of U? And is none of U listed, and each that is late in U? -/
def restB (md : Region.Mode) (ops : Array Oper) (late U : List Nat) (l : Array Bool) (i : Nat) : Bool :=
  U.all (fun j => (match ops[j]? with
    | some o => o.after.any fun e => Region.binds md e && (e.on == i || U.contains e.on)
    | none => true) && !l.getD j true) && late.all fun j => U.contains j
theorem rest_of {i : Nat} {U : List Nat} {l : Array Bool} (h : restB md ops late U l i = true) :
    (∀ j ∈ U, ∀ o, ops[j]? = some o → ∃ e ∈ o.after, Region.binds md e = true ∧ (e.on = i ∨ e.on ∈ U)) ∧ (∀ u ∈ U, l.getD u true = false) ∧ ∀ j ∈ late, j ∈ U := by
  unfold restB at h
  rw [Bool.and_eq_true, List.all_eq_true, List.all_eq_true] at h
  refine ⟨fun j hj o ho => ?_, fun u hu => ?_, fun j hj => by simpa using h.2 j hj⟩
  · have h1 := h.1 j hj
    rw [ho, Bool.and_eq_true] at h1
    obtain ⟨e, he, h2⟩ := Array.any_eq_true'.1 h1.1
    rw [Bool.and_eq_true, Bool.or_eq_true, beq_iff_eq, List.contains_iff_mem] at h2
    exact ⟨e, he, h2.1, h2.2⟩
  · have h1 := h.1 u hu
    rw [Bool.and_eq_true] at h1
    simpa using h1.2
theorem U_take' {i : Nat} {oi : Oper} {rest : List Oper} {v : Value} {n : Nat} {l : Array Bool} {a : Act} {w : World} (U : List Nat) (hd : ops.toList.drop i = oi :: rest)
    (hs : Region.noSelect ops = true) (hf : Region.free md ops l i = true) (hr : (Region.ready md ops l).contains i = true) (hw : restB md ops late U l i = true)
    (hQ : ∀ c a w, Q (.panic c) (a.put oi.dst v) w → Q (.panic c) a w) (hy : YieldsIf P ops S oi v a) (hS : S w)
    (h : wpAnyU P md ops Q S late n (l.setIfInBounds i true) (a.put oi.dst v) w) : wpAnyU P md ops Q S late (n + 1) l a w := by
  have e : (ops.toList.drop i)[0]? = some oi := by rw [hd]; rfl
  rw [List.getElem?_drop, Nat.add_zero, Array.getElem?_toList] at e
  obtain ⟨h1, h2, h3⟩ := rest_of hw
  exact U_first e (Region.noSelect_spec hs) hQ U h1 h3 n l a w (Region.free_spec e hf) h2 (by simpa using hr) hy hS h
/-- The operation i is one of those that may come next: what is owed for it. -/
def StepU (P : Program) (md : Region.Mode) (ops : Array Oper) (Q : Exit → Act → World → Prop) (S : World → Prop) (late : List Nat) (n : Nat) (l : Array Bool) (a : Act) (w : World) (i : Nat) : Prop :=
  wpOp P ops Q i (fun a' w' => (i ∉ late → S w') ∧ wpAnyU P md ops Q S late n (l.setIfInBounds i true) a' w') a w
theorem U_ready {n : Nat} {l : Array Bool} {a : Act} {w : World} (rs : List Nat) (hr : Region.ready md ops l = rs) (hne : rs ≠ []) (h : ∀ i ∈ rs, StepU P md ops Q S late n l a w i) : wpAnyU P md ops Q S late (n + 1) l a w :=
  ⟨fun h0 => absurd (hr.symm.trans h0) hne, fun j hj => h j (hr ▸ hj)⟩
theorem U_one {n : Nat} {l : Array Bool} {a : Act} {w : World} (i : Nat) (hr : Region.ready md ops l = [i]) (h : StepU P md ops Q S late n l a w i) : wpAnyU P md ops Q S late (n + 1) l a w :=
  U_ready [i] hr (by simp) (fun j hj => by
    obtain rfl : j = i := by simpa using hj
    exact h)
theorem U_two {n : Nat} {l : Array Bool} {a : Act} {w : World} (i j : Nat) (hr : Region.ready md ops l = [i, j]) (h : StepU P md ops Q S late n l a w i) (h' : StepU P md ops Q S late n l a w j) : wpAnyU P md ops Q S late (n + 1) l a w :=
  U_ready [i, j] hr (by simp) (fun k hk => by
    simp only [List.mem_cons, List.not_mem_nil, or_false] at hk
    rcases hk with rfl | rfl
    · exact h
    · exact h')
theorem U_step {i : Nat} {o : Oper} {rest : List Oper} {n : Nat} {l : Array Bool} {a : Act} {w : World} (hd : ops.toList.drop i = o :: rest)
    (h : ∀ K : Act → World → Prop, (∀ a' w', (i ∉ late → S w') → wpAnyU P md ops Q S late n (l.setIfInBounds i true) a' w' → K a' w') →
      if Region.wanted o (yielded ops a.tmps) = true then Oper.wp P o a w K Q else K (a.put o.dst undef) w) : StepU P md ops Q S late n l a w i := by
  have e : (ops.toList.drop i)[0]? = some o := by rw [hd]; rfl
  rw [List.getElem?_drop, Nat.add_zero, Array.getElem?_toList] at e
  exact wpOp_step e (fun K' hK => h K' fun a w p q => hK a w ⟨p, q⟩)
theorem U_done {l : Array Bool} {a : Act} {w : World} (hr : Region.ready md ops l = []) (h : Q .normal a w) : ∀ n, wpAnyU P md ops Q S late n l a w
  | 0 => ⟨hr, h⟩
  | _ + 1 => ⟨fun _ => h, by rw [hr]; simp⟩
end
/-- Normal, and N. -/
def Nrm (N : Act → World → Prop) : Exit → Act → World → Prop := fun e a w => e = .normal ∧ N a w
theorem nrm_out {N : Act → World → Prop} (h : LetsOut (Nrm N)) : False := by
  obtain ⟨a, w, h, _⟩ := h
  cases h
theorem op_in {P : Program} {l n : Nat} {o : Oper} {a : Act} {w : World} {K K' : Act → World → Prop} {N : Act → World → Prop} {Q : Exit → Act → World → Prop} (hd : ∀ c, o.op ≠ .defer c)
    (hK : ∀ a w, K a w → K' a w) (h : o.wp P a w K (Nrm N)) : o.wpIn (Fence.wide.inRound l) n P a w K' Q := by
  refine ⟨fun f _ => trivial, ?_⟩
  rw [Oper.semAt_eq _ _ _ hd]
  unfold Oper.wp at h
  generalize (execOp a.eval o).run P w = r at *
  cases r with
  | ok x w' =>
    cases x <;> simp only [Oper.upon, Oper.uponIn] at h ⊢
    case value => exact hK _ _ h
    case skip => exact hK _ _ h
    case defer => exact hK _ _ h
    case enter f args =>
      refine ⟨fun h0 => (by cases h0), (CallsIn.inRound l (callsIn_wide.2 h)).mono fun e w'' he => ?_⟩
      cases e
      · exact hK _ _ he
      · cases he.1
      · exact (nrm_out he).elim
    case row => exact ⟨fun h0 => (by cases h0), fun c cs _ => let ⟨v, w'', r, s⟩ := h c cs; ⟨v, w'', hK _ _ r, stepsIn_wide.2 s⟩⟩
  | halt x w' =>
    cases x <;> simp only [Oper.upon, Oper.uponIn] at h ⊢
    cases h.1
def noDefer (ops : Array Oper) : Bool := ops.all fun o => match o.op with | .defer _ => false | _ => true
theorem noDefer_of {ops : Array Oper} (h : noDefer ops = true) {i : Nat} {o : Oper} (hi : ops[i]? = some o) (c : _) : o.op ≠ .defer c := by
  intro e
  unfold noDefer at h
  have := (Array.all_eq_true'.1 h) o (Array.mem_of_getElem? hi)
  rw [e] at this
  cases this
theorem any_in {P : Program} {md : Region.Mode} {ops : Array Oper} {S : World → Prop} {late : List Nat} {l m : Nat} {N : Act → World → Prop} {Q : Exit → Act → World → Prop} (hd : noDefer ops = true) (hN : ∀ a w, N a w → Q .normal a w) :
    ∀ (n : Nat) (li : Array Bool) (a : Act) (w : World), wpAnyU P md ops (Nrm N) S late n li a w → wpAnyIn (Fence.wide.inRound l) m P md ops Q n li a w
  | 0, li, a, w, h => ⟨h.1, hN _ _ h.2.2⟩
  | n + 1, li, a, w, h => ⟨fun h0 => hN _ _ (h.1 h0).2, fun i hi => by
      have h1 := h.2 i hi
      unfold wpOp at h1
      unfold wpOpIn
      cases ho : ops[i]? with
      | none => rw [ho] at h1; exact any_in hd hN n _ a w h1.2
      | some o =>
        rw [ho] at h1
        simp only at h1 ⊢
        split
        · rename_i hw
          rw [if_pos hw] at h1
          rcases h1 with h1 | h1
          · exact op_in (noDefer_of hd ho) (fun a w hk => any_in hd hN n _ a w hk.2) h1
          · exact (nrm_out h1.2).elim
        · rename_i hw
          rw [if_neg hw] at h1
          exact ⟨fun f _ => trivial, any_in hd hN n _ _ w h1.2⟩⟩
/-- A region that draws its order, in a round of a range over a function. -/
theorem region_round {P : Program} {ops : Array Oper} {id l m : Nat} {a : Act} {w : World} {Q : Exit → Act → World → Prop} (late : List Nat) (S : World → Prop) (hm : P.follows .mixedOrders = true) (hd : noDefer ops = true) (hS : S w.drew)
    (h : S w.drew → wpAnyU P .any ops (Nrm fun a w => Q .normal a w) S late ops.size (Array.replicate ops.size false) a w.drew) : (Code.region id ops true).wpIn (Fence.wide.inRound l) m P Q a w :=
  wpIn_region_any hm (any_in hd (fun _ _ h => h) _ _ _ _ (h hS))
end Go.Proofs.Ytbfaoelgbfhjdaa
