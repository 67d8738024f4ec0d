/- Ids grouped by their values, plain: the groups of rows whose ids rise are what the index finds. Conditions: those that each theorem names. -/
import Derived.Test.YtkmfkgjkgnlfnaaWdPlain
namespace Go.Proofs.Ytkmfkgjkgnlfnaa
set_option linter.unusedVariables false
namespace Wd
open Ids
variable {α : Type} [DecidableEq α]
abbrev Gp (α : Type) := List (α × List Int)
/-- One id more under its value. -/
def putG (v : α) (i : Int) : Gp α → Gp α
  | [] => [(v, [i])]
  | x :: r => if x.1 = v then (x.1, x.2 ++ [i]) :: r else x :: putG v i r
def grpL (R : List (Rw α)) : Gp α := R.foldl (fun G r => match r.2 with | none => G | some v => putG v r.1 G) []
theorem grpL_snoc (R : List (Rw α)) (r : Rw α) : grpL (R ++ [r]) = match r.2 with | none => grpL R | some v => putG v r.1 (grpL R) := by simp [grpL]
/-- The ids under a value, as they come. -/
def someL (R : List (Rw α)) (v : α) : List Int := (R.filter fun r => decide (r.2 = some v)).map Prod.fst
theorem someL_snoc (R : List (Rw α)) (r : Rw α) (v : α) : someL (R ++ [r]) v = if r.2 = some v then someL R v ++ [r.1] else someL R v := by
  unfold someL
  by_cases h : r.2 = some v <;> simp [h]
theorem keys_putG (v : α) (i : Int) : ∀ G : Gp α, (putG v i G).map Prod.fst = if v ∈ G.map Prod.fst then G.map Prod.fst else G.map Prod.fst ++ [v]
  | [] => by simp [putG]
  | x :: r => by
    unfold putG
    by_cases h : x.1 = v
    · simp [h]
    · have h' : ¬ v = x.1 := fun e => h e.symm
      rw [if_neg h, List.map_cons, keys_putG v i r]
      by_cases h2 : v ∈ r.map Prod.fst
      · rw [if_pos h2, if_pos (by simp at h2 ⊢; exact .inr h2)]; simp
      · rw [if_neg h2, if_neg (by simp at h2 ⊢; exact ⟨h', h2⟩)]; simp
theorem mem_putG_new (v : α) (i : Int) (u : α) (l : List Int) : ∀ G : Gp α, v ∉ G.map Prod.fst → ((u, l) ∈ putG v i G ↔ (u = v ∧ l = [i]) ∨ (u, l) ∈ G)
  | [], _ => by simp [putG]
  | x :: r, h => by
    simp only [List.map_cons, List.mem_cons, not_or] at h
    unfold putG
    rw [if_neg fun e => h.1 e.symm]
    simp only [List.mem_cons, mem_putG_new v i u l r h.2]
    constructor <;> rintro (a | a | a) <;> simp [a]
theorem mem_putG_old (v : α) (i : Int) (u : α) (l m : List Int) : ∀ G : Gp α, (G.map Prod.fst).Nodup → (v, m) ∈ G → ((u, l) ∈ putG v i G ↔ (u = v ∧ l = m ++ [i]) ∨ (u ≠ v ∧ (u, l) ∈ G))
  | [], _, h => by cases h
  | x :: r, hn, h => by
    obtain ⟨h1, h2⟩ := List.nodup_cons.1 hn
    unfold putG
    by_cases e : x.1 = v
    · have hx : x = (v, m) := by
        rcases List.mem_cons.1 h with q | q
        · exact q.symm
        · exact absurd (by rw [e]; exact List.mem_map_of_mem (f := Prod.fst) q) h1
      subst hx
      rw [if_pos e]
      simp only [List.mem_cons, Prod.mk.injEq]
      constructor
      · rintro (⟨rfl, rfl⟩ | q)
        · exact .inl ⟨rfl, rfl⟩
        · exact .inr ⟨fun e2 => h1 (by rw [show (v, m).1 = u from e2.symm]; exact List.mem_map_of_mem (f := Prod.fst) q), .inr q⟩
      · rintro (⟨rfl, rfl⟩ | ⟨hne, ⟨rfl, _⟩ | q⟩)
        · exact .inl ⟨rfl, rfl⟩
        · exact absurd rfl hne
        · exact .inr q
    · rw [if_neg e]
      have hm : (v, m) ∈ r := by
        rcases List.mem_cons.1 h with q | q
        · exact absurd (by rw [← q]) e
        · exact q
      simp only [List.mem_cons, mem_putG_old v i u l m r h2 hm]
      constructor
      · rintro (rfl | a | ⟨a, b⟩)
        · exact .inr ⟨e, .inl rfl⟩
        · exact .inl a
        · exact .inr ⟨a, .inr b⟩
      · rintro (a | ⟨a, rfl | b⟩)
        · exact .inr (.inl a)
        · exact .inl rfl
        · exact .inr (.inr ⟨a, b⟩)
theorem grp_fact : ∀ (n : Nat) (R : List (Rw α)), R.length = n → ((grpL R).map Prod.fst).Nodup ∧ (∀ v l, (v, l) ∈ grpL R ↔ l = someL R v ∧ l ≠ []) ∧ (grpL R).length ≤ n
  | 0, R, e => by
    obtain rfl := List.length_eq_zero_iff.1 e
    refine ⟨List.nodup_nil, fun v l => ?_, Nat.le_refl _⟩
    simp [grpL, someL]
  | n + 1, R, e => by
    rcases List.eq_nil_or_concat R with e2 | ⟨A, ⟨i, o⟩, rfl⟩
    · subst e2; cases e
    · obtain ⟨h1, h2, h3⟩ := grp_fact n A (by simpa using e)
      rw [List.concat_eq_append, grpL_snoc]
      cases o with
      | none => exact ⟨h1, fun v l => by dsimp only; rw [h2, someL_snoc, if_neg (by simp)], by dsimp only; omega⟩
      | some x =>
        dsimp only
        by_cases hx : x ∈ (grpL A).map Prod.fst
        · obtain ⟨⟨x', m⟩, hm, ex⟩ := List.mem_map.1 hx
          have ex : x' = x := ex
          subst ex
          have hk := keys_putG x' i (grpL A)
          rw [if_pos hx] at hk
          refine ⟨by rw [hk]; exact h1, fun v l => ?_, by have := congrArg List.length hk; simp at this; omega⟩
          rw [mem_putG_old x' i v l m _ h1 hm, someL_snoc]
          have hm2 := (h2 x' m).1 hm
          constructor
          · rintro (⟨rfl, rfl⟩ | ⟨hne, q⟩)
            · rw [if_pos rfl, ← hm2.1]; exact ⟨rfl, by simp⟩
            · rw [if_neg (by simp; exact fun e => hne e.symm)]; exact (h2 v l).1 q
          · rintro ⟨e1, e2⟩
            by_cases hv : x' = v
            · subst hv
              rw [if_pos rfl, ← hm2.1] at e1
              exact .inl ⟨rfl, e1⟩
            · rw [if_neg (by simp; exact hv)] at e1
              exact .inr ⟨fun e => hv e.symm, (h2 v l).2 ⟨e1, e2⟩⟩
        · have hk := keys_putG x i (grpL A)
          rw [if_neg hx] at hk
          have hz : someL A x = [] := by
            cases hs : someL A x with
            | nil => rfl
            | cons a b => exact absurd (List.mem_map_of_mem (f := Prod.fst) ((h2 x (someL A x)).2 ⟨rfl, by rw [hs]; simp⟩)) hx
          refine ⟨by rw [hk]; exact List.nodup_append.2 ⟨h1, by simp, fun a ha b hb e4 => by simp at hb; rw [e4, hb] at ha; exact hx ha⟩, fun v l => ?_, by have := congrArg List.length hk; simp at this; omega⟩
          rw [mem_putG_new x i v l _ hx, someL_snoc]
          constructor
          · rintro (⟨rfl, rfl⟩ | q)
            · rw [if_pos rfl, hz]; exact ⟨rfl, by simp⟩
            · have hne : ¬ x = v := fun e => by subst e; exact hx (List.mem_map_of_mem (f := Prod.fst) q)
              rw [if_neg (by simp; exact hne)]; exact (h2 v l).1 q
          · rintro ⟨e1, e2⟩
            by_cases hv : x = v
            · subst hv
              rw [if_pos rfl, hz] at e1
              exact .inl ⟨rfl, e1⟩
            · rw [if_neg (by simp; exact hv)] at e1
              exact .inr ((h2 v l).2 ⟨e1, e2⟩)
theorem grp_nodup (R : List (Rw α)) : ((grpL R).map Prod.fst).Nodup := (grp_fact _ R rfl).1
theorem mem_grp {R : List (Rw α)} {v : α} {l : List Int} : (v, l) ∈ grpL R ↔ l = someL R v ∧ l ≠ [] := (grp_fact _ R rfl).2.1 v l
theorem grp_length (R : List (Rw α)) : (grpL R).length ≤ R.length := (grp_fact _ R rfl).2.2
/-- Rows whose ids rise: what stands under a value rises. -/
theorem some_find {R : List (Rw α)} (h : Ris (R.map Prod.fst)) (v : α) : someL R v = findL R v := by
  have hr : Ris (someL R v) := by
    have : (someL R v).Sublist (R.map Prod.fst) := (List.filter_sublist).map _
    exact List.Pairwise.sublist this h
  refine ris_ext hr (ris_findL R v) fun i => ?_
  rw [show findL R v = setL (someL R v) from rfl, mem_setL]
end Wd
end Go.Proofs.Ytkmfkgjkgnlfnaa
