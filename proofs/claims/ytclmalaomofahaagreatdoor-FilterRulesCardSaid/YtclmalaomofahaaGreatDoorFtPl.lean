/- What the parts of a row of points come to: plain. Conditions: those that each theorem names. -/
import Derived.Test.YtclmalaomofahaaGreatDoorFtL
namespace Go.Proofs.YtclmalaomofahaaGreatDoor
set_option linter.unusedVariables false
namespace Ft
open Pq Pq.Pl Px Ids
/-- The first point of each id. -/
def ones (L : List Pt) : List Pt := L.foldl (fun A p => if p.id ∈ A.map (fun x => x.id) then A else A ++ [p]) []
theorem ones_next {L : List Pt} {q : Nat} (h : q < L.length) : ones (L.take (q + 1)) = if (L[q]).id ∈ (ones (L.take q)).map (fun x => x.id) then ones (L.take q) else ones (L.take q) ++ [L[q]] := by
  unfold ones
  rw [List.take_add_one, List.getElem?_eq_getElem h, List.foldl_append]
  rfl
theorem ones_take (L : List Pt) : ∀ q, q ≤ L.length → ((ones (L.take q)).map fun x => x.id).Nodup ∧ (ones (L.take q)).length ≤ q ∧ (∀ p ∈ ones (L.take q), p ∈ L)
  | 0, _ => by simp [ones]
  | q + 1, h => by
    obtain ⟨h1, h2, h3⟩ := ones_take L q (by omega)
    rw [ones_next (by omega)]
    split
    · exact ⟨h1, by omega, h3⟩
    · next hn =>
      refine ⟨?_, by simp; omega, fun p hp => ?_⟩
      · rw [List.map_append, List.map_cons, List.map_nil, List.nodup_append]
        refine ⟨h1, by simp, fun a ha b hb => ?_⟩
        simp at hb
        subst hb
        intro e
        subst e
        exact hn ha
      · rcases List.mem_append.1 hp with hp | hp
        · exact h3 p hp
        · simp at hp
          subst hp
          exact List.getElem_mem _
def allOf (L : List Pt) : List Int := (ones L).map fun x => x.id
theorem allOf_nodup (L : List Pt) : (allOf L).Nodup := by
  have := (ones_take L L.length (Nat.le_refl _)).1
  rw [List.take_length] at this
  exact this
theorem ones_len (L : List Pt) : (ones L).length ≤ L.length := by
  have := (ones_take L L.length (Nat.le_refl _)).2.1
  rwa [List.take_length] at this
def notC (c : Cd) : Cd := .mk 6 ⟨#[]⟩ ⟨0, 0, ⟨#[]⟩⟩ 0 0 [c]
theorem pass_notC (F : List Fld) (c : Cd) : pass F (notC c) = !pass F c := by simp [notC, pass, passNot]
theorem put_new (n : Int) : ∀ l : List Int, n ∉ l → (put n l).length = l.length + 1
  | [], _ => rfl
  | x :: l, h => by
    unfold put
    split
    · rfl
    · split
      · next e => exact absurd (e ▸ List.mem_cons_self ..) h
      · simp [put_new n l (fun c => h (List.mem_cons_of_mem _ c))]
theorem putAll_nodup : ∀ (l S : List Int), l.Nodup → (∀ x ∈ l, x ∉ S) → (putAll l S).length = S.length + l.length
  | [], S, _, _ => rfl
  | x :: l, S, hn, hd => by
    obtain ⟨h1, h2⟩ := List.nodup_cons.1 hn
    have := putAll_nodup l (put x S) h2 (fun y hy c => by
      rcases (mem_put x y S).1 c with e | e
      · subst e; exact h1 hy
      · exact hd y (List.mem_cons_of_mem _ hy) e)
    show (putAll l (put x S)).length = _
    rw [this, put_new x S (hd x (List.mem_cons_self ..)), List.length_cons]
    omega
theorem setL_nodup {l : List Int} (h : l.Nodup) : (setL l).length = l.length := by
  have := putAll_nodup l [] h (by simp)
  simpa [setL] using this
theorem mem_set (x : Int) (l : List Int) : x ∈ setL l ↔ x ∈ l := by simp [setL, mem_putAll]
theorem ris_set (l : List Int) : Ris (setL l) := ris_putAll _ _ List.Pairwise.nil
section
variable (c : Cd) (L : List Pt)
theorem mem_ids (c : Cd) (L : List Pt) (x : Int) : x ∈ idsOf c L ↔ ∃ p ∈ L, pass p.flds c = true ∧ p.id = x := by
  unfold idsOf
  simp only [List.mem_map, List.mem_filter]
  constructor
  · rintro ⟨p, ⟨h1, h2⟩, h3⟩; exact ⟨p, h1, h2, h3⟩
  · rintro ⟨p, h1, h2, h3⟩; exact ⟨p, ⟨h1, h2⟩, h3⟩
theorem same_of_id : ∀ {A : List Pt}, (A.map fun x => x.id).Nodup → ∀ p ∈ A, ∀ q ∈ A, p.id = q.id → p = q
  | [], _, p, hp, _, _, _ => by simp at hp
  | a :: A, hn, p, hp, q, hq, e => by
    rw [List.map_cons, List.nodup_cons] at hn
    rcases List.mem_cons.1 hp with e1 | hp'
    · rcases List.mem_cons.1 hq with e2 | hq'
      · rw [e1, e2]
      · exact (hn.1 (List.mem_map.2 ⟨q, hq', by rw [← e, e1]⟩)).elim
    · rcases List.mem_cons.1 hq with e2 | hq'
      · exact (hn.1 (List.mem_map.2 ⟨p, hp', by rw [e, e2]⟩)).elim
      · exact same_of_id hn.2 p hp' q hq' e
theorem parts_inter : interL (setL (idsOf c (ones L))) (setL (idsOf (notC c) (ones L))) = [] := by
  unfold interL
  rw [List.filter_eq_nil_iff]
  intro x hx hy
  rw [mem_set, mem_set, mem_ids] at hx
  obtain ⟨p, hp, h1, rfl⟩ := hx
  have hy := of_decide_eq_true hy
  rw [mem_set, mem_set, mem_ids] at hy
  obtain ⟨q, hq, h2, e⟩ := hy
  have := same_of_id (allOf_nodup L) p hp q hq e.symm
  subst this
  rw [pass_notC, h1] at h2
  cases h2
theorem parts_union : uniL (setL (idsOf c (ones L))) (setL (idsOf (notC c) (ones L))) = setL (allOf L) := by
  refine ris_ext (ris_putAll _ _ (ris_set _)) (ris_set _) fun x => ?_
  unfold uniL
  rw [mem_putAll, mem_set, mem_set, mem_set, mem_set, mem_ids, mem_ids]
  unfold allOf
  simp only [List.mem_map]
  constructor
  · rintro (⟨p, hp, _, e⟩ | ⟨p, hp, _, e⟩) <;> exact ⟨p, hp, e⟩
  · rintro ⟨p, hp, e⟩
    cases h : pass p.flds c
    · exact .inr ⟨p, hp, by rw [pass_notC, h]; rfl, e⟩
    · exact .inl ⟨p, hp, h, e⟩
theorem sub_nodup {A : List Pt} (h : (A.map fun x => x.id).Nodup) : (idsOf c A).Nodup :=
  h.sublist (List.Sublist.map _ List.filter_sublist)
theorem ids_add : ∀ A : List Pt, (idsOf c A).length + (idsOf (notC c) A).length = A.length
  | [] => rfl
  | p :: A => by
    have := ids_add A
    unfold idsOf at this ⊢
    simp only [List.length_map, List.filter_cons, pass_notC] at this ⊢
    cases pass p.flds c <;> simp at this ⊢ <;> omega
theorem parts_len : (setL (idsOf c (ones L))).length + (setL (idsOf (notC c) (ones L))).length = (allOf L).length := by
  rw [setL_nodup (sub_nodup c (allOf_nodup L)), setL_nodup (sub_nodup (notC c) (allOf_nodup L)), ids_add]
  simp [allOf]
end
end Ft
end Go.Proofs.YtclmalaomofahaaGreatDoor
