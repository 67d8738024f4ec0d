/- Rows of ids with a value or none, plain: the last of each id counts; the ids of a value, of all that have one; the values in their order. Conditions: those that each theorem names. -/
import Derived.Test.YtkmfkgjkgnlfnaaIdPlain
namespace Go.Proofs.Ytkmfkgjkgnlfnaa
set_option linter.unusedVariables false
namespace Wd
open Ids
variable {α : Type}
abbrev Rw (α : Type) := Int × Option α
/-- One point more: its row takes the place of the row of its id, or stands behind all. -/
def putRow (x : Rw α) : List (Rw α) → List (Rw α)
  | [] => [x]
  | y :: r => if y.1 = x.1 then x :: r else y :: putRow x r
def rowsL (L : List (Rw α)) : List (Rw α) := L.foldl (fun o x => putRow x o) []
/-- The value that counts for an id: that of its last row. -/
def last (L : List (Rw α)) (i : Int) : Option (Option α) := (L.reverse.find? fun x => decide (x.1 = i)).map fun x => x.2
theorem last_snoc (L : List (Rw α)) (x : Rw α) (i : Int) : last (L ++ [x]) i = if x.1 = i then some x.2 else last L i := by
  unfold last
  simp only [List.reverse_append, List.reverse_cons, List.reverse_nil, List.nil_append, List.singleton_append, List.find?_cons]
  by_cases h : x.1 = i <;> simp [h]
theorem ids_putRow (x : Rw α) : ∀ L : List (Rw α), (putRow x L).map Prod.fst = if x.1 ∈ L.map Prod.fst then L.map Prod.fst else L.map Prod.fst ++ [x.1]
  | [] => by simp [putRow]
  | y :: r => by
    unfold putRow
    by_cases h : y.1 = x.1
    · simp [h]
    · have h' : ¬ x.1 = y.1 := fun e => h e.symm
      rw [if_neg h, List.map_cons, ids_putRow x r]
      by_cases h2 : x.1 ∈ r.map Prod.fst
      · rw [if_pos h2, if_pos (by simp at h2 ⊢; exact .inr h2)]; simp
      · rw [if_neg h2, if_neg (by simp at h2 ⊢; exact ⟨h', h2⟩)]; simp
theorem nodup_putRow (x : Rw α) (L : List (Rw α)) (h : (L.map Prod.fst).Nodup) : ((putRow x L).map Prod.fst).Nodup := by
  rw [ids_putRow]
  split
  · exact h
  · rename_i e
    exact List.nodup_append.2 ⟨h, by simp, fun a ha b hb => by simp at hb; subst hb; intro e2; exact e (e2 ▸ ha)⟩
theorem mem_putRow (x y : Rw α) : ∀ L : List (Rw α), (L.map Prod.fst).Nodup → (y ∈ putRow x L ↔ y = x ∨ (y ∈ L ∧ y.1 ≠ x.1))
  | [], _ => by simp [putRow]
  | z :: r, h => by
    have h2 := List.nodup_cons.1 h
    unfold putRow
    by_cases e : z.1 = x.1
    · rw [if_pos e]
      simp only [List.mem_cons]
      constructor
      · rintro (rfl | hy)
        · exact .inl rfl
        · exact .inr ⟨.inr hy, fun e2 => h2.1 (by rw [e, ← e2]; exact List.mem_map_of_mem hy)⟩
      · rintro (rfl | ⟨rfl | hy, hne⟩)
        · exact .inl rfl
        · exact absurd e hne
        · exact .inr hy
    · rw [if_neg e]
      simp only [List.mem_cons, mem_putRow x y r h2.2]
      constructor
      · rintro (rfl | rfl | ⟨hy, hne⟩)
        · exact .inr ⟨.inl rfl, e⟩
        · exact .inl rfl
        · exact .inr ⟨.inr hy, hne⟩
      · rintro (rfl | ⟨rfl | hy, hne⟩)
        · exact .inr (.inl rfl)
        · exact .inl rfl
        · exact .inr (.inr ⟨hy, hne⟩)
theorem rowsL_snoc (L : List (Rw α)) (x : Rw α) : rowsL (L ++ [x]) = putRow x (rowsL L) := by simp [rowsL]
theorem rows_fact : ∀ (n : Nat) (L : List (Rw α)), L.length = n → ((rowsL L).map Prod.fst).Nodup ∧ ∀ y, y ∈ rowsL L ↔ last L y.1 = some y.2
  | 0, L, h => by
    obtain rfl := List.length_eq_zero_iff.1 h
    simp [rowsL, last]
  | n + 1, L, h => by
    rcases List.eq_nil_or_concat L with e | ⟨A, x, rfl⟩
    · subst e; cases h
    · obtain ⟨h1, h2⟩ := rows_fact n A (by simpa using h)
      rw [List.concat_eq_append, rowsL_snoc]
      refine ⟨nodup_putRow x _ h1, fun y => ?_⟩
      rw [mem_putRow x y _ h1, last_snoc, h2]
      constructor
      · rintro (rfl | ⟨hy, hne⟩)
        · simp
        · rw [if_neg fun e => hne e.symm]; exact hy
      · intro hy
        by_cases e : x.1 = y.1
        · rw [if_pos e] at hy
          exact .inl (Prod.ext e.symm (Option.some.inj hy).symm)
        · rw [if_neg e] at hy
          exact .inr ⟨hy, fun e2 => e e2.symm⟩
theorem rows_nodup (L : List (Rw α)) : ((rowsL L).map Prod.fst).Nodup := (rows_fact _ L rfl).1
theorem mem_rows {L : List (Rw α)} {y : Rw α} : y ∈ rowsL L ↔ last L y.1 = some y.2 := (rows_fact _ L rfl).2 y
theorem putRow_length (x : Rw α) (L : List (Rw α)) : L.length ≤ (putRow x L).length ∧ (putRow x L).length ≤ L.length + 1 := by
  have h := congrArg List.length (ids_putRow x L)
  rw [List.length_map] at h
  split at h <;> simp at h <;> omega
theorem rowsL_len : ∀ (n : Nat) (L : List (Rw α)), L.length = n → (rowsL L).length ≤ n
  | 0, L, h => by
    obtain rfl := List.length_eq_zero_iff.1 h
    simp [rowsL]
  | n + 1, L, h => by
    rcases List.eq_nil_or_concat L with e | ⟨A, x, rfl⟩
    · subst e; cases h
    · have h1 := rowsL_len n A (by simpa using h)
      have h2 := (putRow_length x (rowsL A)).2
      rw [List.concat_eq_append, rowsL_snoc]
      omega
theorem rowsL_length (L : List (Rw α)) : (rowsL L).length ≤ L.length := rowsL_len _ L rfl
theorem unlike_inj : ∀ (L : List (Rw α)), (L.map Prod.fst).Nodup → ∀ z, z ∈ L → ∀ y, y ∈ L → z.1 = y.1 → z = y
  | [], _, z, hz, _, _, _ => by cases hz
  | x :: r, h, z, hz, y, hy, e => by
    obtain ⟨h1, h2⟩ := List.nodup_cons.1 h
    rcases List.mem_cons.1 hz with q1 | q1
    · rcases List.mem_cons.1 hy with q2 | q2
      · exact q1.trans q2.symm
      · exact absurd (by rw [← q1, e]; exact List.mem_map_of_mem q2) h1
    · rcases List.mem_cons.1 hy with q2 | q2
      · exact absurd (by rw [← q2, ← e]; exact List.mem_map_of_mem q1) h1
      · exact unlike_inj r h2 z q1 y q2 e
/-- Ids that are all unlike: the rows are the list as it is. -/
theorem last_unlike {L : List (Rw α)} (h : (L.map Prod.fst).Nodup) {y : Rw α} : last L y.1 = some y.2 ↔ y ∈ L := by
  unfold last
  constructor
  · intro hy
    rw [Option.map_eq_some_iff] at hy
    obtain ⟨z, hz, e⟩ := hy
    have h1 := List.find?_some hz
    have h2 := List.mem_of_find?_eq_some hz
    obtain rfl : z = y := Prod.ext (by simpa using h1) e
    simpa using h2
  · intro hy
    rw [Option.map_eq_some_iff]
    cases hf : L.reverse.find? (fun x => decide (x.1 = y.1)) with
    | none =>
      have := List.find?_eq_none.1 hf y (by simpa using hy)
      simp at this
    | some z =>
      have h1 : z.1 = y.1 := by simpa using List.find?_some hf
      have h2 : z ∈ L := by simpa using List.mem_of_find?_eq_some hf
      refine ⟨z, rfl, ?_⟩
      have : z = y := unlike_inj L h z h2 y hy h1
      rw [this]
theorem rows_unlike {L : List (Rw α)} (h : (L.map Prod.fst).Nodup) (y : Rw α) : y ∈ rowsL L ↔ y ∈ L := by rw [mem_rows, last_unlike h]
section
variable [DecidableEq α]
/-- The ids whose value it is; of all that have one. -/
def findL (R : List (Rw α)) (v : α) : List Int := setL ((R.filter fun r => decide (r.2 = some v)).map Prod.fst)
theorem mem_findL {R : List (Rw α)} {v : α} {i : Int} : i ∈ findL R v ↔ (i, some v) ∈ R := by
  unfold findL
  rw [mem_setL]
  simp only [List.mem_map, List.mem_filter, decide_eq_true_eq]
  constructor
  · rintro ⟨⟨j, o⟩, ⟨h, e⟩, rfl⟩
    subst e
    exact h
  · exact fun h => ⟨_, ⟨h, rfl⟩, rfl⟩
theorem ris_findL (R : List (Rw α)) (v : α) : Ris (findL R v) := ris_setL _
end
def anyL (R : List (Rw α)) : List Int := setL ((R.filter fun r => r.2.isSome).map Prod.fst)
theorem mem_anyL {R : List (Rw α)} {i : Int} : i ∈ anyL R ↔ ∃ v, (i, some v) ∈ R := by
  unfold anyL
  rw [mem_setL]
  simp only [List.mem_map, List.mem_filter]
  constructor
  · rintro ⟨⟨j, o⟩, ⟨h, e⟩, rfl⟩
    obtain ⟨v, rfl⟩ := Option.isSome_iff_exists.1 e
    exact ⟨v, h⟩
  · rintro ⟨v, h⟩
    exact ⟨_, ⟨h, rfl⟩, rfl⟩
theorem ris_anyL (R : List (Rw α)) : Ris (anyL R) := ris_setL _
/-- An order of values. -/
structure Order (lt : α → α → Bool) : Prop where
  irr : ∀ a, lt a a = false
  tr : ∀ {a b c}, lt a b = true → lt b c = true → lt a c = true
  tri : ∀ a b, a = b ∨ lt a b = true ∨ lt b a = true
def RisV (lt : α → α → Bool) (L : List α) : Prop := L.Pairwise fun a b => lt a b = true
/-- A value put at its place. -/
def putV (lt : α → α → Bool) (x : α) : List α → List α
  | [] => [x]
  | y :: r => if lt y x then y :: putV lt x r else if lt x y then x :: y :: r else y :: r
variable {lt : α → α → Bool}
theorem Order.asymm (h : Order lt) {a b : α} (e : lt a b = true) : lt b a = false := by
  cases e2 : lt b a with
  | false => rfl
  | true => have := h.tr e e2; rw [h.irr] at this; cases this
theorem mem_putV (h : Order lt) (x y : α) : ∀ L : List α, y ∈ putV lt x L ↔ y = x ∨ y ∈ L
  | [] => by simp [putV]
  | z :: r => by
    unfold putV
    by_cases h1 : lt z x = true
    · rw [if_pos h1]
      simp only [List.mem_cons, mem_putV h x y r]
      constructor <;> rintro (a | a | a) <;> simp [a]
    · rw [if_neg h1]
      by_cases h2 : lt x z = true
      · rw [if_pos h2]; simp
      · rw [if_neg h2]
        obtain rfl : z = x := by
          rcases h.tri z x with e | e | e
          · exact e
          · exact absurd e h1
          · exact absurd e h2
        simp
theorem ris_putV (h : Order lt) (x : α) : ∀ L : List α, RisV lt L → RisV lt (putV lt x L)
  | [], _ => by simp [putV, RisV]
  | z :: r, hr => by
    obtain ⟨a, b⟩ := List.pairwise_cons.1 hr
    unfold putV
    by_cases h1 : lt z x = true
    · rw [if_pos h1]
      refine List.pairwise_cons.2 ⟨fun y hy => ?_, ris_putV h x r b⟩
      rcases (mem_putV h x y r).1 hy with rfl | hy
      · exact h1
      · exact a y hy
    · rw [if_neg h1]
      by_cases h2 : lt x z = true
      · rw [if_pos h2]
        refine List.pairwise_cons.2 ⟨fun y hy => ?_, hr⟩
        rcases List.mem_cons.1 hy with rfl | hy
        · exact h2
        · exact h.tr h2 (a y hy)
      · rw [if_neg h2]; exact hr
theorem putV_length (x : α) : ∀ L : List α, L.length ≤ (putV lt x L).length ∧ (putV lt x L).length ≤ L.length + 1
  | [] => by simp [putV]
  | z :: r => by
    have := putV_length x r
    unfold putV
    split
    · simp; omega
    · split <;> simp
/-- Two rising lists of the same values are the same. -/
theorem risV_ext (h : Order lt) : ∀ {A B : List α}, RisV lt A → RisV lt B → (∀ v, v ∈ A ↔ v ∈ B) → A = B
  | [], [], _, _, _ => rfl
  | [], b :: B, _, _, e => absurd ((e b).2 (by simp)) (by simp)
  | a :: A, [], _, _, e => absurd ((e a).1 (by simp)) (by simp)
  | a :: A, b :: B, ha, hb, e => by
    obtain ⟨a1, a2⟩ := List.pairwise_cons.1 ha
    obtain ⟨b1, b2⟩ := List.pairwise_cons.1 hb
    have hab : a = b := by
      rcases List.mem_cons.1 ((e a).1 (by simp)) with q | q
      · exact q
      · rcases List.mem_cons.1 ((e b).2 (by simp)) with q2 | q2
        · exact q2.symm
        · have := h.asymm (a1 b q2); rw [b1 a q] at this; cases this
    subst hab
    have hna : a ∉ A := fun q => by have := a1 a q; rw [h.irr] at this; cases this
    have hnb : a ∉ B := fun q => by have := b1 a q; rw [h.irr] at this; cases this
    rw [risV_ext h a2 b2 fun v => ?_]
    have := e v
    simp only [List.mem_cons] at this
    constructor
    · intro hv
      rcases this.1 (.inr hv) with q | q
      · exact absurd (q ▸ hv) hna
      · exact q
    · intro hv
      rcases this.2 (.inr hv) with q | q
      · exact absurd (q ▸ hv) hnb
      · exact q
/-- The values in their order, each once. -/
def valsL (lt : α → α → Bool) (R : List (Rw α)) : List α := R.foldl (fun o r => match r.2 with | none => o | some v => putV lt v o) []
theorem valsL_snoc (R : List (Rw α)) (r : Rw α) : valsL lt (R ++ [r]) = match r.2 with | none => valsL lt R | some v => putV lt v (valsL lt R) := by simp [valsL]
theorem vals_fact (h : Order lt) : ∀ (n : Nat) (R : List (Rw α)), R.length = n → RisV lt (valsL lt R) ∧ (∀ v, v ∈ valsL lt R ↔ ∃ i, (i, some v) ∈ R) ∧ (valsL lt R).length ≤ n
  | 0, R, e => by
    obtain rfl := List.length_eq_zero_iff.1 e
    simp [valsL, RisV]
  | n + 1, R, e => by
    rcases List.eq_nil_or_concat R with e2 | ⟨A, ⟨i, o⟩, rfl⟩
    · subst e2; cases e
    · obtain ⟨h1, h2, h3⟩ := vals_fact h n A (by simpa using e)
      rw [List.concat_eq_append, valsL_snoc]
      cases o with
      | none => exact ⟨h1, fun v => by dsimp only; rw [h2]; simp, by dsimp only; omega⟩
      | some x =>
        dsimp only
        refine ⟨ris_putV h x _ h1, fun v => ?_, by have := (putV_length (lt := lt) x (valsL lt A)).2; omega⟩
        rw [mem_putV h, h2]
        constructor
        · rintro (rfl | ⟨j, hj⟩)
          · exact ⟨i, by simp⟩
          · exact ⟨j, by simp [hj]⟩
        · rintro ⟨j, hj⟩
          simp only [List.mem_append, List.mem_singleton, Prod.mk.injEq, Option.some.injEq] at hj
          rcases hj with hj | ⟨_, rfl⟩
          · exact .inr ⟨j, hj⟩
          · exact .inl rfl
theorem ris_valsL (h : Order lt) (R : List (Rw α)) : RisV lt (valsL lt R) := (vals_fact h _ R rfl).1
theorem mem_valsL (h : Order lt) {R : List (Rw α)} {v : α} : v ∈ valsL lt R ↔ ∃ i, (i, some v) ∈ R := (vals_fact h _ R rfl).2.1 v
theorem valsL_length (h : Order lt) (R : List (Rw α)) : (valsL lt R).length ≤ R.length := (vals_fact h _ R rfl).2.2
/-- What the rows hold is all that counts. -/
theorem same_rows [DecidableEq α] (h : Order lt) {R S : List (Rw α)} (e : ∀ y, y ∈ R ↔ y ∈ S) : (∀ v, findL R v = findL S v) ∧ anyL R = anyL S ∧ valsL lt R = valsL lt S :=
  ⟨fun v => ris_ext (ris_findL _ _) (ris_findL _ _) fun i => by rw [mem_findL, mem_findL, e],
   ris_ext (ris_anyL _) (ris_anyL _) fun i => by rw [mem_anyL, mem_anyL]; exact exists_congr fun v => e _,
   risV_ext h (ris_valsL h _) (ris_valsL h _) fun v => by rw [mem_valsL h, mem_valsL h]; exact exists_congr fun i => e _⟩
/-- The order of points of unlike ids plays no part. -/
theorem turned_rows {L : List (Rw α)} (h : (L.map Prod.fst).Nodup) (y : Rw α) : y ∈ rowsL L ↔ y ∈ rowsL L.reverse := by
  rw [rows_unlike h, rows_unlike (by rw [List.map_reverse]; exact List.pairwise_reverse.2 (h.imp fun e => e.symm))]
  simp
/-- The ids of the values, one value after the other: each id once, all that have one. -/
def allL [DecidableEq α] (R : List (Rw α)) (V : List α) : List Int := V.flatMap fun v => findL R v
theorem find_one [DecidableEq α] {R : List (Rw α)} (hR : (R.map Prod.fst).Nodup) {v u : α} {i : Int} (hv : i ∈ findL R v) (hu : i ∈ findL R u) : v = u := by
  have := unlike_inj R hR _ (mem_findL.1 hv) _ (mem_findL.1 hu) rfl
  injection this with _ e
  exact Option.some.inj e
theorem allL_nodup [DecidableEq α] {R : List (Rw α)} (hR : (R.map Prod.fst).Nodup) : ∀ V : List α, V.Nodup → (allL R V).Nodup
  | [], _ => List.nodup_nil
  | v :: r, h => by
    obtain ⟨h1, h2⟩ := List.nodup_cons.1 h
    show (findL R v ++ allL R r).Nodup
    refine List.nodup_append.2 ⟨ris_nodup (ris_findL R v), allL_nodup hR r h2, fun a ha b hb e => ?_⟩
    subst e
    obtain ⟨u, hu, hb2⟩ := List.mem_flatMap.1 hb
    exact h1 (find_one hR ha hb2 ▸ hu)
theorem risV_nodup (h : Order lt) {L : List α} (hL : RisV lt L) : L.Nodup := hL.imp fun {a b} e q => by subst q; rw [h.irr] at e; cases e
theorem mem_allL [DecidableEq α] (h : Order lt) {R : List (Rw α)} {i : Int} : i ∈ allL R (valsL lt R) ↔ i ∈ anyL R := by
  unfold allL
  rw [List.mem_flatMap, mem_anyL]
  constructor
  · rintro ⟨v, _, hi⟩; exact ⟨v, mem_findL.1 hi⟩
  · rintro ⟨v, hi⟩; exact ⟨v, (mem_valsL h).2 ⟨i, hi⟩, mem_findL.2 hi⟩
theorem parts_set [DecidableEq α] (h : Order lt) (R : List (Rw α)) : setL (allL R (valsL lt R)) = anyL R :=
  ris_ext (ris_setL _) (ris_anyL _) fun i => by rw [mem_setL, mem_allL h]
theorem parts_len [DecidableEq α] (h : Order lt) {R : List (Rw α)} (hR : (R.map Prod.fst).Nodup) : (allL R (valsL lt R)).length = (anyL R).length :=
  len_ext (allL_nodup hR _ (risV_nodup h (ris_valsL h R))) (ris_nodup (ris_anyL R)) fun i => mem_allL h
theorem parts_some [DecidableEq α] (h : Order lt) {R : List (Rw α)} {v : α} (hv : v ∈ valsL lt R) : findL R v ≠ [] := by
  obtain ⟨i, hi⟩ := (mem_valsL h).1 hv
  intro e
  have := mem_findL.2 hi
  rw [e] at this
  cases this
/-- An id of a later value is none of the earlier ones'. -/
theorem parts_new [DecidableEq α] (h : Order lt) {R : List (Rw α)} (hR : (R.map Prod.fst).Nodup) (k : Nat) (hk : k < (valsL lt R).length) {i : Int} (hi : i ∈ findL R (valsL lt R)[k]) : i ∉ allL R ((valsL lt R).take k) := by
  intro hb
  obtain ⟨u, hu, hb2⟩ := List.mem_flatMap.1 hb
  have e := find_one hR hi hb2
  obtain ⟨j, hj, ej⟩ := List.getElem_of_mem hu
  rw [List.length_take] at hj
  rw [List.getElem_take] at ej
  have hlt := (List.pairwise_iff_getElem.1 (ris_valsL h R)) j k (by omega) hk (by omega)
  rw [ej, ← e, h.irr] at hlt
  cases hlt
/-- The place of a value, as a loop finds it. -/
theorem putV_at (h : Order lt) (x : α) : ∀ (L : List α) (k : Nat) (hk : k ≤ L.length), (∀ j (hj : j < L.length), j < k → lt L[j] x = true) → (∀ hj : k < L.length, lt L[k] x = false) →
    (∀ hj : k < L.length, L[k] = x → putV lt x L = L) ∧ ((∀ hj : k < L.length, L[k] ≠ x) → putV lt x L = L.take k ++ (x :: L.drop k))
  | [], k, hk, _, _ => by
    obtain rfl : k = 0 := by simpa using hk
    exact ⟨fun hj => by simp at hj, fun _ => by simp [putV]⟩
  | y :: r, 0, _, _, hn => by
    have h0 : lt y x = false := hn (by simp)
    refine ⟨fun _ e => ?_, fun e => ?_⟩
    · have e : y = x := e
      subst e
      unfold putV
      rw [if_neg (by simp [h0]), if_neg (by simp [h0])]
    · have e : y ≠ x := e (by simp)
      have h1 : lt x y = true := by
        rcases h.tri x y with q | q | q
        · exact absurd q.symm e
        · exact q
        · rw [h0] at q; cases q
      unfold putV
      rw [if_neg (by simp [h0]), if_pos h1]
      simp
  | y :: r, k + 1, hk, hl, hn => by
    have h0 : lt y x = true := hl 0 (by simp) (by omega)
    obtain ⟨a, b⟩ := putV_at h x r k (by simpa using hk) (fun j hj hjk => by have := hl (j + 1) (by simpa using hj) (by omega); simpa using this) (fun hj => by have := hn (by simpa using hj); simpa using this)
    unfold putV
    rw [if_pos h0]
    refine ⟨fun hj e => by rw [a (by simpa using hj) (by simpa using e)], fun e => by rw [b fun hj => by have := e (by simpa using hj); simpa using this]; simp⟩
/-- The row of an id, as a loop finds it. -/
theorem putRow_at (x : Rw α) : ∀ (L : List (Rw α)) (k : Nat) (hk : k ≤ L.length), (∀ j (hj : j < L.length), j < k → L[j].1 ≠ x.1) →
    (∀ hj : k < L.length, L[k].1 = x.1 → putRow x L = L.set k x) ∧ (k = L.length → putRow x L = L ++ [x])
  | [], k, hk, _ => by
    obtain rfl : k = 0 := by simpa using hk
    exact ⟨fun hj => by simp at hj, fun _ => by simp [putRow]⟩
  | y :: r, 0, _, _ => ⟨fun _ e => by
      have e : y.1 = x.1 := e
      unfold putRow
      rw [if_pos e]; rfl, fun e => by simp at e⟩
  | y :: r, k + 1, hk, hl => by
    have h0 : y.1 ≠ x.1 := hl 0 (by simp) (by omega)
    obtain ⟨a, b⟩ := putRow_at x r k (by simpa using hk) (fun j hj hjk => by have := hl (j + 1) (by simpa using hj) (by omega); simpa using this)
    unfold putRow
    rw [if_neg h0]
    exact ⟨fun hj e => by rw [a (by simpa using hj) (by simpa using e)]; rfl, fun e => by rw [b (by simpa using e)]; rfl⟩
/-- The first of each key. -/
def oneL {β : Type} (key : β → Int) (L : List β) : List β := L.foldl (fun o x => if o.any (fun y => decide (key y = key x)) then o else o ++ [x]) []
theorem oneL_snoc {β : Type} (key : β → Int) (L : List β) (x : β) : oneL key (L ++ [x]) = if (oneL key L).any (fun y => decide (key y = key x)) then oneL key L else oneL key L ++ [x] := by simp [oneL]
theorem one_fact {β : Type} (key : β → Int) : ∀ (n : Nat) (L : List β), L.length = n → ((oneL key L).map key).Nodup ∧ (oneL key L).length ≤ n ∧ ∀ x, x ∈ oneL key L → x ∈ L
  | 0, L, h => by
    obtain rfl := List.length_eq_zero_iff.1 h
    simp [oneL]
  | n + 1, L, h => by
    rcases List.eq_nil_or_concat L with e | ⟨A, x, rfl⟩
    · subst e; cases h
    · obtain ⟨h1, h2, h3⟩ := one_fact key n A (by simpa using h)
      rw [List.concat_eq_append, oneL_snoc]
      by_cases hx : (oneL key A).any (fun y => decide (key y = key x)) = true
      · rw [if_pos hx]
        exact ⟨h1, by omega, fun y hy => List.mem_append_left _ (h3 y hy)⟩
      · rw [if_neg hx]
        refine ⟨?_, by simp; omega, fun y hy => ?_⟩
        · rw [List.map_append]
          refine List.nodup_append.2 ⟨h1, by simp, fun a ha b hb e => hx ?_⟩
          obtain ⟨y, hy, ey⟩ := List.mem_map.1 ha
          simp at hb
          exact List.any_eq_true.2 ⟨y, hy, decide_eq_true (by rw [ey, e, hb])⟩
        · rcases List.mem_append.1 hy with q | q
          · exact List.mem_append_left _ (h3 y q)
          · exact List.mem_append_right _ q
theorem one_nodup {β : Type} (key : β → Int) (L : List β) : ((oneL key L).map key).Nodup := (one_fact key _ L rfl).1
theorem one_length {β : Type} (key : β → Int) (L : List β) : (oneL key L).length ≤ L.length := (one_fact key _ L rfl).2.1
theorem one_mem {β : Type} (key : β → Int) {L : List β} {x : β} (h : x ∈ oneL key L) : x ∈ L := (one_fact key _ L rfl).2.2 x h
/-- What the index of a list of unlike keys tells, it tells of the list turned. -/
theorem one_turned {β : Type} [DecidableEq α] (h : Order lt) (key : β → Int) (val : β → Option α) (L : List β) :
    (∀ v, findL (rowsL ((oneL key L).map fun p => (key p, val p))) v = findL (rowsL ((oneL key L).reverse.map fun p => (key p, val p))) v) ∧
    anyL (rowsL ((oneL key L).map fun p => (key p, val p))) = anyL (rowsL ((oneL key L).reverse.map fun p => (key p, val p))) ∧
    valsL lt (rowsL ((oneL key L).map fun p => (key p, val p))) = valsL lt (rowsL ((oneL key L).reverse.map fun p => (key p, val p))) := by
  have e : ∀ y, y ∈ rowsL ((oneL key L).map fun p => (key p, val p)) ↔ y ∈ rowsL ((oneL key L).reverse.map fun p => (key p, val p)) := by
    rw [List.map_reverse]
    exact turned_rows (by rw [List.map_map]; exact one_nodup key L)
  exact same_rows h e
end Wd
end Go.Proofs.Ytkmfkgjkgnlfnaa
