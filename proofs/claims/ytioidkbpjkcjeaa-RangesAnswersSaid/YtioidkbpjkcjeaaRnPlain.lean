/- Entries by number, then id: rows of them in order, each once; the document's putting in; parts of them by number. Plain mathematics, no condition but those that each theorem names. -/
import Derived.Test.YtioidkbpjkcjeaaIdPlain
import Derived.Lib.Hide
import Derived.Lib.Small
import Derived.Lib.SlicesCompact
import Derived.Shelf.SlSortCmp.Insertion
import Derived.Sort.Statements
namespace Go.Proofs.Ytioidkbpjkcjeaa
set_option linter.unusedVariables false
open Go
namespace Rn
/-- An entry: its number, its id. -/
abbrev En := Int × Int
def orL : List Int → Int
  | [] => 0
  | x :: r => if x = 0 then orL r else x
theorem orL_at {L : List Int} {k : Nat} {n : Int} (h : L[k]? = some n) : orL (L.drop k) = if n = 0 then orL (L.drop (k + 1)) else n := by
  have hk : k < L.length := (List.getElem?_eq_some_iff.1 h).1
  have e := (List.getElem?_eq_some_iff.1 h).2
  rw [List.drop_eq_getElem_cons hk, e]
  rfl
/-- The order. -/
def cfE (a b : En) : Int := orL [Lib.compareInt a.1 b.1, Lib.compareInt a.2 b.2]
def Lt (a b : En) : Prop := a.1 < b.1 ∨ (a.1 = b.1 ∧ a.2 < b.2)
instance (a b : En) : Decidable (Lt a b) := by unfold Lt; infer_instance
theorem cf_lt (a b : En) : cfE a b < 0 ↔ Lt a b := by
  obtain ⟨a1, a2⟩ := a
  obtain ⟨b1, b2⟩ := b
  unfold cfE Lt orL orL orL Lib.compareInt
  simp only
  repeat' split
  all_goals first | omega | (simp; omega) | simp_all
theorem cf_zero (a b : En) : cfE a b = 0 ↔ a = b := by
  obtain ⟨a1, a2⟩ := a
  obtain ⟨b1, b2⟩ := b
  unfold cfE orL orL orL Lib.compareInt
  simp only [Prod.mk.injEq]
  repeat' split
  all_goals first | omega | (simp; omega) | simp_all
abbrev ltE (a b : En) : Bool := ltOf cfE a b
theorem ltE_iff (a b : En) : ltE a b = true ↔ Lt a b := by unfold ltE ltOf; rw [decide_eq_true_eq]; exact cf_lt a b
theorem ltE_no (a b : En) : ltE a b = false ↔ ¬ Lt a b := by rw [← Bool.not_eq_true, ltE_iff]
theorem lt_trans {a b c : En} (h : Lt a b) (k : Lt b c) : Lt a c := by unfold Lt at *; omega
theorem lt_irrefl (a : En) : ¬ Lt a a := by unfold Lt; omega
theorem lt_or {a b : En} (h : ¬ Lt a b) (n : a ≠ b) : Lt b a := by
  obtain ⟨a1, a2⟩ := a
  obtain ⟨b1, b2⟩ := b
  unfold Lt at *
  simp only [ne_eq, Prod.mk.injEq] at *
  omega
theorem en_eq {a b : En} (h : ¬ Lt a b) (k : ¬ Lt b a) : a = b := by
  obtain ⟨a1, a2⟩ := a
  obtain ⟨b1, b2⟩ := b
  unfold Lt at *
  simp only [Prod.mk.injEq] at *
  omega
theorem swo : Sort.SWO (ltOf cfE) where
  irrefl x := (ltE_no x x).2 (lt_irrefl x)
  trans x y z h1 h2 := (ltE_iff x z).2 (lt_trans ((ltE_iff x y).1 h1) ((ltE_iff y z).1 h2))
  ntrans x y z h1 h2 := by
    have a := (ltE_no x y).1 h1
    have b := (ltE_no y z).1 h2
    refine (ltE_no x z).2 ?_
    unfold Lt at *
    omega
theorem ltE_both (x y : En) (h1 : ltOf cfE x y = false) (h2 : ltOf cfE y x = false) : x = y := en_eq ((ltE_no x y).1 h1) ((ltE_no y x).1 h2)
/-! ### Rows in order, each once -/
def Ris (L : List En) : Prop := L.Pairwise Lt
theorem ris_ext : ∀ {A B : List En}, Ris A → Ris B → (∀ n, n ∈ A ↔ n ∈ B) → A = B
  | [], [], _, _, _ => rfl
  | [], b :: B, _, _, h => absurd ((h b).mpr (List.mem_cons_self ..)) (List.not_mem_nil)
  | a :: A, [], _, _, h => absurd ((h a).mp (List.mem_cons_self ..)) (List.not_mem_nil)
  | a :: A, b :: B, ha, hb, h => by
    obtain ⟨ha1, ha2⟩ := List.pairwise_cons.mp ha
    obtain ⟨hb1, hb2⟩ := List.pairwise_cons.mp hb
    have e : a = b := by
      rcases List.mem_cons.mp ((h a).mp (List.mem_cons_self ..)) with c | c
      · exact c
      · rcases List.mem_cons.mp ((h b).mpr (List.mem_cons_self ..)) with d | d
        · exact d.symm
        · exact absurd (lt_trans (hb1 a c) (ha1 b d)) (lt_irrefl _)
    subst e
    congr 1
    refine ris_ext ha2 hb2 fun n => ⟨fun hn => ?_, fun hn => ?_⟩
    · rcases List.mem_cons.mp ((h n).mp (List.mem_cons_of_mem _ hn)) with c | c
      · exact absurd (c ▸ ha1 n hn) (lt_irrefl _)
      · exact c
    · rcases List.mem_cons.mp ((h n).mpr (List.mem_cons_of_mem _ hn)) with c | c
      · exact absurd (c ▸ hb1 n hn) (lt_irrefl _)
      · exact c
/-- The document's putting in. -/
def insR (x : En) : List En → List En
  | [] => [x]
  | y :: L => if y = x then y :: L else if Lt x y then x :: y :: L else y :: insR x L
theorem mem_insR (x m : En) : ∀ L : List En, m ∈ insR x L ↔ m = x ∨ m ∈ L
  | [] => by simp [insR]
  | y :: L => by
    unfold insR
    split
    · next h => subst h; simp
    · split
      · simp
      · simp [mem_insR x m L]
        constructor
        · rintro (h | h | h) <;> simp [h]
        · rintro (h | h | h) <;> simp [h]
theorem ris_insR (x : En) : ∀ L : List En, Ris L → Ris (insR x L)
  | [], _ => List.pairwise_singleton _ _
  | y :: L, h => by
    obtain ⟨h1, h2⟩ := List.pairwise_cons.mp h
    unfold insR
    split
    · exact h
    · split
      · next hn =>
        refine List.pairwise_cons.mpr ⟨fun m hm => ?_, h⟩
        rcases List.mem_cons.mp hm with c | c
        · exact c ▸ hn
        · exact lt_trans hn (h1 m c)
      · next hne hn =>
        refine List.pairwise_cons.mpr ⟨fun m hm => ?_, ris_insR x L h2⟩
        rcases (mem_insR x m L).mp hm with c | c
        · exact c ▸ lt_or hn (Ne.symm hne)
        · exact h1 m c
theorem insR_length (x : En) : ∀ L : List En, L.length ≤ (insR x L).length ∧ (insR x L).length ≤ L.length + 1
  | [] => by simp [insR]
  | y :: L => by
    have := insR_length x L
    unfold insR
    split
    · simp
    · split
      · simp
      · simp; omega
/-- All entries, each once, in order. -/
def can (l : List En) : List En := l.foldl (fun o h => insR h o) []
theorem can_fact (l : List En) : Ris (can l) ∧ (∀ x, x ∈ can l ↔ x ∈ l) ∧ (can l).length ≤ l.length := by
  have key : ∀ (l o : List En), Ris o → Ris (l.foldl (fun o h => insR h o) o) ∧ (∀ x, x ∈ l.foldl (fun o h => insR h o) o ↔ x ∈ l ∨ x ∈ o) ∧ (l.foldl (fun o h => insR h o) o).length ≤ l.length + o.length := by
    intro l
    induction l with
    | nil => intro o h; exact ⟨h, fun x => by simp, by simp⟩
    | cons x r ih =>
      intro o h
      obtain ⟨a, b, c⟩ := ih (insR x o) (ris_insR x o h)
      have hl := (insR_length x o).2
      refine ⟨a, fun y => ?_, by simp only [List.foldl_cons, List.length_cons]; omega⟩
      simp only [List.foldl_cons, b, mem_insR, List.mem_cons]
      constructor
      · rintro (h | h | h) <;> simp [h]
      · rintro ((h | h) | h) <;> simp [h]
  obtain ⟨a, b, c⟩ := key l [] List.Pairwise.nil
  exact ⟨a, fun x => by rw [can, b]; simp, by unfold can; simpa using c⟩
theorem can_take {l : List En} {k : Nat} {x : En} (h : l[k]? = some x) : can (l.take (k + 1)) = insR x (can (l.take k)) := by
  unfold can
  rw [List.take_add_one, h, List.foldl_append]
  rfl
theorem can_same {A B : List En} (h : ∀ x, x ∈ A ↔ x ∈ B) : can A = can B :=
  ris_ext (can_fact A).1 (can_fact B).1 (fun n => by rw [(can_fact A).2.1, (can_fact B).2.1, h])
theorem can_ris {A : List En} (h : Ris A) : can A = A := ris_ext (can_fact A).1 h (can_fact A).2.1
/-! ### Sorted, and each kept once -/
def Sd (l : List En) : Prop := l.Pairwise (fun a b => ltE b a = false)
def srt (l : List En) : List En := l.mergeSort (fun x y => !(ltOf cfE) y x)
theorem srt_perm (l : List En) : (srt l).Perm l := List.mergeSort_perm _ _
theorem srt_sd (l : List En) : Sd (srt l) := by
  have := List.pairwise_mergeSort (le := fun x y => !(ltOf cfE) y x) (fun a b c h1 h2 => by
      simp only [Bool.not_eq_true'] at *; exact swo.ntrans c b a h2 h1) (fun a b => by
      cases h : ltOf cfE b a with
      | false => simp
      | true => simp [(ltE_no a b).2 (fun k => lt_irrefl _ (lt_trans k ((ltE_iff b a).1 h)))]) l
  exact this.imp (fun h => by simpa using h)
/-- What is kept of a sorted row's first places: in order, each once, all of them. -/
theorem compact_sorted (l : List En) (h : Sd l) : ∀ m, m ≤ l.length → Ris (Lib.compactUpTo l.toArray m) ∧ (∀ x, x ∈ Lib.compactUpTo l.toArray m ↔ x ∈ l.take m)
  | 0, _ => by simp [Lib.compactUpTo, Ris]
  | m + 1, hm => by
    obtain ⟨a, b⟩ := compact_sorted l h m (by omega)
    have hml : m < l.length := by omega
    have hx : l.toArray[m]! = l[m] := by simp [hml]
    have hle : ∀ j (hj : j < l.length), j < m → ¬ Lt l[m] l[j] := fun j hj hjm => (ltE_no _ _).1 ((List.pairwise_iff_getElem.1 h) j m hj hml hjm)
    rw [Lib.compactUpTo_succ]
    have ht : l.take (m + 1) = l.take m ++ [l[m]] := by rw [List.take_add_one, List.getElem?_eq_getElem hml]; rfl
    by_cases hk : Lib.keeps l.toArray m = true
    · rw [hk, if_pos rfl, hx, ht]
      refine ⟨List.pairwise_append.2 ⟨a, List.pairwise_singleton _ _, fun y hy z hz => ?_⟩, fun x => by rw [List.mem_append, List.mem_append, b]⟩
      obtain rfl := List.mem_singleton.1 hz
      obtain ⟨j, hj, rfl⟩ := List.getElem_of_mem ((b y).1 hy)
      rw [List.getElem_take]
      have hjm : j < m := by simp at hj; omega
      have hne : m ≠ 0 := by omega
      have hk' : l.toArray[m]! ≠ l.toArray[m - 1]! := by simpa [Lib.keeps, hne] using hk
      have hp : l.toArray[m - 1]! = l[m - 1] := by simp [show m - 1 < l.length by omega]
      rw [hx, hp] at hk'
      have h1 : Lt l[m - 1] l[m] := lt_or (hle (m - 1) (by omega) (by omega)) hk'
      by_cases hje : j = m - 1
      · subst hje; exact h1
      · have h2 : ¬ Lt l[m - 1] l[j] := (ltE_no _ _).1 ((List.pairwise_iff_getElem.1 h) j (m - 1) (by omega) (by omega) (by omega))
        unfold Lt at *
        omega
    · have hk0 : Lib.keeps l.toArray m = false := by simpa using hk
      rw [hk0, if_neg (by decide), List.append_nil, ht]
      refine ⟨a, fun x => ?_⟩
      have hm0 : m ≠ 0 ∧ l.toArray[m]! = l.toArray[m - 1]! := by simpa [Lib.keeps] using hk0
      have hp : l.toArray[m - 1]! = l[m - 1] := by simp [show m - 1 < l.length by omega]
      rw [hx, hp] at hm0
      rw [b, List.mem_append]
      constructor
      · exact fun h => .inl h
      · rintro (h | h)
        · exact h
        · rw [List.mem_singleton.1 h, hm0.2]
          exact List.mem_of_getElem? (i := m - 1) (by rw [List.getElem?_take, if_pos (by omega), List.getElem?_eq_getElem])
theorem compact_srt (l : List En) : Lib.compact (srt l) = can l := by
  obtain ⟨a, b⟩ := compact_sorted (srt l) (srt_sd l) (srt l).length (Nat.le_refl _)
  refine ris_ext a (can_fact l).1 fun x => ?_
  rw [show Lib.compact (srt l) = Lib.compactUpTo (srt l).toArray (srt l).length from rfl, b, List.take_length, (srt_perm l).mem_iff, (can_fact l).2.1]
/-! ### Parts by number -/
def inB (low high : Int) (e : En) : Bool := decide (low ≤ e.1) && decide (e.1 ≤ high)
/-- The entries with a number from low to high. -/
def seg (low high : Int) (L : List En) : List En := L.filter (inB low high)
/-- The first entry that is no less than (low, the least id). -/
def frm (x : En) (L : List En) : Nat := L.countP (fun e => decide (cfE e x < 0))
/-- A rising row cut by a place: what lies below it stands ahead of the others. -/
theorem ris_mono {L : List En} (h : Ris L) (x : En) : ∀ a b, a ≤ b → b < L.length → cfE L.toArray[b]! x < 0 → cfE L.toArray[a]! x < 0 := by
  intro a b hab hb hx
  have e1 : L.toArray[b]! = L[b] := by simp [hb]
  have e2 : L.toArray[a]! = L[a]'(by omega) := by simp [show a < L.length by omega]
  rw [e1] at hx
  rw [e2]
  rw [cf_lt] at hx ⊢
  rcases Nat.lt_or_ge a b with c | c
  · exact lt_trans ((List.pairwise_iff_getElem.1 h) a b (by omega) hb c) hx
  · obtain rfl : a = b := by omega
    exact hx
theorem take_frm (x : En) : ∀ {L : List En}, Ris L → L.take (frm x L) = L.filter (fun e => decide (cfE e x < 0)) ∧ L.drop (frm x L) = L.filter (fun e => !decide (cfE e x < 0))
  | [], _ => by simp [frm]
  | y :: L, h => by
    obtain ⟨h1, h2⟩ := List.pairwise_cons.mp h
    obtain ⟨a, b⟩ := take_frm x h2
    by_cases hy : cfE y x < 0
    · have e : frm x (y :: L) = frm x L + 1 := by unfold frm; rw [List.countP_cons_of_pos (by simpa using hy)]
      rw [e, List.take_succ_cons, List.drop_succ_cons, a, b, List.filter_cons_of_pos (by simpa using hy), List.filter_cons_of_neg (by simpa using hy)]
      exact ⟨rfl, rfl⟩
    · have hall : ∀ z ∈ L, ¬ cfE z x < 0 := fun z hz hlt => hy ((cf_lt y x).2 (lt_trans (h1 z hz) ((cf_lt z x).1 hlt)))
      have e : frm x (y :: L) = 0 := by
        unfold frm
        rw [List.countP_eq_zero]
        intro z hz
        rcases List.mem_cons.1 hz with rfl | hz
        · simpa using hy
        · simpa using hall z hz
      have f1 : (y :: L).filter (fun e => decide (cfE e x < 0)) = [] := by
        rw [List.filter_eq_nil_iff]
        intro z hz
        rcases List.mem_cons.1 hz with rfl | hz
        · simpa using hy
        · simpa using hall z hz
      have f2 : (y :: L).filter (fun e => !decide (cfE e x < 0)) = y :: L := by
        rw [List.filter_eq_self]
        intro z hz
        rcases List.mem_cons.1 hz with rfl | hz
        · simpa using hy
        · simpa using hall z hz
      rw [e, f1, f2]
      exact ⟨rfl, rfl⟩
def okE (e : En) : Prop := (-9223372036854775808 ≤ e.1 ∧ e.1 ≤ 9223372036854775807) ∧ -9223372036854775808 ≤ e.2 ∧ e.2 ≤ 9223372036854775807
/-- Where the entries that are no more than x end. -/
def upto (x : En) (L : List En) : Nat := frm x L + if (decide (frm x L < L.length) && decide (cfE L.toArray[frm x L]! x = 0)) = true then 1 else 0
theorem take_upto (x : En) {L : List En} (h : Ris L) : L.take (upto x L) = L.filter (fun e => decide (¬ Lt x e)) := by
  obtain ⟨a, b⟩ := take_frm x h
  have hf : L.take (frm x L) ++ L.drop (frm x L) = L := List.take_append_drop _ _
  unfold upto
  split
  · next hc =>
    simp only [Bool.and_eq_true, decide_eq_true_eq] at hc
    obtain ⟨hl, hz⟩ := hc
    have e1 : L.toArray[frm x L]! = L[frm x L] := by simp [hl]
    rw [e1, cf_zero] at hz
    have hfil : L.filter (fun e => decide (¬ Lt x e)) = (L.take (frm x L) ++ L.drop (frm x L)).filter (fun e => decide (¬ Lt x e)) := by rw [hf]
    rw [List.take_add_one, List.getElem?_eq_getElem hl, hfil, List.filter_append]
    congr 1
    · symm
      rw [List.filter_eq_self]
      intro z hz'
      rw [a] at hz'
      have := (List.mem_filter.1 hz').2
      simp only [decide_eq_true_eq] at this ⊢
      exact fun k => lt_irrefl _ (lt_trans k ((cf_lt z x).1 this))
    · rw [List.drop_eq_getElem_cons hl, List.filter_cons_of_pos (by rw [hz]; simpa using lt_irrefl x)]
      have : (L.drop (frm x L + 1)).filter (fun e => decide (¬ Lt x e)) = [] := by
        rw [List.filter_eq_nil_iff]
        intro z hz'
        obtain ⟨j, hj, rfl⟩ := List.getElem_of_mem hz'
        rw [List.getElem_drop]
        have := (List.pairwise_iff_getElem.1 h) (frm x L) (frm x L + 1 + j) hl (by simp at hj; omega) (by omega)
        rw [hz] at this
        simpa using this
      rw [this]
      rfl
  · next hc =>
    rw [Nat.add_zero, a]
    refine List.filter_congr fun z hz => ?_
    rw [decide_eq_decide, cf_lt]
    constructor
    · exact fun h1 h2 => lt_irrefl _ (lt_trans h1 h2)
    · intro h1
      rcases Classical.em (Lt z x) with h2 | h2
      · exact h2
      · exfalso
        obtain rfl : z = x := en_eq h2 h1
        apply hc
        have hzd : z ∈ L.drop (frm z L) := by rw [b]; exact List.mem_filter.2 ⟨hz, by simpa [cf_lt] using lt_irrefl z⟩
        have hl : frm z L < L.length := by
          have := List.length_pos_of_mem hzd
          simp at this; omega
        have e1 : L.toArray[frm z L]! = L[frm z L] := by simp [hl]
        simp only [Bool.and_eq_true, decide_eq_true_eq]
        refine ⟨hl, ?_⟩
        rw [e1, cf_zero]
        rw [List.drop_eq_getElem_cons hl] at hzd
        have hd : Ris (L.drop (frm z L)) := List.Pairwise.sublist (List.drop_sublist _ _) h
        have hge : ¬ Lt L[frm z L] z := by
          have : L[frm z L] ∈ L.drop (frm z L) := by rw [List.drop_eq_getElem_cons hl]; exact List.mem_cons_self ..
          rw [b] at this
          have := (List.mem_filter.1 this).2
          simpa [cf_lt] using this
        rcases List.mem_cons.1 hzd with e | e
        · exact e.symm
        · rw [List.drop_eq_getElem_cons hl] at hd
          exact absurd ((List.pairwise_cons.1 hd).1 z e) hge
/-- The part from low to high, as the program cuts it. -/
theorem seg_cut {L : List En} (h : Ris L) (ho : ∀ e ∈ L, okE e) (low high : Int) :
    seg low high L = (L.take (upto (high, 9223372036854775807) L)).drop (frm (low, -9223372036854775808) L) := by
  obtain ⟨a, b⟩ := take_frm (low, -9223372036854775808) h
  have hsplit : ∀ (n m : Nat), (L.take n).drop m = (L.drop m).take (n - m) := fun n m => List.drop_take ..
  have e1 : ∀ z ∈ L, decide (¬ Lt (high, 9223372036854775807) z) = decide (z.1 ≤ high) := fun z hz => by
    rw [decide_eq_decide]
    have := ho z hz
    unfold okE at this
    unfold Lt
    simp only
    omega
  have e2 : ∀ z ∈ L, (!decide (cfE z (low, -9223372036854775808) < 0)) = decide (low ≤ z.1) := fun z hz => by
    rw [← decide_not, decide_eq_decide, cf_lt]
    have := ho z hz
    unfold okE at this
    unfold Lt
    simp only
    omega
  have h1 := take_upto (high, 9223372036854775807) h
  rw [List.filter_congr e1] at h1
  rw [List.filter_congr e2] at b
  rw [h1]
  have h3 : ∀ (M : List En), M.Sublist L → Ris M := fun M hM => List.Pairwise.sublist hM h
  have hd := (take_frm (low, -9223372036854775808) (h3 _ (List.filter_sublist (l := L) (p := fun z => decide (z.1 ≤ high))))).2
  have e3 : ∀ z ∈ L.filter (fun z => decide (z.1 ≤ high)), (!decide (cfE z (low, -9223372036854775808) < 0)) = decide (low ≤ z.1) := fun z hz => e2 z (List.mem_filter.1 hz).1
  rw [List.filter_congr e3, List.filter_filter] at hd
  unfold seg inB
  rw [← hd]
  -- the two places are alike, or nothing is left on both sides
  generalize hu : L.filter (fun z => decide (z.1 ≤ high)) = U at *
  have hUL : U = L.take (upto (high, 9223372036854775807) L) := h1.symm
  have hlen : frm (low, -9223372036854775808) U = min (frm (low, -9223372036854775808) L) U.length := by
    have hx : ∀ (n : Nat), frm (low, -9223372036854775808) (L.take n) = min (frm (low, -9223372036854775808) L) (L.take n).length := fun n => by
      have h0 : frm (low, -9223372036854775808) L = (L.take (frm (low, -9223372036854775808) L)).length := by
        rw [List.length_take]
        have : frm (low, -9223372036854775808) L ≤ L.length := List.countP_le_length
        omega
      have h5 : frm (low, -9223372036854775808) (L.take n) = ((L.take n).filter (fun e => decide (cfE e (low, -9223372036854775808) < 0))).length := by unfold frm; rw [List.countP_eq_length_filter]
      have h6 : (L.take n).filter (fun e => decide (cfE e (low, -9223372036854775808) < 0)) = (L.take (frm (low, -9223372036854775808) L)).take n := by
        rw [a]
        have hf : L.take (frm (low, -9223372036854775808) L) ++ L.drop (frm (low, -9223372036854775808) L) = L := List.take_append_drop _ _
        generalize hF : frm (low, -9223372036854775808) L = F at *
        have hlow : ∀ z ∈ L.take F, cfE z (low, -9223372036854775808) < 0 := fun z hz => by rw [a] at hz; simpa using (List.mem_filter.1 hz).2
        have hhigh : ∀ z ∈ L.drop F, ¬ cfE z (low, -9223372036854775808) < 0 := fun z hz => by
          have hz' : z ∈ L.filter (fun e => decide (low ≤ e.1)) := by rw [← b]; exact hz
          have := (List.mem_filter.1 hz').2
          have e4 := e2 z (List.mem_filter.1 hz').1
          rw [this] at e4
          simpa using e4
        rw [← a]
        conv => lhs; rw [← hf]
        rw [List.take_append, List.filter_append]
        have f1 : ((L.take F).take n).filter (fun e => decide (cfE e (low, -9223372036854775808) < 0)) = (L.take F).take n := List.filter_eq_self.2 fun z hz => by simpa using hlow z (List.mem_of_mem_take hz)
        have f2 : ((L.drop F).take (n - (L.take F).length)).filter (fun e => decide (cfE e (low, -9223372036854775808) < 0)) = [] := List.filter_eq_nil_iff.2 fun z hz => by simpa using hhigh z (List.mem_of_mem_take hz)
        rw [f1, f2, List.append_nil]
      have : frm (low, -9223372036854775808) L ≤ L.length := List.countP_le_length
      rw [h5, h6, List.length_take, List.length_take, List.length_take]
      omega
    rw [hUL]
    exact hx _
  rw [hlen]
  rcases Nat.le_total (frm (low, -9223372036854775808) L) U.length with c | c
  · rw [Nat.min_eq_left c]
  · rw [Nat.min_eq_right c, List.drop_length, List.drop_eq_nil_of_le c]
end Rn
end Go.Proofs.Ytioidkbpjkcjeaa
