/- Numbers sorted one by one; buckets of sorted numbers; runs of equal numbers. Plain mathematics, no condition but those that each theorem names. -/
import Derived.Test.YtmkilmglmeohmaaSsPlain
import Derived.Lib.SlicesCompact
namespace Go.Proofs.Ytmkilmglmeohmaa
set_option linter.unusedVariables false
namespace Ss
open Go.Sort Go.Lib
abbrev Bk := Int × Int × Int × Int
abbrev En := Int × Int
/-! ### sorted -/
def srt (L : List Int) : List Int := L.mergeSort fun x y => decide (x ≤ y)
def insS (x : Int) : List Int → List Int
  | [] => [x]
  | y :: r => if x < y then x :: y :: r else y :: insS x r
/-- One element gone over while x is put in. -/
def stS (x : Int) (s : List Int × Bool) (y : Int) : List Int × Bool := if s.2 = false ∧ x < y then (s.1 ++ [x] ++ [y], true) else (s.1 ++ [y], s.2)
def finS (x : Int) (s : List Int × Bool) : List Int := if s.2 = true then s.1 else s.1 ++ [x]
theorem stS_true (x : Int) : ∀ (L N : List Int), L.foldl (stS x) (N, true) = (N ++ L, true)
  | [], N => by simp
  | y :: L, N => by
    rw [List.foldl_cons, show stS x (N, true) y = (N ++ [y], true) by simp [stS], stS_true x L]
    simp
theorem stS_fin (x : Int) : ∀ (L N : List Int), finS x (L.foldl (stS x) (N, false)) = N ++ insS x L
  | [], N => by simp [finS, insS]
  | y :: L, N => by
    rw [List.foldl_cons]
    unfold insS
    by_cases h2 : x < y
    · rw [show stS x (N, false) y = (N ++ [x] ++ [y], true) by simp [stS, h2], stS_true, if_pos h2]
      simp [finS]
    · rw [show stS x (N, false) y = (N ++ [y], false) by simp [stS, h2], stS_fin x L, if_neg h2]
      simp
/-- What is laid of the first k elements. -/
def putS (x : Int) (O : List Int) (k : Nat) : List Int × Bool := (O.take k).foldl (stS x) ([], false)
theorem putS_next {x y : Int} {O : List Int} {k : Nat} (h : O[k]? = some y) : putS x O (k + 1) = stS x (putS x O k) y := by
  unfold putS
  rw [List.take_add_one, h, List.foldl_append]
  rfl
theorem putS_all (x : Int) (O : List Int) : finS x (putS x O O.length) = insS x O := by
  unfold putS
  rw [List.take_length]
  exact stS_fin x O []
theorem putS_len (x : Int) (O : List Int) : ∀ k, k ≤ O.length → (putS x O k).1.length = k + (if (putS x O k).2 = true then 1 else 0) := by
  intro k
  induction k with
  | zero => intro _; simp [putS]
  | succ k ih =>
    intro hk
    have h0 := ih (by omega)
    rw [putS_next (List.getElem?_eq_getElem (show k < O.length by omega))]
    obtain ⟨N, b, hs⟩ : ∃ N b, putS x O k = (N, b) := ⟨_, _, rfl⟩
    rw [hs] at h0 ⊢
    cases b
    · by_cases h2 : x < O[k]
      · simp [stS, h2] at h0 ⊢; omega
      · simp [stS, h2] at h0 ⊢; omega
    · simp [stS] at h0 ⊢; omega
def sortL (L : List Int) : List Int := L.foldl (fun o x => insS x o) []
theorem sortL_next {L : List Int} {k : Nat} (h : k < L.length) : sortL (L.take (k + 1)) = insS L[k] (sortL (L.take k)) := by
  unfold sortL
  rw [List.take_add_one, List.getElem?_eq_getElem h, List.foldl_append]
  rfl
theorem insS_perm (x : Int) : ∀ L, (insS x L).Perm (x :: L)
  | [] => List.Perm.refl _
  | y :: r => by
    unfold insS
    split
    · exact List.Perm.refl _
    · exact ((insS_perm x r).cons y).trans (List.Perm.swap x y r)
theorem insS_up (x : Int) : ∀ L : List Int, L.Pairwise (· ≤ ·) → (insS x L).Pairwise (· ≤ ·)
  | [], _ => List.pairwise_singleton _ _
  | y :: r, h => by
    unfold insS
    have h1 := List.pairwise_cons.1 h
    split
    · refine List.pairwise_cons.2 ⟨fun z hz => ?_, h⟩
      rcases List.mem_cons.1 hz with rfl | hz
      · omega
      · have := h1.1 z hz; omega
    · refine List.pairwise_cons.2 ⟨fun z hz => ?_, insS_up x r h1.2⟩
      rcases List.mem_cons.1 ((insS_perm x r).mem_iff.1 hz) with rfl | hz
      · omega
      · exact h1.1 z hz
theorem sortL_gen : ∀ (L O : List Int), O.Pairwise (· ≤ ·) → (L.foldl (fun o x => insS x o) O).Perm (O ++ L) ∧ (L.foldl (fun o x => insS x o) O).Pairwise (· ≤ ·)
  | [], O, h => ⟨by simp, h⟩
  | x :: L, O, h => by
    obtain ⟨h1, h2⟩ := sortL_gen L (insS x O) (insS_up x O h)
    refine ⟨h1.trans ?_, h2⟩
    refine (List.Perm.append_right L (insS_perm x O)).trans ?_
    simpa using (List.perm_middle (a := x) (l₁ := O) (l₂ := L)).symm
theorem srt_up (L : List Int) : (srt L).Pairwise (· ≤ ·) := by
  have hp : (L.mergeSort fun x y => decide (x ≤ y)).Pairwise fun x y => decide (x ≤ y) = true := List.pairwise_mergeSort (fun a b c h1 h2 => by simp at *; omega) (fun a b => by simp; omega) L
  exact hp.imp fun h => by simpa using h
theorem srt_perm (L : List Int) : (srt L).Perm L := List.mergeSort_perm L _
theorem srt_len (L : List Int) : (srt L).length = L.length := (srt_perm L).length_eq
theorem sortL_is (L : List Int) : sortL L = srt L := by
  obtain ⟨h1, h2⟩ := sortL_gen L [] List.Pairwise.nil
  exact List.Perm.eq_of_pairwise (fun a b _ _ ha hb => Int.le_antisymm ha hb) h2 (srt_up L) (h1.trans (by simpa using (srt_perm L).symm))
theorem sortL_len (L : List Int) : (sortL L).length = L.length := by rw [sortL_is, srt_len]
/-! ### buckets -/
def cut (n b i : Nat) : Nat := i * n / b
def piece (L : List Int) (b i : Nat) : List Int := (L.drop (cut L.length b i)).take (cut L.length b (i + 1) - cut L.length b i)
def bkOf (p : List Int) : Bk := (p.getD 0 0, p.getD (p.length - 1) 0, (p.length : Int), ((compact p).length : Int))
def bks (L : List Int) (b : Nat) : List Bk := (List.range b).map fun i => bkOf (piece L b i)
theorem bks_len (L : List Int) (b : Nat) : (bks L b).length = b := by simp [bks]
theorem bks_at (L : List Int) (b i : Nat) (h : i < (bks L b).length) : (bks L b)[i] = bkOf (piece L b i) := by simp [bks]
theorem cut_zero (n b : Nat) : cut n b 0 = 0 := by simp [cut]
theorem cut_all {n b : Nat} (hb : 0 < b) : cut n b b = n := by unfold cut; exact Nat.mul_div_cancel_left n hb
theorem cut_mono {n b i j : Nat} (h : i ≤ j) : cut n b i ≤ cut n b j := Nat.div_le_div_right (Nat.mul_le_mul_right n h)
theorem cut_up {n b i : Nat} (hb : 0 < b) (h : b ≤ n) : cut n b i < cut n b (i + 1) := by
  unfold cut
  have h1 : (i * n + b) / b ≤ (i + 1) * n / b := Nat.div_le_div_right (by rw [Nat.add_mul, Nat.one_mul]; omega)
  rw [Nat.add_div_right _ hb] at h1
  omega
theorem cut_le {n b i : Nat} (hb : 0 < b) (h : i ≤ b) : cut n b i ≤ n := by
  have := cut_mono (n := n) (b := b) h
  rwa [cut_all hb] at this
theorem piece_len {L : List Int} {b i : Nat} (h : i < b) : (piece L b i).length = cut L.length b (i + 1) - cut L.length b i := by
  unfold piece
  rw [List.length_take, List.length_drop]
  have := cut_le (n := L.length) (b := b) (i := i + 1) (by omega) (by omega)
  omega
/-! ### runs of equal numbers -/
def stE (A : List En) (h : Int) : List En :=
  match A.getLast? with
  | some e => if e.2 = h then A.dropLast ++ [(e.1 + 1, h)] else A ++ [(1, h)]
  | none => [(1, h)]
def runs (L : List Int) : List En := L.foldl stE []
theorem runs_next {L : List Int} {k : Nat} (h : k < L.length) : runs (L.take (k + 1)) = stE (runs (L.take k)) L[k] := by
  unfold runs
  rw [List.take_add_one, List.getElem?_eq_getElem h, List.foldl_append]
  rfl
theorem stE_nil (h : Int) : stE [] h = [(1, h)] := rfl
theorem stE_same (B : List En) (e : En) (h : Int) (he : e.2 = h) : stE (B ++ [e]) h = B ++ [(e.1 + 1, h)] := by
  unfold stE
  rw [List.getLast?_concat]
  simp [he]
theorem stE_new (B : List En) (e : En) (h : Int) (he : ¬ e.2 = h) : stE (B ++ [e]) h = B ++ [e] ++ [(1, h)] := by
  unfold stE
  rw [List.getLast?_concat]
  simp [he]
theorem split_last {α : Type} : ∀ (A : List α), A = [] ∨ ∃ B e, A = B ++ [e]
  | [] => .inl rfl
  | a :: A => by
    rcases split_last A with rfl | ⟨B, e, rfl⟩
    · exact .inr ⟨[], a, rfl⟩
    · exact .inr ⟨a :: B, e, rfl⟩
theorem stE_last (A : List En) (h : Int) : ∃ B n, stE A h = B ++ [(n, h)] := by
  rcases split_last A with rfl | ⟨B, e, rfl⟩
  · exact ⟨[], 1, rfl⟩
  · by_cases he : e.2 = h
    · exact ⟨B, _, stE_same B e h he⟩
    · exact ⟨_, 1, stE_new B e h he⟩
/-- How the runs go on. -/
theorem runs_step {L : List Int} {k : Nat} (h : k < L.length) :
    ((k = 0 ∨ L[k] ≠ L[k - 1]'(by omega)) → runs (L.take (k + 1)) = runs (L.take k) ++ [(1, L[k])]) ∧
    (¬ (k = 0 ∨ L[k] ≠ L[k - 1]'(by omega)) → ∃ B n, runs (L.take k) = B ++ [(n, L[k])] ∧ runs (L.take (k + 1)) = B ++ [(n + 1, L[k])]) := by
  rw [runs_next h]
  rcases Nat.eq_zero_or_pos k with rfl | hk
  · exact ⟨fun _ => by simp [runs, stE_nil], fun c => absurd (.inl rfl) c⟩
  · obtain ⟨j, rfl⟩ : ∃ j, k = j + 1 := ⟨k - 1, by omega⟩
    have e := runs_next (L := L) (k := j) (by omega)
    obtain ⟨B, n, hB⟩ := stE_last (runs (L.take j)) (L[j]'(by omega))
    rw [hB] at e
    rw [e]
    simp only [Nat.add_sub_cancel]
    constructor
    · rintro (c | c)
      · omega
      · exact stE_new _ _ _ (fun c2 => c c2.symm)
    · intro c
      have hc : L[j + 1] = L[j]'(by omega) := Decidable.byContradiction fun x => c (.inr x)
      exact ⟨B, n, by rw [hc], stE_same _ _ _ hc.symm⟩
structure RunsOf (A : List En) (M : List Int) : Prop where
  pos : ∀ e ∈ A, 1 ≤ e.1
  ris : A.Pairwise fun e f => e.2 < f.2
  sum : (A.map Prod.fst).sum = (M.length : Int)
  cnt : ∀ e ∈ A, e.1 = (M.count e.2 : Int)
  mem : ∀ h ∈ M, ∃ e ∈ A, e.2 = h
  sub : ∀ e ∈ A, e.2 ∈ M
theorem RunsOf.step {A : List En} {M : List Int} {x : Int} (H : RunsOf A M) (hx : ∀ y ∈ M, y ≤ x) : RunsOf (stE A x) (M ++ [x]) := by
  rcases split_last A with rfl | ⟨B, e, rfl⟩
  · have hM : M = [] := by
      cases M with
      | nil => rfl
      | cons y M => obtain ⟨e, he, _⟩ := H.mem y (by simp); cases he
    subst hM
    rw [stE_nil]
    exact ⟨by simp, by simp, by simp, by simp, by simp, by simp⟩
  · obtain ⟨h1, h2, h3, h4, h5, h6⟩ := H
    have hex := hx e.2 (h6 e (by simp))
    obtain ⟨r1, r2, r3⟩ := List.pairwise_append.1 h2
    have hlt : ∀ f ∈ B, f.2 < e.2 := fun f hf => r3 f hf e (by simp)
    simp only [List.map_append, List.map_cons, List.map_nil, List.sum_append, List.sum_cons, List.sum_nil] at h3
    by_cases he : e.2 = x
    · rw [stE_same B e x he]
      have hne : ∀ f ∈ B, ¬ x = f.2 := fun f hf c => by have := hlt f hf; omega
      refine ⟨fun f hf => ?_, List.pairwise_append.2 ⟨r1, List.pairwise_singleton _ _, fun f hf g hg => ?_⟩, ?_, fun f hf => ?_, fun h hh => ?_, fun f hf => ?_⟩
      · rcases List.mem_append.1 hf with c | c
        · exact h1 f (by simp [c])
        · obtain rfl : f = (e.1 + 1, x) := by simpa using c
          have := h1 e (by simp)
          show 1 ≤ e.1 + 1
          omega
      · obtain rfl : g = (e.1 + 1, x) := by simpa using hg
        have := hlt f hf
        show f.2 < x
        omega
      · simp only [List.map_append, List.map_cons, List.map_nil, List.sum_append, List.sum_cons, List.sum_nil, List.length_append, List.length_cons, List.length_nil]
        omega
      · rcases List.mem_append.1 hf with c | c
        · rw [h4 f (by simp [c]), List.count_append]
          have := hne f c
          simp [this]
        · obtain rfl : f = (e.1 + 1, x) := by simpa using c
          have := h4 e (by simp)
          show e.1 + 1 = ((M ++ [x]).count x : Int)
          rw [List.count_append, this, he]
          simp
      · rcases List.mem_append.1 hh with c | c
        · obtain ⟨f, hf, rfl⟩ := h5 h c
          rcases List.mem_append.1 hf with c | c
          · exact ⟨f, by simp [c], rfl⟩
          · obtain rfl : f = e := by simpa using c
            exact ⟨(f.1 + 1, x), by simp, he.symm⟩
        · obtain rfl : h = x := by simpa using c
          exact ⟨(e.1 + 1, h), by simp, rfl⟩
      · rcases List.mem_append.1 hf with c | c
        · have := h6 f (by simp [c])
          simp [this]
        · obtain rfl : f = (e.1 + 1, x) := by simpa using c
          simp
    · rw [stE_new B e x he]
      have hlx : e.2 < x := by omega
      have hall : ∀ f ∈ B ++ [e], f.2 < x := fun f hf => by
        rcases List.mem_append.1 hf with c | c
        · have := hlt f c; omega
        · obtain rfl : f = e := by simpa using c
          exact hlx
      have hnm : ¬ x ∈ M := fun c => by
        obtain ⟨f, hf, hfx⟩ := h5 x c
        have := hall f hf
        omega
      refine ⟨fun f hf => ?_, List.pairwise_append.2 ⟨h2, List.pairwise_singleton _ _, fun f hf g hg => ?_⟩, ?_, fun f hf => ?_, fun h hh => ?_, fun f hf => ?_⟩
      · rcases List.mem_append.1 hf with c | c
        · exact h1 f c
        · obtain rfl : f = (1, x) := by simpa using c
          exact Int.le_refl 1
      · obtain rfl : g = (1, x) := by simpa using hg
        exact hall f hf
      · simp only [List.map_append, List.map_cons, List.map_nil, List.sum_append, List.sum_cons, List.sum_nil, List.length_append, List.length_cons, List.length_nil]
        omega
      · rcases List.mem_append.1 hf with c | c
        · rw [h4 f c, List.count_append]
          have := hall f c
          have hne : ¬ x = f.2 := by omega
          simp [hne]
        · obtain rfl : f = (1, x) := by simpa using c
          show (1 : Int) = ((M ++ [x]).count x : Int)
          rw [List.count_append, List.count_eq_zero.2 hnm]
          simp
      · rcases List.mem_append.1 hh with c | c
        · obtain ⟨f, hf, hfh⟩ := h5 h c
          exact ⟨f, by simp only [List.mem_append] at hf ⊢; exact .inl hf, hfh⟩
        · obtain rfl : h = x := by simpa using c
          exact ⟨(1, h), by simp, rfl⟩
      · rcases List.mem_append.1 hf with c | c
        · have := h6 f c
          simp [this]
        · obtain rfl : f = (1, x) := by simpa using c
          simp
theorem runs_gen : ∀ (L : List Int) (A : List En) (M : List Int), (M ++ L).Pairwise (· ≤ ·) → RunsOf A M → RunsOf (L.foldl stE A) (M ++ L)
  | [], A, M, _, H => by simpa using H
  | x :: L, A, M, h, H => by
    have h1 : ∀ y ∈ M, y ≤ x := fun y hy => (List.pairwise_append.1 h).2.2 y hy x (by simp)
    have e : M ++ x :: L = (M ++ [x]) ++ L := by simp
    rw [e] at h ⊢
    exact runs_gen L (stE A x) (M ++ [x]) h (H.step h1)
theorem runs_of {L : List Int} (h : L.Pairwise (· ≤ ·)) : RunsOf (runs L) L := by
  have := runs_gen L [] [] (by simpa using h) ⟨by simp, by simp, by simp, by simp, by simp, by simp⟩
  simpa [runs] using this
end Ss
end Go.Proofs.Ytmkilmglmeohmaa
