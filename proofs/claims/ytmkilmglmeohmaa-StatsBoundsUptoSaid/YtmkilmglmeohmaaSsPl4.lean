/- The truth lies between the least and the most. Plain mathematics, no condition but those that each theorem names. -/
import Derived.Test.YtmkilmglmeohmaaSsPl3
namespace Go.Proofs.Ytmkilmglmeohmaa
set_option linter.unusedVariables false
namespace Ss
open Go.Sort Go.Lib
/-- How many lie in a range. -/
def cnt (lo hi : Int) (L : List Int) : Nat := L.countP fun x => decide (lo ≤ x) && decide (x ≤ hi)
theorem cnt_next {lo hi : Int} {L : List Int} {k : Nat} (h : k < L.length) : cnt lo hi (L.take (k + 1)) = cnt lo hi (L.take k) + (if lo ≤ L[k] ∧ L[k] ≤ hi then 1 else 0) := by
  unfold cnt
  rw [List.take_add_one, List.getElem?_eq_getElem h, List.countP_append]
  simp [List.countP_cons]
theorem cnt_le (lo hi : Int) (L : List Int) : cnt lo hi L ≤ L.length := List.countP_le_length
theorem cnt_perm {lo hi : Int} {L M : List Int} (h : L.Perm M) : cnt lo hi L = cnt lo hi M := h.countP_eq _
theorem getD_in {p : List Int} {j : Nat} (h : j < p.length) : p.getD j 0 = p[j] := by simp [List.getD, List.getElem?_eq_getElem h]
/-- The ends of sorted numbers. -/
theorem ends_of {p : List Int} (h : p.Pairwise (· ≤ ·)) (hp : 0 < p.length) : (∀ x ∈ p, p.getD 0 0 ≤ x ∧ x ≤ p.getD (p.length - 1) 0) ∧ p.getD 0 0 ∈ p ∧ p.getD (p.length - 1) 0 ∈ p := by
  rw [getD_in hp, getD_in (show p.length - 1 < p.length by omega)]
  refine ⟨fun x hx => ?_, List.getElem_mem _, List.getElem_mem _⟩
  obtain ⟨j, hj, rfl⟩ := List.getElem_of_mem hx
  constructor
  · rcases Nat.eq_zero_or_pos j with rfl | c
    · exact Int.le_refl _
    · exact List.pairwise_iff_getElem.mp h 0 j hp hj c
  · rcases Nat.lt_or_ge j (p.length - 1) with c | c
    · exact List.pairwise_iff_getElem.mp h j (p.length - 1) hj (by omega) c
    · have : j = p.length - 1 := by omega
      subst this
      exact Int.le_refl _
theorem piece_cnt {lo hi : Int} {p : List Int} (h : p.Pairwise (· ≤ ·)) (hp : 0 < p.length) (s : Int × Int × Int) : (stB lo hi s (bkOf p)).1 - s.1 ≤ cnt lo hi p ∧ (cnt lo hi p : Int) ≤ (stB lo hi s (bkOf p)).2.2 - s.2.2 := by
  obtain ⟨h1, _, _⟩ := ends_of h hp
  have hc := cnt_le lo hi p
  unfold bkOf
  unfold stB
  simp only
  generalize p.getD 0 0 = a at *
  generalize p.getD (p.length - 1) 0 = z at *
  by_cases h0 : max lo a > min hi z
  · rw [if_pos h0]
    have : cnt lo hi p = 0 := by
      unfold cnt
      rw [List.countP_eq_zero]
      intro x hx
      have := h1 x hx
      simp
      omega
    rw [this]
    simp
  · rw [if_neg h0]
    split
    · simp only; omega
    · have : cnt lo hi p = p.length := by
        unfold cnt
        rw [List.countP_eq_length]
        intro x hx
        have := h1 x hx
        simp
        omega
      simp only
      omega
theorem piece_up {S : List Int} (h : S.Pairwise (· ≤ ·)) (b i : Nat) : (piece S b i).Pairwise (· ≤ ·) := by
  unfold piece
  exact h.sublist ((List.take_sublist _ _).trans (List.drop_sublist _ _))
theorem piece_mem {S : List Int} {b i : Nat} {x : Int} (h : x ∈ piece S b i) : x ∈ S := List.mem_of_mem_drop (List.mem_of_mem_take h)
theorem piece_pos {S : List Int} {b i : Nat} (h : i < b) (hb : b ≤ S.length) : 0 < (piece S b i).length := by
  rw [piece_len h]
  have := cut_up (n := S.length) (b := b) (i := i) (by omega) hb
  omega
theorem take_piece {S : List Int} {b i : Nat} (h : i < b) : S.take (cut S.length b (i + 1)) = S.take (cut S.length b i) ++ piece S b i := by
  have h1 := cut_mono (n := S.length) (b := b) (i := i) (j := i + 1) (by omega)
  unfold piece
  obtain ⟨d, hd⟩ : ∃ d, cut S.length b (i + 1) = cut S.length b i + d := ⟨cut S.length b (i + 1) - cut S.length b i, by omega⟩
  rw [hd, Nat.add_sub_cancel_left, List.take_add]
theorem bks_ok {S : List Int} {b : Nat} (hS : S.Pairwise (· ≤ ·)) (hr : ∀ x ∈ S, -9223372036854775808 ≤ x ∧ x ≤ 9223372036854775807) (hb : b ≤ S.length) : ∀ x ∈ bks S b, OkBk x := by
  intro x hx
  unfold bks at hx
  obtain ⟨i, hi, rfl⟩ := List.mem_map.1 hx
  have hi := List.mem_range.1 hi
  obtain ⟨h1, h2, h3⟩ := ends_of (piece_up hS b i) (piece_pos hi hb)
  have a := hr _ (piece_mem h2)
  have z := hr _ (piece_mem h3)
  have az := (h1 _ h2).2
  exact ⟨a.1, az, z.2, by show (0 : Int) ≤ ((piece S b i).length : Int); omega⟩
theorem bks_sum {S : List Int} {b : Nat} : ∀ i, i ≤ b → cSum ((bks S b).take i) = (cut S.length b i : Int) := by
  intro i
  induction i with
  | zero => intro _; simp [cSum, cut_zero]
  | succ i ih =>
    intro h
    rw [cSum_next (by rw [bks_len]; omega), ih (by omega), bks_at]
    have h1 := piece_len (L := S) (b := b) (i := i) (by omega)
    have h2 := cut_mono (n := S.length) (b := b) (i := i) (j := i + 1) (by omega)
    show _ + ((piece S b i).length : Int) = _
    omega
theorem bks_all {S : List Int} {b : Nat} (hb : b ≤ S.length) (hb2 : 0 < S.length → 0 < b) : cSum (bks S b) = (S.length : Int) := by
  have h := bks_sum (S := S) (b := b) b (Nat.le_refl _)
  rw [List.take_of_length_le (by rw [bks_len]; exact Nat.le_refl _)] at h
  rw [h]
  rcases Nat.eq_zero_or_pos S.length with h0 | h0
  · rw [h0]; have : b = 0 := by omega
    subst this
    simp [cut]
  · rw [cut_all (hb2 h0)]
theorem btw_cnt {lo hi : Int} {S : List Int} {b : Nat} (hS : S.Pairwise (· ≤ ·)) (hb : b ≤ S.length) : ∀ i, i ≤ b → (btw lo hi ((bks S b).take i)).1 ≤ cnt lo hi (S.take (cut S.length b i)) ∧ (cnt lo hi (S.take (cut S.length b i)) : Int) ≤ (btw lo hi ((bks S b).take i)).2.2 := by
  intro i
  induction i with
  | zero => intro _; simp [btw, cut_zero, cnt]
  | succ i ih =>
    intro h
    obtain ⟨h1, h2⟩ := ih (by omega)
    rw [btw_next (by rw [bks_len]; omega), bks_at, take_piece (by omega)]
    have hp := piece_cnt (lo := lo) (hi := hi) (piece_up hS b i) (piece_pos (by omega) hb) (btw lo hi ((bks S b).take i))
    have e : cnt lo hi (S.take (cut S.length b i) ++ piece S b i) = cnt lo hi (S.take (cut S.length b i)) + cnt lo hi (piece S b i) := by unfold cnt; rw [List.countP_append]
    rw [e]
    omega
theorem btw_true {lo hi : Int} {S : List Int} {b : Nat} (hS : S.Pairwise (· ≤ ·)) (hb : b ≤ S.length) (hb2 : 0 < S.length → 0 < b) : (btw lo hi (bks S b)).1 ≤ cnt lo hi S ∧ (cnt lo hi S : Int) ≤ (btw lo hi (bks S b)).2.2 := by
  have h := btw_cnt (lo := lo) (hi := hi) hS hb b (Nat.le_refl _)
  rw [List.take_of_length_le (by rw [bks_len]; exact Nat.le_refl _)] at h
  have e : S.take (cut S.length b b) = S := by
    rcases Nat.eq_zero_or_pos S.length with h0 | h0
    · rw [List.length_eq_zero_iff.1 h0]; simp
    · rw [cut_all (hb2 h0), List.take_length]
  rwa [e] at h
theorem btw_full {B : List Bk} (hB : ∀ x ∈ B, OkBk x) : ∀ i, i ≤ B.length → btw (-9223372036854775808) 9223372036854775807 (B.take i) = (cSum (B.take i), cSum (B.take i), cSum (B.take i)) := by
  intro i
  induction i with
  | zero => intro _; simp [btw, cSum]
  | succ i ih =>
    intro h
    rw [btw_next (by omega), cSum_next (by omega), ih (by omega)]
    obtain ⟨h1, h2, h3, h4⟩ := hB (B[i]'(by omega)) (List.getElem_mem _)
    unfold stB
    rw [if_neg (by omega), if_neg (by omega)]
theorem btw_whole {B : List Bk} (hB : ∀ x ∈ B, OkBk x) : btw (-9223372036854775808) 9223372036854775807 B = (cSum B, cSum B, cSum B) := by
  have := btw_full hB B.length (Nat.le_refl _)
  rwa [List.take_length] at this
end Ss
end Go.Proofs.Ytmkilmglmeohmaa
