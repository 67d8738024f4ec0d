/- What buckets say of a range. Plain mathematics, no condition but those that each theorem names. -/
import Derived.Test.YtmkilmglmeohmaaSsPl2
namespace Go.Proofs.Ytmkilmglmeohmaa
set_option linter.unusedVariables false
namespace Ss
open Go.Sort Go.Lib
/-- A bucket as Build makes them. -/
def OkBk (b : Bk) : Prop := -9223372036854775808 ≤ b.1 ∧ b.1 ≤ b.2.1 ∧ b.2.1 ≤ 9223372036854775807 ∧ 0 ≤ b.2.2.1
def cSum (B : List Bk) : Int := (B.map fun b => b.2.2.1).sum
def shr (b : Bk) (f t : Int) : Int :=
  if b.2.1 - b.1 + 1 ≤ 9223372036854775807 then (if b.2.2.1 * (t - f + 1) ≤ 9223372036854775807 then b.2.2.1 * (t - f + 1) / (b.2.1 - b.1 + 1) else b.2.2.1 / 2) else b.2.2.1 / 2
theorem shr_bd {b : Bk} {f t : Int} (hb : OkBk b) (h1 : b.1 ≤ f) (h2 : f ≤ t) (h3 : t ≤ b.2.1) : 0 ≤ shr b f t ∧ shr b f t ≤ b.2.2.1 := by
  obtain ⟨_, _, _, hc⟩ := hb
  unfold shr
  have hh : 0 ≤ b.2.2.1 / 2 ∧ b.2.2.1 / 2 ≤ b.2.2.1 := by omega
  split
  · split
    · have hp : 0 ≤ b.2.2.1 * (t - f + 1) := Int.mul_nonneg hc (by omega)
      refine ⟨Int.ediv_nonneg hp (by omega), Int.ediv_le_of_le_mul (by omega) (Int.mul_le_mul_of_nonneg_left (by omega) hc)⟩
    · exact hh
  · exact hh
def stB (low high : Int) (s : Int × Int × Int) (b : Bk) : Int × Int × Int :=
  if max low b.1 > min high b.2.1 then s
  else if max low b.1 > b.1 ∨ min high b.2.1 < b.2.1 then (s.1, s.2.1 + shr b (max low b.1) (min high b.2.1), s.2.2 + b.2.2.1)
  else (s.1 + b.2.2.1, s.2.1 + b.2.2.1, s.2.2 + b.2.2.1)
def btw (low high : Int) (B : List Bk) : Int × Int × Int := B.foldl (stB low high) (0, 0, 0)
theorem btw_next {low high : Int} {B : List Bk} {k : Nat} (h : k < B.length) : btw low high (B.take (k + 1)) = stB low high (btw low high (B.take k)) B[k] := by
  unfold btw
  rw [List.take_add_one, List.getElem?_eq_getElem h, List.foldl_append]
  rfl
theorem cSum_next {B : List Bk} {k : Nat} (h : k < B.length) : cSum (B.take (k + 1)) = cSum (B.take k) + B[k].2.2.1 := by
  unfold cSum
  rw [List.take_add_one, List.getElem?_eq_getElem h, List.map_append, List.sum_append]
  simp
theorem stB_bd {low high : Int} {b : Bk} (hb : OkBk b) (s : Int × Int × Int) : s.1 ≤ (stB low high s b).1 ∧ (stB low high s b).1 - s.1 ≤ (stB low high s b).2.1 - s.2.1 ∧ (stB low high s b).2.1 - s.2.1 ≤ (stB low high s b).2.2 - s.2.2 ∧ (stB low high s b).2.2 ≤ s.2.2 + b.2.2.1 := by
  have hc := hb.2.2.2
  unfold stB
  by_cases h0 : max low b.1 > min high b.2.1
  · rw [if_pos h0]; omega
  · rw [if_neg h0]
    have hs := shr_bd (f := max low b.1) (t := min high b.2.1) hb (by omega) (by omega) (by omega)
    split
    · simp only; omega
    · simp only; omega
theorem btw_bd {low high : Int} {B : List Bk} (hB : ∀ b ∈ B, OkBk b) : ∀ k, k ≤ B.length → 0 ≤ (btw low high (B.take k)).1 ∧ (btw low high (B.take k)).1 ≤ (btw low high (B.take k)).2.1 ∧ (btw low high (B.take k)).2.1 ≤ (btw low high (B.take k)).2.2 ∧ (btw low high (B.take k)).2.2 ≤ cSum (B.take k) := by
  intro k
  induction k with
  | zero => intro _; simp [btw, cSum]
  | succ k ih =>
    intro hk
    have h0 := ih (by omega)
    rw [btw_next (show k < B.length by omega), cSum_next (show k < B.length by omega)]
    have h1 := stB_bd (low := low) (high := high) (hB B[k] (List.getElem_mem _)) (btw low high (B.take k))
    omega
theorem cSum_mono {B : List Bk} (hB : ∀ b ∈ B, OkBk b) : ∀ k, k ≤ B.length → 0 ≤ cSum (B.take k) ∧ cSum (B.take k) ≤ cSum B := by
  have key : ∀ d k, k + d = B.length → cSum (B.take k) ≤ cSum B := by
    intro d
    induction d with
    | zero => intro k hk; rw [show k = B.length by omega, List.take_length]; exact Int.le_refl _
    | succ d ih =>
      intro k hk
      have h1 := ih (k + 1) (by omega)
      rw [cSum_next (show k < B.length by omega)] at h1
      have := (hB (B[k]'(by omega)) (List.getElem_mem _)).2.2.2
      omega
  intro k hk
  refine ⟨?_, key (B.length - k) k (by omega)⟩
  have := btw_bd (low := 0) (high := 0) hB k hk
  omega
/-- What a word's entry tells. -/
def wordN (E : List En) (h : Int) : Int := match E.find? (fun e => e.2 == h) with
  | some e => e.1
  | none => 0
end Ss
end Go.Proofs.Ytmkilmglmeohmaa
