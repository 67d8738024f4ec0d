/- The document's own answers on rising rows: the place of a number, whether it stands there, Check, Same. Conditions: those that each theorem names. -/
import Derived.Test.YtioidkbpjkcjeaaIdB
namespace Go.Proofs.Ytioidkbpjkcjeaa
set_option linter.unusedVariables false
open Go Go.RowKit Ids
namespace Ids
def Srch (L : List Int) (n : Int) (lo hi : Nat) : Prop := lo ≤ hi ∧ hi ≤ L.length ∧ (∀ j (h : j < L.length), j < lo → L[j] < n) ∧ (∀ j (h : j < L.length), hi ≤ j → n ≤ L[j])
theorem Srch.start (L : List Int) (n : Int) : Srch L n 0 L.length := ⟨Nat.zero_le _, Nat.le_refl _, fun _ _ h => by omega, fun _ _ h => by omega⟩
theorem ris_le {L : List Int} (h : Ris L) {i j : Nat} (hj : j < L.length) (hij : i ≤ j) : L[i] ≤ L[j] := by
  rcases Nat.lt_or_ge i j with c | c
  · have := List.pairwise_iff_getElem.mp h i j (by omega) hj c; omega
  · obtain rfl : i = j := by omega
    exact Int.le_refl _
theorem Srch.up {L : List Int} {n : Int} {lo hi m : Nat} (hL : Ris L) (h : Srch L n lo hi) (h1 : lo ≤ m) (h2 : m < hi) (hx : L[m]'(Nat.lt_of_lt_of_le h2 h.2.1) < n) : Srch L n (m + 1) hi :=
  ⟨by omega, h.2.1, fun j hj hjm => by have := ris_le hL (Nat.lt_of_lt_of_le h2 h.2.1) (show j ≤ m by omega); omega, h.2.2.2⟩
theorem Srch.down {L : List Int} {n : Int} {lo hi m : Nat} (hL : Ris L) (h : Srch L n lo hi) (h1 : lo ≤ m) (h2 : m < hi) (hx : ¬ L[m]'(Nat.lt_of_lt_of_le h2 h.2.1) < n) : Srch L n lo m :=
  ⟨h1, by have := h.2.1; omega, h.2.2.1, fun j hj hjm => by have := ris_le hL hj hjm; omega⟩
theorem Srch.there {L : List Int} {n : Int} {k : Nat} (h : Srch L n k k) (hL : Ris L) : (∃ h : k < L.length, L[k] = n) ↔ n ∈ L := by
  constructor
  · rintro ⟨hk, rfl⟩
    exact List.getElem_mem hk
  · intro hm
    obtain ⟨j, hj, e⟩ := List.getElem_of_mem hm
    rcases Nat.lt_or_ge j k with c | c
    · have := h.2.2.1 j hj c; omega
    · have h1 := h.2.2.2 k (by omega) (Nat.le_refl _)
      have h2 := ris_le hL hj c
      exact ⟨by omega, by omega⟩
theorem Srch.put {L : List Int} {n : Int} {k : Nat} (h : Srch L n k k) (hL : Ris L) : put n L = if ∃ h : k < L.length, L[k] = n then L else L.take k ++ n :: L.drop k :=
  put_at n L hL k h.2.1 h.2.2.1 (fun hk => h.2.2.2 k hk (Nat.le_refl _))
theorem half_bd {lo hi : Nat} (h : lo < hi) : lo ≤ (lo + hi) / 2 ∧ (lo + hi) / 2 < hi := by omega
theorem wrapI (n : Int) (h : -9223372036854775808 ≤ n ∧ n ≤ 9223372036854775807) : wrap64 n = n := by unfold wrap64; omega
theorem half_quo {lo hi : Nat} (h : lo + hi ≤ 9223372036854775807) : wrap64 (((lo : Int) + (hi : Int)).tdiv 2) = (((lo + hi) / 2 : Nat) : Int) := by
  rw [Int.tdiv_eq_ediv_of_nonneg (by omega), wrapI _ (by omega)]; omega
theorem meas_up {hi lo m : Nat} (h : lo ≤ m ∧ m < hi) : (intOf (.int .i64 (hi : Int))).toNat - (intOf (.int .i64 ((m + 1 : Nat) : Int))).toNat < (intOf (.int .i64 (hi : Int))).toNat - (intOf (.int .i64 (lo : Int))).toNat := by
  simp only [intOf, Int.toNat_natCast]; omega
theorem meas_dn {hi lo m : Nat} (h : lo ≤ m ∧ m < hi) : (intOf (.int .i64 (m : Int))).toNat - (intOf (.int .i64 (lo : Int))).toNat < (intOf (.int .i64 (hi : Int))).toNat - (intOf (.int .i64 (lo : Int))).toNat := by
  simp only [intOf, Int.toNat_natCast]; omega
end Ids
end Go.Proofs.Ytioidkbpjkcjeaa
