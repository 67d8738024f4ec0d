/- The document's own answers on rising rows: the place of a number, whether it stands there, Check, Same. Conditions: those that each theorem names. -/
import Derived.Test.YtbfaoelgbfhjdaaIdB
namespace Go.Proofs.Ytbfaoelgbfhjdaa
set_option linter.unusedVariables false
open Go Go.RowKit Ids
namespace Ids
def Srch (L : List Int) (n : Int) (lo hi : Nat) : Prop := lo ≤ hi ∧ hi ≤ L.length ∧ (∀ j (h : j < L.length), j < lo → L[j] < n) ∧ (∀ j (h : j < L.length), hi ≤ j → n ≤ L[j])
theorem Srch.start (L : List Int) (n : Int) : Srch L n 0 L.length := ⟨Nat.zero_le _, Nat.le_refl _, fun _ _ h => by omega, fun _ _ h => by omega⟩
theorem ris_le {L : List Int} (h : Ris L) {i j : Nat} (hj : j < L.length) (hij : i ≤ j) : L[i] ≤ L[j] := by
  rcases Nat.lt_or_ge i j with c | c
  · have := List.pairwise_iff_getElem.mp h i j (by omega) hj c; omega
  · obtain rfl : i = j := by omega
    exact Int.le_refl _
theorem Srch.up {L : List Int} {n : Int} {lo hi m : Nat} (hL : Ris L) (h : Srch L n lo hi) (h1 : lo ≤ m) (h2 : m < hi) (hx : L[m]'(Nat.lt_of_lt_of_le h2 h.2.1) < n) : Srch L n (m + 1) hi :=
  ⟨by omega, h.2.1, fun j hj hjm => by have := ris_le hL (Nat.lt_of_lt_of_le h2 h.2.1) (show j ≤ m by omega); omega, h.2.2.2⟩
theorem Srch.down {L : List Int} {n : Int} {lo hi m : Nat} (hL : Ris L) (h : Srch L n lo hi) (h1 : lo ≤ m) (h2 : m < hi) (hx : ¬ L[m]'(Nat.lt_of_lt_of_le h2 h.2.1) < n) : Srch L n lo m :=
  ⟨h1, by have := h.2.1; omega, h.2.2.1, fun j hj hjm => by have := ris_le hL hj hjm; omega⟩
theorem Srch.there {L : List Int} {n : Int} {k : Nat} (h : Srch L n k k) (hL : Ris L) : (∃ h : k < L.length, L[k] = n) ↔ n ∈ L := by
  constructor
  · rintro ⟨hk, rfl⟩
    exact List.getElem_mem hk
  · intro hm
    obtain ⟨j, hj, e⟩ := List.getElem_of_mem hm
    rcases Nat.lt_or_ge j k with c | c
    · have := h.2.2.1 j hj c; omega
    · have h1 := h.2.2.2 k (by omega) (Nat.le_refl _)
      have h2 := ris_le hL hj c
      exact ⟨by omega, by omega⟩
theorem Srch.put {L : List Int} {n : Int} {k : Nat} (h : Srch L n k k) (hL : Ris L) : put n L = if ∃ h : k < L.length, L[k] = n then L else L.take k ++ n :: L.drop k :=
  put_at n L hL k h.2.1 h.2.2.1 (fun hk => h.2.2.2 k hk (Nat.le_refl _))
theorem half_bd {lo hi : Nat} (h : lo < hi) : lo ≤ (lo + hi) / 2 ∧ (lo + hi) / 2 < hi := by omega
theorem wrapI (n : Int) (h : -9223372036854775808 ≤ n ∧ n ≤ 9223372036854775807) : wrap64 n = n := by unfold wrap64; omega
theorem half_quo {lo hi : Nat} (h : lo + hi ≤ 9223372036854775807) : wrap64 (((lo : Int) + (hi : Int)).tdiv 2) = (((lo + hi) / 2 : Nat) : Int) := by
  rw [Int.tdiv_eq_ediv_of_nonneg (by omega), wrapI _ (by omega)]; omega
theorem meas_up {hi lo m : Nat} (h : lo ≤ m ∧ m < hi) : (intOf (.int .i64 (hi : Int))).toNat - (intOf (.int .i64 ((m + 1 : Nat) : Int))).toNat < (intOf (.int .i64 (hi : Int))).toNat - (intOf (.int .i64 (lo : Int))).toNat := by
  simp only [intOf, Int.toNat_natCast]; omega
theorem meas_dn {hi lo m : Nat} (h : lo ≤ m ∧ m < hi) : (intOf (.int .i64 (m : Int))).toNat - (intOf (.int .i64 (lo : Int))).toNat < (intOf (.int .i64 (hi : Int))).toNat - (intOf (.int .i64 (lo : Int))).toNat := by
  simp only [intOf, Int.toNat_natCast]; omega
end Ids
set_option maxHeartbeats 1000000 in
theorem in_any (L : List Int) (v : Value) (n : Int) (w : World) (h : IntsAt w v L) (hl : L.length ≤ 17592186044416) (hL : Ris L) :
    Calls Try.prog 36 #[v, .int .i64 n] w fun e w' => e = .returned (.bool (hasB L n)) ∧ w' = w := by
  have HS := Lib.hid hl
  have HML : Hid (L.length ≤ maxLen) := Lib.hid (by unfold maxLen; omega)
  clear hl
  have HL := Lib.hid hL
  clear hL
  rcases h with ⟨rfl, q, c, rfl⟩ | ⟨b, off, c, rfl, hb, hc⟩
  · go_enter Try.func36, Try.ntmps36
    go_wp2
    go_loop [5, 6] (fun i j => i = .int .i64 0 ∧ j = .int .i64 0) (fun _ _ => 0)
    case atStart => exact ⟨rfl, rfl⟩
    case round =>
      obtain ⟨rfl, rfl⟩ := hrel
      go_wp2
      go_ret
      exact ⟨rfl, rfl⟩
  · have HC := Lib.hid (hc w rfl)
    clear hc
    go_enter Try.func36, Try.ntmps36
    go_wp2
    go_loop [5, 6] (fun i j => ∃ lo hi : Nat, i = .int .i64 lo ∧ j = .int .i64 hi ∧ Hid (Srch L n lo hi)) (fun i j => (intOf j).toNat - (intOf i).toNat)
    case atStart => exact ⟨0, L.length, rfl, rfl, Lib.hid (Srch.start L n)⟩
    case round =>
      obtain ⟨lo, hi, rfl, rfl, HI⟩ := hrel
      have hhi := HI.out.2.1
      by_cases hlt : lo < hi
      · obtain ⟨m, hm⟩ : ∃ m, m = (lo + hi) / 2 := ⟨_, rfl⟩
        have hbd := half_bd hlt
        rw [← hm] at hbd
        have hml : m < L.length := by omega
        have hcell := HC.out m hml
        have hup := Lib.hid fun c => HI.out.up HL.out hbd.1 hbd.2 c
        have hdn := Lib.hid fun c => HI.out.down HL.out hbd.1 hbd.2 c
        generalize L[m] = x at hcell hup hdn
        have e1 : wrap64 ((lo : Int) + (hi : Int)) = (lo : Int) + (hi : Int) := wrapI _ (by have := HS.out; omega)
        have e2 := half_quo (lo := lo) (hi := hi) (by have := HS.out; omega)
        rw [← hm] at e2
        have hmz : (0 : Int) ≤ m := by omega
        have hlt' : (m : Int) < (L.length : Int) := by omega
        clear HI
        have HM := Lib.hid hm
        have HB := Lib.hid hbd
        clear hm hbd
        by_cases hx : x < n
        · have HU := Lib.hid (hup.out hx)
          clear hup hdn
          go_wp2_with fail
          go_round
          case rel => exact ⟨m + 1, hi, congrArg _ (wrap_s HML.out hml), rfl, HU⟩
          case measure => rw [wrap_s HML.out hml]; exact meas_up HB.out
        · have HU := Lib.hid (hdn.out hx)
          clear hup hdn
          go_wp2_with fail
          go_round
          case rel => exact ⟨lo, m, rfl, congrArg _ e2, HU⟩
          case measure => rw [e2]; exact meas_dn HB.out
      · obtain rfl : lo = hi := by have := HI.out.1; omega
        have HT := Lib.hid (HI.out.there HL.out)
        clear HI
        by_cases hk : lo < L.length
        · have hcell := HC.out lo hk
          generalize hx : L[lo] = x at hcell
          have HX := Lib.hid hx
          clear hx
          have hlt' : (lo : Int) < (L.length : Int) := by omega
          by_cases he : x = n
          · have HE : Hid (hasB L n = true) := Lib.hid (by simpa [hasB] using HT.out.mp ⟨hk, by rw [HX.out, he]⟩)
            subst he
            clear HT
            go_wp2_with fail
            go_ret
            exact ⟨retB HE.out, rfl⟩
          · have HE : Hid (hasB L n = false) := Lib.hid (by simp only [hasB, List.contains_eq_mem, decide_eq_false_iff_not]; exact fun c => he (by obtain ⟨_, h2⟩ := HT.out.mpr c; rw [← HX.out, h2]))
            have hxe : (x == n) = false := by simp [he]
            clear HT
            go_wp2_with fail
            go_ret
            exact ⟨retB HE.out, rfl⟩
        · obtain rfl : lo = L.length := by omega
          have HE : Hid (hasB L n = false) := Lib.hid (by simp only [hasB, List.contains_eq_mem, decide_eq_false_iff_not]; exact fun c => by obtain ⟨h1, h2⟩ := HT.out.mpr c; omega)
          clear HT
          go_wp2_with fail
          go_ret
          exact ⟨retB HE.out, rfl⟩
end Go.Proofs.Ytbfaoelgbfhjdaa
