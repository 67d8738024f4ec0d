/- num.Div, num.Isqrt and the document's own Div, Isqrt at any numbers. Conditions: those that each theorem names. -/
import Derived.Test.YtfgmkdghpdpdkaaVcPlain
import Derived.Test.YtfgmkdghpdpdkaaShelf
import Derived.WalkKit
import Derived.WalkSpells
import Derived.WalkLawsBesides
import Derived.Laws.Rows
import Derived.Lib.Hide
import Derived.Lib.BitFns
namespace Go.Proofs.Ytfgmkdghpdpdkaa
open Go.RowKit

theorem ret_int {k : IntKind} {a b : Int} (h : a = b) : Ending.returned (.int k a) = .returned (.int k b) := by rw [h]
theorem ret_int2 {k l : IntKind} {a b c d : Int} (h : a = b) (h' : c = d) : Ending.returned (.tuple #[.int k a, .int l c]) = .returned (.tuple #[.int k b, .int l d]) := by rw [h, h']

def negB (a b : Int) : Bool := decide (a = -9223372036854775808 ∧ b = -1)
theorem negB_true {a b : Int} (h : negB a b = true) : a = -9223372036854775808 ∧ b = -1 := of_decide_eq_true h
theorem negB_false {a b : Int} (h : negB a b = false) : ¬ (a = -9223372036854775808 ∧ b = -1) := of_decide_eq_false h
set_option maxHeartbeats 400000 in
theorem wraps_yes (a b : Int) (w : World) (h : negB a b = true) :
    Calls Try.prog 77 #[.int .i64 a, .int .i64 b] w fun e w' => e = .returned (.bool true) ∧ w = w' := by
  obtain ⟨h1, h2⟩ := negB_true h
  clear h
  subst h1 h2
  go_enter Try.func77, Try.ntmps77
  go_wp2
  go_ret
  exact ⟨rfl, rfl⟩
set_option maxHeartbeats 400000 in
theorem wraps_no (a b : Int) (w : World) (h : negB a b = false) :
    Calls Try.prog 77 #[.int .i64 a, .int .i64 b] w fun e w' => e = .returned (.bool false) ∧ w = w' := by
  have h' := negB_false h
  clear h
  by_cases h1 : a = -9223372036854775808
  · subst h1
    have h2 : (b == -1) = false := by simp; omega
    clear h'
    go_enter Try.func77, Try.ntmps77
    go_wp2
    all_goals go_ret
    all_goals exact ⟨rfl, rfl⟩
  · have h2 : (a == -9223372036854775808) = false := by simp; omega
    clear h' h1
    go_enter Try.func77, Try.ntmps77
    go_wp2
    all_goals go_ret
    all_goals exact ⟨rfl, rfl⟩
set_option maxHeartbeats 400000 in
theorem div_zero (a : Int) (w : World) :
    Calls Try.prog 70 #[.int .i64 a, .int .i64 0] w fun e w' => e = .returned (.tuple #[.int .i64 0, .int .i64 1]) ∧ w = w' := by
  go_enter Try.func70, Try.ntmps70
  go_wp2
  go_ret2
  exact ⟨rfl, rfl⟩
set_option maxHeartbeats 400000 in
theorem div_over (a b : Int) (w : World) (h0 : (b == 0) = false) (h : negB a b = true) :
    Calls Try.prog 70 #[.int .i64 a, .int .i64 b] w fun e w' => e = .returned (.tuple #[.int .i64 0, .int .i64 10]) ∧ w = w' := by
  go_enter Try.func70, Try.ntmps70
  go_wp2_with (go_at_call 77; refine (wraps_yes _ _ _ h).mono ?_; rintro e w' ⟨rfl, rfl⟩)
  go_ret2
  exact ⟨rfl, rfl⟩
theorem div_keep (a b : Int) (hb0 : b ≠ 0)
    (h : (a.tmod b != 0) = false ∨ (!decide (a < 0) == decide (b < 0)) = false) : a.tdiv b = a.fdiv b := by
  by_cases hm : a.tmod b = 0
  · exact (fdiv_same a b hm).symm
  · have hs := fdiv_part a b hb0 hm
    have h' : (a < 0) ↔ (b < 0) := by
      rcases h with h | h
      · simp [hm] at h
      · by_cases x : a < 0 <;> by_cases y : b < 0 <;> simp [x, y] at h ⊢
    rw [if_pos h'] at hs; omega
theorem div_less (a b : Int) (hb0 : b ≠ 0) (h : (a.tmod b != 0) = true ∧ (!decide (a < 0) == decide (b < 0)) = true) : a.tdiv b - 1 = a.fdiv b := by
  have hm : a.tmod b ≠ 0 := by simpa using h.1
  have hs := fdiv_part a b hb0 hm
  have h' : ¬ ((a < 0) ↔ (b < 0)) := by
    have h2 := h.2
    by_cases x : a < 0 <;> by_cases y : b < 0 <;> simp [x, y] at h2 ⊢
  rw [if_neg h'] at hs; omega
theorem wrap64_in (x : Int) (h : -9223372036854775808 ≤ x ∧ x ≤ 9223372036854775807) : wrap64 x = x := by unfold wrap64; omega
theorem fdiv_bd (a b : Int) (h : (-9223372036854775808 ≤ a ∧ a ≤ 9223372036854775807) ∧ ¬ (a = -9223372036854775808 ∧ b = -1)) : -9223372036854775808 ≤ a.fdiv b ∧ a.fdiv b ≤ 9223372036854775807 := by
  have h1 := tdiv_bd a b h.1.1 h.1.2 h.2
  by_cases hb : b = 0
  · subst hb; simp
  by_cases hm : a.tmod b = 0
  · rw [fdiv_same a b hm]; exact h1
  · rw [fdiv_part a b hb hm]
    have h2 := Int.natAbs_tdiv a b
    have h3 : a.natAbs.div b.natAbs ≤ a.natAbs := Nat.div_le_self _ _
    have h4 : b.natAbs ≠ 1 := by
      intro e
      apply hm
      have : b = 1 ∨ b = -1 := by omega
      rcases this with rfl | rfl <;> simp
    have h5 : a.natAbs.div b.natAbs ≤ a.natAbs.div 2 := Nat.div_le_div_left (by omega) (by omega)
    have h6 : a.natAbs.div 2 = a.natAbs / 2 := rfl
    split <;> omega
set_option maxHeartbeats 800000 in
theorem div_any (a b : Int) (w : World) (h0 : (b == 0) = false) (h : negB a b = false) (ha : -9223372036854775808 ≤ a) (ha' : a ≤ 9223372036854775807) :
    Calls Try.prog 70 #[.int .i64 a, .int .i64 b] w fun e w' => e = .returned (.tuple #[.int .i64 (a.fdiv b), .int .i64 0]) ∧ w = w' := by
  have hb0 : b ≠ 0 := by simpa using h0
  have HT := Lib.hid (tdiv_bd a b ha ha' (negB_false h))
  have HA := Lib.hid (And.intro (And.intro ha ha') (negB_false h))
  clear ha ha'
  go_enter Try.func70, Try.ntmps70
  go_wp2_with (go_at_call 77; refine (wraps_no _ _ _ h).mono ?_; rintro e w' ⟨rfl, rfl⟩)
  · have hm : (a.tmod b != 0) = false := by simp [show a.tmod b = 0 by assumption]
    have hc := div_keep a b hb0 (.inl hm)
    go_ret2
    exact ⟨ret_int2 (by rw [← hc]; exact wrap64_in _ HT.out) rfl, rfl⟩
  · have hc := div_less a b hb0 (by assumption)
    have hf := fdiv_bd a b HA.out
    go_ret2
    exact ⟨ret_int2 (by rw [wrap64_in _ HT.out, hc]; exact wrap64_in _ hf) rfl, rfl⟩
  · have hc := div_keep a b hb0 (by assumption)
    go_ret2
    exact ⟨ret_int2 (by rw [← hc]; exact wrap64_in _ HT.out) rfl, rfl⟩
set_option maxHeartbeats 400000 in
theorem isqrt_any (N : Nat) (w : World) (h0 : 1 ≤ N) (h : N ≤ 9223372036854775807) :
    Calls Try.prog 69 #[.int .i64 (N : Int)] w fun e w' => e = .returned (.int .i64 (rootN N)) ∧ w = w' := by
  have hL : Lib.bitLen N ≤ 63 := Lib.bitLen_le N 63 (by omega) (by omega)
  have hst := newton_start N (by omega)
  obtain ⟨L, hLe⟩ : ∃ L, L = Lib.bitLen N := ⟨_, rfl⟩
  have hc : ∀ w : World, Calls Try.prog 72 #[.int .u64 (N : Int)] w fun e w' => e = .returned (.int .i64 (L : Int)) ∧ w' = w := fun w => by rw [hLe]; exact Try.bits_Len (N : Int) w (by omega) (by omega)
  rw [← hLe] at hL hst
  obtain ⟨R, hR⟩ : ∃ R, R = 2 ^ ((L + 1) / 2) := ⟨_, rfl⟩
  have hR1 : 1 ≤ R := by rw [hR]; exact Nat.one_le_two_pow
  have hR2 : R ≤ 4294967296 := by rw [hR]; exact Nat.pow_le_pow_right (n := 2) (by omega) (by omega : (L + 1) / 2 ≤ 32)
  have hs : wrap64 ((2 : Int) ^ ((L + 1) / 2)) = (R : Int) := by
    have : (2 : Int) ^ ((L + 1) / 2) = (R : Int) := by rw [hR]; simp
    rw [this]; exact wrap64_in _ (by omega)
  rw [← hR] at hst
  have hab : N < (R + 1) * (R + 1) := Nat.lt_of_lt_of_le hst (Nat.mul_le_mul (by omega) (by omega))
  have hq : N / R ≤ R + 2 := newton_quot N R hR1 hab
  have hq' : (N : Int) / (R : Int) ≤ R + 2 := by rw [← Int.natCast_ediv]; omega
  have hq0 : 0 ≤ (N : Int) / (R : Int) := Int.ediv_nonneg (by omega) (by omega)
  have HAB := Lib.hid hab
  clear hLe hst hR hab hq
  go_enter Try.func69, Try.ntmps69
  go_wp2_with (go_at_call 72; refine (hc _).mono ?_; rintro e w' ⟨rfl, rfl⟩)
  go_loop [3, 4] (fun r x => ∃ r' : Nat, 1 ≤ r' ∧ r' ≤ 4294967296 ∧ N < (r' + 1) * (r' + 1) ∧ r = .int .i64 (r' : Int) ∧ x = .int .i64 (((r' : Int) + (N : Int) / (r' : Int)) / 2)) (fun r _ => (intOf r).toNat)
  case atStart => exact ⟨R, hR1, hR2, HAB.out, by rw [hs], by first | rfl | (simp only [hs]; done)⟩
  case round =>
    obtain ⟨r, hr1, hr2, hr3, rfl, rfl⟩ := hrel
    have HR3 := Lib.hid hr3
    obtain ⟨x, hx⟩ : ∃ x, x = (r + N / r) / 2 := ⟨_, rfl⟩
    have hxe : ((r : Int) + (N : Int) / (r : Int)) / 2 = (x : Int) := by rw [hx, Int.natCast_ediv, Int.natCast_add, Int.natCast_ediv]; rfl
    have hx1 : 1 ≤ x := by rw [hx]; exact newton_pos N r h0 hr1
    have hx3 : N < (x + 1) * (x + 1) := by rw [hx]; exact newton_above N r hr1
    have HX := Lib.hid hx
    have HX3 := Lib.hid hx3
    have xq : N / x ≤ x + 2 := newton_quot N x hx1 hx3
    have xq' : (N : Int) / (x : Int) ≤ x + 2 := by rw [← Int.natCast_ediv]; omega
    have xq0 : 0 ≤ (N : Int) / (x : Int) := Int.ediv_nonneg (by omega) (by omega)
    rw [hxe]
    clear hxe hx hx3 hr3 xq
    by_cases hlt : x < r
    · go_wp2
      go_round
      case rel => exact ⟨x, hx1, by omega, HX3.out, rfl, rfl⟩
      case measure => simp [intOf]; omega
    · go_wp2
      go_ret
      have : r = rootN N := rootN_is N r (newton_stands N r hr1 (by rw [← HX.out]; omega)) HR3.out
      exact ⟨ret_int (by rw [← this]), rfl⟩
set_option maxHeartbeats 800000 in
theorem divRef_zero (a : Int) (w : World) :
    Calls Try.prog 44 #[.int .i64 a, .int .i64 0] w fun e w' => e = .returned (.tuple #[.int .i64 0, .int .i64 1]) ∧ w = w' := by
  go_enter Try.func44, Try.ntmps44
  go_wp2
  go_ret2
  exact ⟨rfl, rfl⟩
set_option maxHeartbeats 400000 in
theorem divRef_over (a b : Int) (w : World) (h : negB a b = true) :
    Calls Try.prog 44 #[.int .i64 a, .int .i64 b] w fun e w' => e = .returned (.tuple #[.int .i64 0, .int .i64 10]) ∧ w = w' := by
  obtain ⟨h1, h2⟩ := negB_true h
  clear h
  subst h1 h2
  go_enter Try.func44, Try.ntmps44
  go_wp2
  go_ret2
  exact ⟨rfl, rfl⟩
set_option maxHeartbeats 800000 in
theorem divRef_any (a b : Int) (w : World) (h0 : (b == 0) = false) (h : negB a b = false) (ha : -9223372036854775808 ≤ a) (ha' : a ≤ 9223372036854775807) :
    Calls Try.prog 44 #[.int .i64 a, .int .i64 b] w fun e w' => e = .returned (.tuple #[.int .i64 (a.fdiv b), .int .i64 0]) ∧ w = w' := by
  have hb0 : b ≠ 0 := by simpa using h0
  have HT := Lib.hid (tdiv_bd a b ha ha' (negB_false h))
  have HA := Lib.hid (And.intro (And.intro ha ha') (negB_false h))
  have hn : (a == -9223372036854775808) = false ∨ (b == -1) = false := by
    have := negB_false h
    by_cases x : a = -9223372036854775808
    · right; simp; omega
    · left; simp; omega
  clear ha ha' h
  rcases hn with hn | hn
  · go_enter Try.func44, Try.ntmps44
    go_wp2
    · have hm : (a.tmod b != 0) = false := by simp [show a.tmod b = 0 by assumption]
      have hc := div_keep a b hb0 (.inl hm)
      go_ret2
      exact ⟨ret_int2 (by rw [← hc]; exact wrap64_in _ HT.out) rfl, rfl⟩
    · have hc := div_less a b hb0 (by assumption)
      have hf := fdiv_bd a b HA.out
      go_ret2
      exact ⟨ret_int2 (by rw [wrap64_in _ HT.out, hc]; exact wrap64_in _ hf) rfl, rfl⟩
    · have hc := div_keep a b hb0 (by assumption)
      go_ret2
      exact ⟨ret_int2 (by rw [← hc]; exact wrap64_in _ HT.out) rfl, rfl⟩
  · by_cases hx : (a == -9223372036854775808) = true
    · go_enter Try.func44, Try.ntmps44
      go_wp2
      · have hm : (a.tmod b != 0) = false := by simp [show a.tmod b = 0 by assumption]
        have hc := div_keep a b hb0 (.inl hm)
        go_ret2
        exact ⟨ret_int2 (by rw [← hc]; exact wrap64_in _ HT.out) rfl, rfl⟩
      · have hc := div_less a b hb0 (by assumption)
        have hf := fdiv_bd a b HA.out
        go_ret2
        exact ⟨ret_int2 (by rw [wrap64_in _ HT.out, hc]; exact wrap64_in _ hf) rfl, rfl⟩
      · have hc := div_keep a b hb0 (by assumption)
        go_ret2
        exact ⟨ret_int2 (by rw [← hc]; exact wrap64_in _ HT.out) rfl, rfl⟩
    · have hx : (a == -9223372036854775808) = false := by simpa using hx
      go_enter Try.func44, Try.ntmps44
      go_wp2
      · have hm : (a.tmod b != 0) = false := by simp [show a.tmod b = 0 by assumption]
        have hc := div_keep a b hb0 (.inl hm)
        go_ret2
        exact ⟨ret_int2 (by rw [← hc]; exact wrap64_in _ HT.out) rfl, rfl⟩
      · have hc := div_less a b hb0 (by assumption)
        have hf := fdiv_bd a b HA.out
        go_ret2
        exact ⟨ret_int2 (by rw [wrap64_in _ HT.out, hc]; exact wrap64_in _ hf) rfl, rfl⟩
      · have hc := div_keep a b hb0 (by assumption)
        go_ret2
        exact ⟨ret_int2 (by rw [← hc]; exact wrap64_in _ HT.out) rfl, rfl⟩
set_option maxHeartbeats 400000 in
theorem isqrtRef_any (N : Nat) (w : World) (h0 : 1 ≤ N) (h : N ≤ 9223372036854775807) :
    Calls Try.prog 49 #[.int .i64 (N : Int)] w fun e w' => e = .returned (.int .i64 (rootN N)) ∧ w = w' := by
  go_enter Try.func49, Try.ntmps49
  go_wp2
  go_loop [3, 4] (fun l u => ∃ x y : Nat, x ≤ y ∧ y ≤ 3037000499 ∧ x * x ≤ N ∧ N < (y + 1) * (y + 1) ∧ l = .int .i64 (x : Int) ∧ u = .int .i64 (y : Int)) (fun l u => (intOf u - intOf l).toNat)
  case atStart => exact ⟨0, 3037000499, by omega, by omega, by omega, by omega, rfl, rfl⟩
  case round =>
    obtain ⟨x, y, hxy, hy, hx2, hy2, rfl, rfl⟩ := hrel
    have HX := Lib.hid hx2
    have HY := Lib.hid hy2
    clear hx2 hy2
    by_cases hlt : x < y
    · obtain ⟨m, hm⟩ : ∃ m, m = (x + y + 1) / 2 := ⟨_, rfl⟩
      have hme : ((x : Int) + (y : Int) + 1) / 2 = (m : Int) := by omega
      have m1 : x < m := by omega
      have m2 : m ≤ y := by omega
      have HM := Lib.hid hm
      clear hm
      have hp : m * m ≤ 3037000499 * 3037000499 := Nat.mul_le_mul (by omega) (by omega)
      have hq : (m : Int) * (m : Int) = ((m * m : Nat) : Int) := by simp
      obtain ⟨p, hpe⟩ : ∃ p, p = m * m := ⟨_, rfl⟩
      rw [← hpe] at hp hq
      have HP := Lib.hid hpe
      clear hpe
      by_cases hc : p ≤ N
      · go_wp2
        go_round
        case rel => exact ⟨m, y, m2, hy, by rw [← HP.out]; exact hc, HY.out, by rw [hme], rfl⟩
        case measure => simp [intOf]; omega
      · go_wp2
        go_round
        case rel => exact ⟨x, m - 1, by omega, by omega, HX.out, by rw [Nat.sub_add_cancel (by omega), ← HP.out]; omega, rfl, by congr 1; omega⟩
        case measure => simp [intOf]; omega
    · have hr : x = rootN N := rootN_is N x HX.out (by have e : x = y := (by omega); have := HY.out; rw [← e] at this; exact this)
      have HR := Lib.hid hr
      clear hr
      go_wp2
      go_ret
      exact ⟨ret_int (by rw [HR.out]), rfl⟩

theorem isqrt_low (n : Int) (w : World) (h : n < 1) :
    Calls Try.prog 69 #[.int .i64 n] w fun e w' => e = .returned (.int .i64 0) ∧ w = w' := by
  go_enter Try.func69, Try.ntmps69
  go_wp2
  go_ret
  exact ⟨rfl, rfl⟩
theorem isqrtI_any (n : Int) (w : World) (h : 0 ≤ n) (h' : n ≤ 9223372036854775807) :
    Calls Try.prog 69 #[.int .i64 n] w fun e w' => e = .returned (.int .i64 (Vc.rootI n)) ∧ w = w' := by
  rcases Int.lt_or_le n 1 with c | c
  · obtain rfl : n = 0 := by omega
    exact isqrt_low 0 w (by decide)
  · obtain ⟨N, rfl⟩ := Int.eq_ofNat_of_zero_le h
    exact isqrt_any N w (by omega) (by omega)
set_option maxHeartbeats 400000 in
theorem isqrtRef_zero (w : World) :
    Calls Try.prog 49 #[.int .i64 0] w fun e w' => e = .returned (.int .i64 0) ∧ w = w' := by
  go_enter Try.func49, Try.ntmps49
  go_wp2
  go_ret
  exact ⟨rfl, rfl⟩
theorem isqrtRefI_any (n : Int) (w : World) (h : 0 ≤ n) (h' : n ≤ 9223372036854775807) :
    Calls Try.prog 49 #[.int .i64 n] w fun e w' => e = .returned (.int .i64 (Vc.rootI n)) ∧ w = w' := by
  rcases Int.lt_or_le n 1 with c | c
  · obtain rfl : n = 0 := by omega
    exact isqrtRef_zero w
  · obtain ⟨N, rfl⟩ := Int.eq_ofNat_of_zero_le h
    exact isqrtRef_any N w (by omega) (by omega)
end Go.Proofs.Ytfgmkdghpdpdkaa
