/- What the document's own answers for whole numbers are, said of any input. Conditions: none but those that each theorem names. -/
import Derived.Test.YtmfedhccmmgjaaaNumB
namespace Go.Proofs.Ytmfedhccmmgjaaa
open Go.RowKit

theorem wrap_quo (x c : Int) (hc : 1 ≤ c) : IntKind.u64.wrap ((IntKind.u64.wrap x).tdiv c) = IntKind.u64.wrap x / c :=
  IntWalk.u64_quo _ _ ⟨(u64_bd x).1, (u64_bd x).2, hc⟩
theorem drawRef_any (a : Int) (w : World) :
    Calls Try.prog 26 #[.int .u64 a] w fun e w' => e = .returned (.tuple #[.int .u64 (dZ a), .int .u64 (dN a)]) ∧ w = w' := by
  go_enter Try.func26, Try.ntmps26
  go_wp2
  go_ret2
  exact ⟨ret_int2 (by
    unfold dZ dC dB dA dN
    simp only [wrap_quo _ 1073741824 (by decide), wrap_quo _ 134217728 (by decide), wrap_quo _ 2147483648 (by decide)]) rfl, rfl⟩
theorem belowRef_zero (a n : Int) (w : World) (hn : n < 1) :
    Calls Try.prog 28 #[.int .u64 a, .int .i64 n] w fun e w' => e = .returned (.tuple #[.int .i64 0, .int .u64 a]) ∧ w = w' := by
  go_enter Try.func28, Try.ntmps28
  go_wp2
  go_ret2
  exact ⟨rfl, rfl⟩
theorem belowRef_any (a n : Int) (w : World) (hn : 1 ≤ n) (hn' : n ≤ 9223372036854775807) :
    Calls Try.prog 28 #[.int .u64 a, .int .i64 n] w fun e w' => e = .returned (.tuple #[.int .i64 (dZ a % n), .int .u64 (dN a)]) ∧ w = w' := by
  have hz := dZ_bd a
  obtain ⟨hz0, hz1⟩ := hz
  have hm0 := Int.emod_nonneg (dZ a) (by omega : n ≠ 0)
  have hm1 := Int.emod_lt_of_pos (dZ a) (by omega : 0 < n)
  go_enter Try.func28, Try.ntmps28
  go_wp2_with (go_at_call 26; refine (drawRef_any _ _).mono ?_; rintro e w' ⟨rfl, rfl⟩)
  go_ret2
  exact ⟨rfl, rfl⟩
set_option maxHeartbeats 800000 in
theorem divRef_zero (a : Int) (w : World) :
    Calls Try.prog 16 #[.int .i64 a, .int .i64 0] w fun e w' => e = .returned (.tuple #[.int .i64 0, .int .i64 1]) ∧ w = w' := by
  go_enter Try.func16, Try.ntmps16
  go_wp2
  go_ret2
  exact ⟨rfl, rfl⟩
set_option maxHeartbeats 400000 in
theorem divRef_over (a b : Int) (w : World) (h : negB a b = true) :
    Calls Try.prog 16 #[.int .i64 a, .int .i64 b] w fun e w' => e = .returned (.tuple #[.int .i64 0, .int .i64 10]) ∧ w = w' := by
  obtain ⟨h1, h2⟩ := negB_true h
  clear h
  subst h1 h2
  go_enter Try.func16, Try.ntmps16
  go_wp2
  go_ret2
  exact ⟨rfl, rfl⟩
set_option maxHeartbeats 800000 in
theorem divRef_any (a b : Int) (w : World) (h0 : (b == 0) = false) (h : negB a b = false) (ha : -9223372036854775808 ≤ a) (ha' : a ≤ 9223372036854775807) :
    Calls Try.prog 16 #[.int .i64 a, .int .i64 b] w fun e w' => e = .returned (.tuple #[.int .i64 (a.fdiv b), .int .i64 0]) ∧ w = w' := by
  have hb0 : b ≠ 0 := by simpa using h0
  have HT := Lib.hid (tdiv_bd a b ha ha' (negB_false h))
  have HA := Lib.hid (And.intro (And.intro ha ha') (negB_false h))
  have hn : (a == -9223372036854775808) = false ∨ (b == -1) = false := by
    have := negB_false h
    by_cases x : a = -9223372036854775808
    · right; simp; omega
    · left; simp; omega
  clear ha ha' h
  rcases hn with hn | hn
  · go_enter Try.func16, Try.ntmps16
    go_wp2
    · have hm : (a.tmod b != 0) = false := by simp [show a.tmod b = 0 by assumption]
      have hc := div_keep a b hb0 (.inl hm)
      go_ret2
      exact ⟨ret_int2 (by rw [← hc]; exact wrap64_in _ HT.out) rfl, rfl⟩
    · have hc := div_less a b hb0 (by assumption)
      have hf := fdiv_bd a b HA.out
      go_ret2
      exact ⟨ret_int2 (by rw [wrap64_in _ HT.out, hc]; exact wrap64_in _ hf) rfl, rfl⟩
    · have hc := div_keep a b hb0 (by assumption)
      go_ret2
      exact ⟨ret_int2 (by rw [← hc]; exact wrap64_in _ HT.out) rfl, rfl⟩
  · by_cases hx : (a == -9223372036854775808) = true
    · go_enter Try.func16, Try.ntmps16
      go_wp2
      · have hm : (a.tmod b != 0) = false := by simp [show a.tmod b = 0 by assumption]
        have hc := div_keep a b hb0 (.inl hm)
        go_ret2
        exact ⟨ret_int2 (by rw [← hc]; exact wrap64_in _ HT.out) rfl, rfl⟩
      · have hc := div_less a b hb0 (by assumption)
        have hf := fdiv_bd a b HA.out
        go_ret2
        exact ⟨ret_int2 (by rw [wrap64_in _ HT.out, hc]; exact wrap64_in _ hf) rfl, rfl⟩
      · have hc := div_keep a b hb0 (by assumption)
        go_ret2
        exact ⟨ret_int2 (by rw [← hc]; exact wrap64_in _ HT.out) rfl, rfl⟩
    · have hx : (a == -9223372036854775808) = false := by simpa using hx
      go_enter Try.func16, Try.ntmps16
      go_wp2
      · have hm : (a.tmod b != 0) = false := by simp [show a.tmod b = 0 by assumption]
        have hc := div_keep a b hb0 (.inl hm)
        go_ret2
        exact ⟨ret_int2 (by rw [← hc]; exact wrap64_in _ HT.out) rfl, rfl⟩
      · have hc := div_less a b hb0 (by assumption)
        have hf := fdiv_bd a b HA.out
        go_ret2
        exact ⟨ret_int2 (by rw [wrap64_in _ HT.out, hc]; exact wrap64_in _ hf) rfl, rfl⟩
      · have hc := div_keep a b hb0 (by assumption)
        go_ret2
        exact ⟨ret_int2 (by rw [← hc]; exact wrap64_in _ HT.out) rfl, rfl⟩
set_option maxHeartbeats 400000 in
theorem mulRef_zero (a b : Int) (w : World) (h : a = 0 ∨ b = 0) :
    Calls Try.prog 14 #[.int .i64 a, .int .i64 b] w fun e w' => e = .returned (.tuple #[.int .i64 0, .int .i64 0]) ∧ w = w' := by
  rcases h with rfl | rfl
  all_goals go_enter Try.func14, Try.ntmps14
  all_goals go_wp2
  all_goals go_ret2
  all_goals exact ⟨rfl, rfl⟩
set_option maxHeartbeats 400000 in
theorem mulRef_neg (a b : Int) (w : World) (h : negB a b = true ∨ negB b a = true) :
    Calls Try.prog 14 #[.int .i64 a, .int .i64 b] w fun e w' => e = .returned (.tuple #[.int .i64 0, .int .i64 10]) ∧ w = w' := by
  rcases h with h | h
  all_goals obtain ⟨h1, h2⟩ := negB_true h
  all_goals clear h
  all_goals subst h1 h2
  all_goals go_enter Try.func14, Try.ntmps14
  all_goals go_wp2
  all_goals go_ret2
  all_goals exact ⟨rfl, rfl⟩
set_option maxHeartbeats 400000 in
theorem mulRef_minus (b : Int) (w : World) (hb : ¬ b = 0) (hf : -9223372036854775808 ≤ -b) (hf' : -b ≤ 9223372036854775807) :
    Calls Try.prog 14 #[.int .i64 (-1), .int .i64 b] w fun e w' => e = .returned (.tuple #[.int .i64 (-b), .int .i64 0]) ∧ w = w' := by
  by_cases b1 : b = -1
  · subst b1
    go_enter Try.func14, Try.ntmps14
    go_wp2
    go_ret2
    exact ⟨rfl, rfl⟩
  · have z1 : (b == -9223372036854775808) = false := by simp; omega
    have z2 : (b == -1) = false := by simp; omega
    have z3 : (b == 0) = false := by simp; omega
    have f1 : wrap64 (-b) = -b := wrap64_in _ ⟨hf, hf'⟩
    have f2 : (-b).tdiv b = -1 := by rw [Int.neg_tdiv, Int.tdiv_self hb]
    have f3 : wrap64 (-1) = -1 := wrap64_in _ ⟨by decide, by decide⟩
    go_enter Try.func14, Try.ntmps14
    go_wp2
    go_ret2
    exact ⟨ret_int2 (by first | rfl | exact f1) rfl, rfl⟩
set_option maxHeartbeats 400000 in
theorem mulRef_minus' (a : Int) (w : World) (ha : ¬ a = 0) (h1 : ¬ a = -1) (hf : -9223372036854775808 ≤ -a) (hf' : -a ≤ 9223372036854775807) (hl : -9223372036854775808 ≤ a) (hl' : a ≤ 9223372036854775807) :
    Calls Try.prog 14 #[.int .i64 a, .int .i64 (-1)] w fun e w' => e = .returned (.tuple #[.int .i64 (-a), .int .i64 0]) ∧ w = w' := by
  have z1 : (a == -9223372036854775808) = false := by simp; omega
  have z2 : (a == -1) = false := by simp; omega
  have z3 : (a == 0) = false := by simp; omega
  have f1 : wrap64 (-a) = -a := wrap64_in _ ⟨hf, hf'⟩
  have f2 : wrap64 a = a := wrap64_in _ ⟨hl, hl'⟩
  have f3 : (wrap64 (-wrap64 (-a)) != a) = false := by rw [f1, Int.neg_neg, f2]; simp
  go_enter Try.func14, Try.ntmps14
  go_wp2
  go_ret2
  exact ⟨ret_int2 (by first | rfl | exact f1) rfl, rfl⟩
set_option maxHeartbeats 400000 in
theorem mulRef_fit (a b : Int) (w : World) (h0 : ¬ (a = 0 ∨ b = 0)) (ha : -9223372036854775808 ≤ a) (ha' : a ≤ 9223372036854775807) (hf : -9223372036854775808 ≤ a * b) (hf' : a * b ≤ 9223372036854775807) :
    Calls Try.prog 14 #[.int .i64 a, .int .i64 b] w fun e w' => e = .returned (.tuple #[.int .i64 (a * b), .int .i64 0]) ∧ w = w' := by
  by_cases a1 : a = -1
  · subst a1
    rw [Int.neg_mul, Int.one_mul] at hf hf' ⊢
    exact mulRef_minus b w (fun e => h0 (.inr e)) hf hf'
  by_cases b1 : b = -1
  · subst b1
    rw [Int.mul_neg, Int.mul_one] at hf hf' ⊢
    exact mulRef_minus' a w (fun e => h0 (.inl e)) a1 hf hf' ha ha'
  have hb : ¬ b = 0 := fun e => h0 (.inr e)
  have hk : (a * b).tdiv b = a := mul_back a b hb
  have hw : wrap64 a = a := wrap64_in _ ⟨ha, ha'⟩
  have z1 : (a == 0) = false := by simp; omega
  have z2 : (b == 0) = false := by simp; omega
  have z3 : (a == -1) = false := by simp; omega
  have z4 : (b == -1) = false := by simp; omega
  clear h0
  go_enter Try.func14, Try.ntmps14
  go_wp2
  go_ret2
  exact ⟨ret_int2 (by first | rfl | simp) rfl, rfl⟩
set_option maxHeartbeats 1000000 in
theorem mulRef_over (a b : Int) (w : World) (hn : ¬ (negB a b = true ∨ negB b a = true)) (ha : -9223372036854775808 ≤ a) (ha' : a ≤ 9223372036854775807) (hb : -9223372036854775808 ≤ b) (hb' : b ≤ 9223372036854775807) (hf : ¬ (-9223372036854775808 ≤ a * b ∧ a * b ≤ 9223372036854775807)) :
    Calls Try.prog 14 #[.int .i64 a, .int .i64 b] w fun e w' => e = .returned (.tuple #[.int .i64 0, .int .i64 10]) ∧ w = w' := by
  have hb0 : ¬ b = 0 := by rintro rfl; apply hf; simp
  have ha0 : ¬ a = 0 := by rintro rfl; apply hf; simp
  have h1 : negB a b = false := by cases e : negB a b <;> simp_all
  have h2 : negB b a = false := by cases e : negB b a <;> simp_all
  have a1 : ¬ a = -1 := by
    rintro rfl
    have := negB_false h2
    rw [Int.neg_mul, Int.one_mul] at hf
    omega
  have b1 : ¬ b = -1 := by
    rintro rfl
    have := negB_false h1
    rw [Int.mul_neg, Int.mul_one] at hf
    omega
  have hx := mul_over_back a b hb0 hb hb' (negB_false h1) hf
  have hx' : (wrap64 ((wrap64 (a * b)).tdiv b) != a) = true := by simp [hx]
  have z1 : (a == 0) = false := by simp; omega
  have z2 : (b == 0) = false := by simp; omega
  have z3 : (a == -1) = false := by simp; omega
  have z4 : (b == -1) = false := by simp; omega
  clear hx hf hn h1 h2
  go_enter Try.func14, Try.ntmps14
  go_wp2
  go_ret2
  exact ⟨rfl, rfl⟩
set_option maxHeartbeats 400000 in
theorem isqrtRef_any (N : Nat) (w : World) (h0 : 1 ≤ N) (h : N ≤ 9223372036854775807) :
    Calls Try.prog 12 #[.int .i64 (N : Int)] w fun e w' => e = .returned (.int .i64 (rootN N)) ∧ w = w' := by
  go_enter Try.func12, Try.ntmps12
  go_wp2
  go_loop [3, 4] (fun l u => ∃ x y : Nat, x ≤ y ∧ y ≤ 3037000499 ∧ x * x ≤ N ∧ N < (y + 1) * (y + 1) ∧ l = .int .i64 (x : Int) ∧ u = .int .i64 (y : Int)) (fun l u => (intOf u - intOf l).toNat)
  case atStart => exact ⟨0, 3037000499, by omega, by omega, by omega, by omega, rfl, rfl⟩
  case round =>
    obtain ⟨x, y, hxy, hy, hx2, hy2, rfl, rfl⟩ := hrel
    have HX := Lib.hid hx2
    have HY := Lib.hid hy2
    clear hx2 hy2
    by_cases hlt : x < y
    · obtain ⟨m, hm⟩ : ∃ m, m = (x + y + 1) / 2 := ⟨_, rfl⟩
      have hme : ((x : Int) + (y : Int) + 1) / 2 = (m : Int) := by omega
      have m1 : x < m := by omega
      have m2 : m ≤ y := by omega
      have HM := Lib.hid hm
      clear hm
      have hp : m * m ≤ 3037000499 * 3037000499 := Nat.mul_le_mul (by omega) (by omega)
      have hq : (m : Int) * (m : Int) = ((m * m : Nat) : Int) := by simp
      obtain ⟨p, hpe⟩ : ∃ p, p = m * m := ⟨_, rfl⟩
      rw [← hpe] at hp hq
      have HP := Lib.hid hpe
      clear hpe
      by_cases hc : p ≤ N
      · go_wp2
        go_round
        case rel => exact ⟨m, y, m2, hy, by rw [← HP.out]; exact hc, HY.out, by rw [hme], rfl⟩
        case measure => simp [intOf]; omega
      · go_wp2
        go_round
        case rel => exact ⟨x, m - 1, by omega, by omega, HX.out, by rw [Nat.sub_add_cancel (by omega), ← HP.out]; omega, rfl, by congr 1; omega⟩
        case measure => simp [intOf]; omega
    · have hr : x = rootN N := rootN_is N x HX.out (by have e : x = y := (by omega); have := HY.out; rw [← e] at this; exact this)
      have HR := Lib.hid hr
      clear hr
      go_wp2
      go_ret
      exact ⟨ret_int (by rw [HR.out]), rfl⟩
set_option maxHeartbeats 400000 in
theorem hashRef_any (s : ByteArray) (w : World) (hs : s.size ≤ maxLen) :
    Calls Try.prog 24 #[.string s] w fun e w' => e = .returned (.int .i64 (hAt s s.size / 4096)) ∧ w = w' := by
  unfold maxLen at hs
  go_enter Try.func24, Try.ntmps24
  go_wp2
  go_loop [3, 4] (fun h i => ∃ k : Nat, k ≤ s.size ∧ i = .int .i64 k ∧ h = .int .u64 (hAt s k)) (fun _ i => s.size - (intOf i).toNat)
  case atStart => exact ⟨0, Nat.zero_le _, rfl, rfl⟩
  case round =>
    obtain ⟨k, hk, rfl, rfl⟩ := hrel
    obtain ⟨h0, h1⟩ := hAt_bd s k
    by_cases hlt : k < s.size
    · have hb : IntKind.u64.wrap ((s[k]'hlt).toNat : Int) = (byN s k : Int) := by rw [byN_get s k hlt]; have := byN_lt s k; exact IntWalk.u64_in _ (by omega)
      have HB := Lib.hid hb
      clear hb
      go_wp2
      go_round
      case rel => exact ⟨k + 1, by omega, by go_num, by rw [HB.out]; rfl⟩
      case measure => simp [intOf]; omega
    · obtain rfl : k = s.size := by omega
      go_wp2
      go_ret
      exact ⟨rfl, rfl⟩
set_option maxHeartbeats 400000 in
theorem unfixRef_wrong (s : ByteArray) (w : World) (h : s.size < 1 ∨ 8 < s.size) (hs : s.size ≤ maxLen) :
    Calls Try.prog 20 #[.string s] w fun e w' => e = .returned (.tuple #[.int .u64 0, .int .i64 11]) ∧ w = w' := by
  unfold maxLen at hs
  go_enter Try.func20, Try.ntmps20
  go_wp2
  all_goals go_ret2
  all_goals exact ⟨rfl, rfl⟩
theorem unfL_le7 (l : List UInt8) (h : l.length ≤ 7) : unfL l ≤ 72057594037927935 := by
  have h1 := unfL_lt l
  have h2 : 256 ^ l.length ≤ 256 ^ 7 := Nat.pow_le_pow_right (by decide) h
  have h3 : (256 : Nat) ^ 7 = 72057594037927936 := by decide
  omega
set_option maxHeartbeats 400000 in
theorem unfixRef_any (s : ByteArray) (w : World) (h : 1 ≤ s.size) (h' : s.size ≤ 8) :
    Calls Try.prog 20 #[.string s] w fun e w' => e = .returned (.tuple #[.int .u64 (unfL s.data.toList), .int .i64 0]) ∧ w = w' := by
  go_enter Try.func20, Try.ntmps20
  go_wp2
  go_loop [4, 5] (fun c i => ∃ j : Nat, j ≤ s.size ∧ i = .int .i64 ((j : Int) - 1) ∧ c = .int .u64 (unfL (s.data.toList.drop j))) (fun _ i => (intOf i + 1).toNat)
  case atStart => exact ⟨s.size, Nat.le_refl _, rfl, by rw [List.drop_of_length_le (by simp)]; rfl⟩
  case round =>
    obtain ⟨j, hj, rfl, rfl⟩ := hrel
    match j, hj with
    | 0, hj =>
      go_wp2
      go_ret2
      exact ⟨rfl, rfl⟩
    | k + 1, hj =>
      have ek : ((k + 1 : Nat) : Int) - 1 = (k : Int) := by omega
      rw [ek]
      have hlt : k < s.size := hj
      have hb : IntKind.u64.wrap ((s[k]'hlt).toNat : Int) = (byN s k : Int) := by rw [byN_get s k hlt]; have := byN_lt s k; exact IntWalk.u64_in _ (by omega)
      have hb2 := byN_lt s k
      have hu := unfL_le7 (s.data.toList.drop (k + 1)) (by simp; omega)
      have hd : unfL (s.data.toList.drop k) = byN s k + 256 * unfL (s.data.toList.drop (k + 1)) := by
        have e : s.data.toList.drop k = s[k] :: s.data.toList.drop (k + 1) := by
          rw [List.drop_eq_getElem_cons (by simpa using hlt)]; rfl
        have e2 : (s[k]'hlt).toNat = byN s k := by unfold byN; rw [dif_pos hlt]
        rw [e]; simp only [unfL, e2]
      have HD := Lib.hid hd
      clear hd ek
      go_wp2
      go_round
      case rel => exact ⟨k, by omega, by first | rfl | go_num, by rw [HD.out]; congr 1; omega⟩
      case measure => simp [intOf]
theorem step_odd (y : Nat) (h : y < 4294967296) (e : y % 2 = 1) : bits .xor .u32 ((y : Int) / 2) 3988292384 = (nStep y : Int) := by
  have h3 : (y : Int) / 2 = ((y / 2 : Nat) : Int) := by omega
  have := u32_xor_nat (y / 2) 3988292384 (by omega) (by decide)
  rw [h3]
  unfold nStep
  rw [e, Nat.one_mul]
  exact this
theorem step_even (y : Nat) (e : y % 2 = 0) : (y : Int) / 2 = (nStep y : Int) := by
  unfold nStep
  rw [e, Nat.zero_mul, Nat.xor_zero]
  omega
set_option maxHeartbeats 800000 in
theorem sumRef_any (s : ByteArray) (w : World) (hs : s.size ≤ maxLen) :
    Calls Try.prog 22 #[.string s] w fun e w' => e = .returned (.int .u32 (crcN s)) ∧ w = w' := by
  unfold maxLen at hs
  go_enter Try.func22, Try.ntmps22
  go_wp2
  go_loop [3, 4] (fun c i => ∃ k : Nat, k ≤ s.size ∧ i = .int .i64 k ∧ c = .int .u32 (sumN s k : Int)) (fun _ i => s.size - (intOf i).toNat)
  case atStart => exact ⟨0, Nat.zero_le _, rfl, rfl⟩
  case round =>
    obtain ⟨k, hk, rfl, rfl⟩ := hrel
    have hlt32 := sumN_lt s k
    by_cases hlt : k < s.size
    · have hby := byN_lt s k
      have hb : IntKind.u32.wrap ((s[k]'hlt).toNat : Int) = (byN s k : Int) := by rw [byN_get s k hlt]; exact IntWalk.u32_in _ (by omega)
      obtain ⟨x, hx⟩ : ∃ x, x = sumN s k ^^^ byN s k := ⟨_, rfl⟩
      have hxl : x < 4294967296 := by rw [hx]; exact xor_byte_lt _ _ hlt32 hby
      have e1 : bits .xor .u32 (sumN s k : Int) (byN s k : Int) = (x : Int) := by rw [hx]; exact u32_xor_nat _ _ hlt32 (by omega)
      have e8 : nAt 8 x = sumN s (k + 1) := by rw [hx]; rfl
      have E8 := Lib.hid e8
      clear hx e8
      go_wp2
      go_loop [3, 5] (fun c i => ∃ j : Nat, j ≤ 8 ∧ i = .int .i64 j ∧ c = .int .u32 (nAt j x : Int)) (fun _ i => 8 - (intOf i).toNat)
      case atStart => exact ⟨0, Nat.zero_le _, rfl, rfl⟩
      case round =>
        obtain ⟨j, hj, rfl, rfl⟩ := hrel
        by_cases hj8 : j < 8
        · have hy := nAt_lt j x hxl
          have hsx := Lib.hid (nAt_succ j x)
          obtain ⟨y, hye⟩ : ∃ y, y = nAt j x := ⟨_, rfl⟩
          rw [← hye] at hy hsx ⊢
          clear hye
          by_cases hodd : y % 2 = 1
          · have ho := Lib.hid (step_odd y hy hodd)
            go_wp2
            go_round
            case rel => exact ⟨j + 1, by omega, by go_num, by rw [hsx.out, ho.out]⟩
            case measure => simp [intOf]; omega
          · have ho := Lib.hid (step_even y (by omega))
            go_wp2
            go_round
            case rel => exact ⟨j + 1, by omega, by go_num, by rw [hsx.out, ho.out]⟩
            case measure => simp [intOf]; omega
        · obtain rfl : j = 8 := by omega
          go_wp2
          go_round
          case rel => exact ⟨k + 1, by omega, by go_num, by rw [E8.out]⟩
          case measure => simp [intOf]; omega
    · obtain rfl : k = s.size := by omega
      go_wp2
      go_ret
      exact ⟨ret_int (crc_right s), rfl⟩
theorem fixL_snoc : ∀ k n, fixL (k + 1) n = fixL k n ++ [UInt8.ofNat (n / 256 ^ k % 256)]
  | 0, n => by simp [fixL]
  | k + 1, n => by
    rw [show fixL (k + 1 + 1) n = UInt8.ofNat (n % 256) :: fixL (k + 1) (n / 256) from rfl, fixL_snoc k (n / 256), Nat.div_div_eq_div_mul, Nat.pow_succ, Nat.mul_comm 256]
    rfl
theorem Try.infoU8 : (Try.prog.info? 5).map (fun i => (i.zero, i.size, i.bytes)) = some (some (.int .u8 0), 1, 1) := by kernel_rfl
def u8s (l : List UInt8) : List Value := l.map fun c => Value.int .u8 (c.toNat : Int)
theorem conv_own {w : World} {B : Nat} {v : Value} {l : List UInt8} (h : w.ownsRow B 5 1 v l.length (u8s l)) (hl : 1 ≤ l.length) :
    ∃ g cap, v = .slice (some ⟨g, 0, none⟩) l.length cap ∧ B ≤ g ∧ (convert 44 9 (.slice (some ⟨g, 0, none⟩) l.length cap)).run Try.prog w = .ok (.string ⟨l.toArray⟩) w := by
  obtain ⟨_, h | ⟨g, cap, cur, rfl, hg, hrow, hn, _, hsz, htk⟩⟩ := h
  · omega
  · refine ⟨g, cap, rfl, hg, run_convert_bytes_back (P := Try.prog) w _ _ 5 _ _ l Try.underlying44 Try.underlying5 Try.underlying9 fun j hj => ?_⟩
    have ha : (⟨g, 0, none⟩ : Addr).add j = ⟨g, j, none⟩ := by unfold Addr.add; split <;> simp_all
    rw [ha, cell_of_row _ _ _ _ _ _ hrow]
    have h1 : (cur.toList.take (l.length * 1))[j]? = (u8s l)[j]? := by rw [htk]
    rw [List.getElem?_take_of_lt (by omega)] at h1
    simp [u8s, hj] at h1
    exact h1
set_option maxHeartbeats 400000 in
theorem fixRef_wrong (N : Nat) (k : Int) (w : World) (h : k < 1 ∨ 8 < k) :
    Calls Try.prog 18 #[.int .u64 (N : Int), .int .i64 k] w fun e w' => e = .returned (.tuple #[.string ⟨#[]⟩, .int .i64 11]) ∧ Below w.heap.size w w' := by
  go_enter Try.func18, Try.ntmps18
  go_wp2
  all_goals go_ret2
  all_goals exact ⟨rfl, Below.refl _ _⟩
set_option maxHeartbeats 800000 in
theorem fixRef_any (N K : Nat) (w : World) (h : 1 ≤ K) (h' : K ≤ 8) (hN : N < 18446744073709551616) (R : Value) (hR : Hid (R = if N < 256 ^ K then .tuple #[.string ⟨(fixL K N).toArray⟩, .int .i64 0] else .tuple #[.string ⟨#[]⟩, .int .i64 11])) :
    Calls Try.prog 18 #[.int .u64 (N : Int), .int .i64 (K : Int)] w fun e w' =>
      e = .returned R ∧ Below w.heap.size w w' := by
  obtain ⟨i0, hi, hz0, hz1, hz2⟩ := info_parts Try.infoU8
  go_enter Try.func18, Try.ntmps18
  go_wp2
  go_loopw [0, 6, 7] (fun n v i wr => ∃ k : Nat, k ≤ K ∧ i = .int .i64 k ∧ n = .int .u64 ((N / 256 ^ k : Nat) : Int) ∧ wr.ownsRow w.heap.size 5 1 v k (u8s (fixL k N)) ∧ Below w.heap.size w wr) (fun _ _ i _ => K - (intOf i).toNat)
  case atStart => exact ⟨0, Nat.zero_le _, rfl, by simp, World.ownsRow_nil _ _ _ _, Below.refl _ _⟩
  case round =>
    obtain ⟨k, hk, rfl, rfl, hown, hbel⟩ := hrel
    by_cases hlt : k < K
    · obtain ⟨n, hn⟩ : ∃ n, n = N / 256 ^ k := ⟨_, rfl⟩
      have hn' : n ≤ 18446744073709551615 := by rw [hn]; have := Nat.div_le_self N (256 ^ k); omega
      have hs := Lib.hid hn
      rw [← hn]
      clear hn
      go_wp2_with (at_builtin; refine wpList_append_own _ rfl _ _ 44 rfl w.heap.size 5 i0 (.int .u8 0) 1 1 Try.underlying44 hi hz0 hz1 hz2 rfl (by decide) _ _ _ rfl (hown.alloc _) ⟨wr.heap.size, 0, none⟩ 1 1 [.int .u8 ((n : Int) % 256)] rfl rfl ?c1 ?c2 ?c3 ?c4 ?c5 ?_)
      case c1 =>
        intro j u hj
        match j, hj with
        | 0, hj => simp at hj; subst hj; simp [Addr.add]
      case c2 => intro u hu; simp at hu; subst hu; rfl
      case c3 => unfold maxLen; omega
      case c4 => omega
      case c5 => have := hbel.size; simp; omega
      · intro v' w1 hown' hgrow _
        have ho2 : w1.ownsRow w.heap.size 5 1 v' (k + 1) (u8s (fixL (k + 1) N)) := by
          rw [fixL_snoc, ← hs.out]
          have e : u8s (fixL k N ++ [UInt8.ofNat (n % 256)]) = u8s (fixL k N) ++ [.int .u8 ((n : Int) % 256)] := by
            simp only [u8s, List.map_append, List.map_cons, List.map_nil, UInt8.toNat_ofNat']; congr 3; omega
          rw [e]; exact hown'
        have hb2 : Below w.heap.size w w1 := by
          refine (hbel.alloc hbel.size _).grown hgrow (by have := hbel.size; simp; omega) fun k hk => ?_
          obtain ⟨_, h | ⟨g, cap, cur, rfl, hg, _⟩⟩ := hown
          · rw [h.1] at hk; cases hk
          · simp [Value.ownBlock] at hk; omega
        have HO := Lib.hid ho2
        have HB := Lib.hid hb2
        clear hown' hgrow hown hbel ho2 hb2
        go_wp2
        go_roundw
        case rel => exact ⟨k + 1, by omega, by go_num, by rw [Nat.pow_succ, ← Nat.div_div_eq_div_mul, ← hs.out]; rfl, HO.out, HB.out⟩
        case measure => simp [intOf]; omega
    · obtain rfl : k = K := by omega
      obtain ⟨g, cap, rfl, hg, hcv⟩ := conv_own (l := fixL k N) (by rw [fixL_length]; exact hown) (by rw [fixL_length]; exact h)
      rw [fixL_length] at hcv ⊢
      by_cases hf : N < 256 ^ k
      · have hz : N / 256 ^ k = 0 := Nat.div_eq_of_lt hf
        rw [hz]
        clear hz
        go_wp2
        go_ret2
        exact ⟨by rw [hR.out, if_pos hf]; rfl, hbel⟩
      · have hz : 0 < N / 256 ^ k := Nat.div_pos (by omega) (Nat.pow_pos (by decide))
        have HF := Lib.hid hf
        obtain ⟨n, hn⟩ : ∃ n, n = N / 256 ^ k := ⟨_, rfl⟩
        rw [← hn] at hz ⊢
        clear hn hf
        go_wp2
        go_ret2
        exact ⟨by rw [hR.out, if_neg HF.out]; rfl, hbel⟩
end Go.Proofs.Ytmfedhccmmgjaaa
