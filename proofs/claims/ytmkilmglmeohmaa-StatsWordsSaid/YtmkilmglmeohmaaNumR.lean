/- What the document's own answers for whole numbers are, said of any input. Conditions: none but those that each theorem names. -/
import Derived.Test.YtmkilmglmeohmaaNumB
namespace Go.Proofs.Ytmkilmglmeohmaa
open Go.RowKit

theorem wrap_quo (x c : Int) (hc : 1 ≤ c) : IntKind.u64.wrap ((IntKind.u64.wrap x).tdiv c) = IntKind.u64.wrap x / c :=
  IntWalk.u64_quo _ _ ⟨(u64_bd x).1, (u64_bd x).2, hc⟩
set_option maxHeartbeats 400000 in
theorem mulRef_zero (a b : Int) (w : World) (h : a = 0 ∨ b = 0) :
    Calls Try.prog 25 #[.int .i64 a, .int .i64 b] w fun e w' => e = .returned (.tuple #[.int .i64 0, .int .i64 0]) ∧ w = w' := by
  rcases h with rfl | rfl
  all_goals go_enter Try.func25, Try.ntmps25
  all_goals go_wp2
  all_goals go_ret2
  all_goals exact ⟨rfl, rfl⟩
set_option maxHeartbeats 400000 in
theorem mulRef_neg (a b : Int) (w : World) (h : negB a b = true ∨ negB b a = true) :
    Calls Try.prog 25 #[.int .i64 a, .int .i64 b] w fun e w' => e = .returned (.tuple #[.int .i64 0, .int .i64 10]) ∧ w = w' := by
  rcases h with h | h
  all_goals obtain ⟨h1, h2⟩ := negB_true h
  all_goals clear h
  all_goals subst h1 h2
  all_goals go_enter Try.func25, Try.ntmps25
  all_goals go_wp2
  all_goals go_ret2
  all_goals exact ⟨rfl, rfl⟩
set_option maxHeartbeats 400000 in
theorem mulRef_minus (b : Int) (w : World) (hb : ¬ b = 0) (hf : -9223372036854775808 ≤ -b) (hf' : -b ≤ 9223372036854775807) :
    Calls Try.prog 25 #[.int .i64 (-1), .int .i64 b] w fun e w' => e = .returned (.tuple #[.int .i64 (-b), .int .i64 0]) ∧ w = w' := by
  by_cases b1 : b = -1
  · subst b1
    go_enter Try.func25, Try.ntmps25
    go_wp2
    go_ret2
    exact ⟨rfl, rfl⟩
  · have z1 : (b == -9223372036854775808) = false := by simp; omega
    have z2 : (b == -1) = false := by simp; omega
    have z3 : (b == 0) = false := by simp; omega
    have f1 : wrap64 (-b) = -b := wrap64_in _ ⟨hf, hf'⟩
    have f2 : (-b).tdiv b = -1 := by rw [Int.neg_tdiv, Int.tdiv_self hb]
    have f3 : wrap64 (-1) = -1 := wrap64_in _ ⟨by decide, by decide⟩
    go_enter Try.func25, Try.ntmps25
    go_wp2
    go_ret2
    exact ⟨ret_int2 (by first | rfl | exact f1) rfl, rfl⟩
set_option maxHeartbeats 400000 in
theorem mulRef_minus' (a : Int) (w : World) (ha : ¬ a = 0) (h1 : ¬ a = -1) (hf : -9223372036854775808 ≤ -a) (hf' : -a ≤ 9223372036854775807) (hl : -9223372036854775808 ≤ a) (hl' : a ≤ 9223372036854775807) :
    Calls Try.prog 25 #[.int .i64 a, .int .i64 (-1)] w fun e w' => e = .returned (.tuple #[.int .i64 (-a), .int .i64 0]) ∧ w = w' := by
  have z1 : (a == -9223372036854775808) = false := by simp; omega
  have z2 : (a == -1) = false := by simp; omega
  have z3 : (a == 0) = false := by simp; omega
  have f1 : wrap64 (-a) = -a := wrap64_in _ ⟨hf, hf'⟩
  have f2 : wrap64 a = a := wrap64_in _ ⟨hl, hl'⟩
  have f3 : (wrap64 (-wrap64 (-a)) != a) = false := by rw [f1, Int.neg_neg, f2]; simp
  go_enter Try.func25, Try.ntmps25
  go_wp2
  go_ret2
  exact ⟨ret_int2 (by first | rfl | exact f1) rfl, rfl⟩
set_option maxHeartbeats 400000 in
theorem mulRef_fit (a b : Int) (w : World) (h0 : ¬ (a = 0 ∨ b = 0)) (ha : -9223372036854775808 ≤ a) (ha' : a ≤ 9223372036854775807) (hf : -9223372036854775808 ≤ a * b) (hf' : a * b ≤ 9223372036854775807) :
    Calls Try.prog 25 #[.int .i64 a, .int .i64 b] w fun e w' => e = .returned (.tuple #[.int .i64 (a * b), .int .i64 0]) ∧ w = w' := by
  by_cases a1 : a = -1
  · subst a1
    rw [Int.neg_mul, Int.one_mul] at hf hf' ⊢
    exact mulRef_minus b w (fun e => h0 (.inr e)) hf hf'
  by_cases b1 : b = -1
  · subst b1
    rw [Int.mul_neg, Int.mul_one] at hf hf' ⊢
    exact mulRef_minus' a w (fun e => h0 (.inl e)) a1 hf hf' ha ha'
  have hb : ¬ b = 0 := fun e => h0 (.inr e)
  have hk : (a * b).tdiv b = a := mul_back a b hb
  have hw : wrap64 a = a := wrap64_in _ ⟨ha, ha'⟩
  have z1 : (a == 0) = false := by simp; omega
  have z2 : (b == 0) = false := by simp; omega
  have z3 : (a == -1) = false := by simp; omega
  have z4 : (b == -1) = false := by simp; omega
  clear h0
  go_enter Try.func25, Try.ntmps25
  go_wp2
  go_ret2
  exact ⟨ret_int2 (by first | rfl | simp) rfl, rfl⟩
set_option maxHeartbeats 1000000 in
theorem mulRef_over (a b : Int) (w : World) (hn : ¬ (negB a b = true ∨ negB b a = true)) (ha : -9223372036854775808 ≤ a) (ha' : a ≤ 9223372036854775807) (hb : -9223372036854775808 ≤ b) (hb' : b ≤ 9223372036854775807) (hf : ¬ (-9223372036854775808 ≤ a * b ∧ a * b ≤ 9223372036854775807)) :
    Calls Try.prog 25 #[.int .i64 a, .int .i64 b] w fun e w' => e = .returned (.tuple #[.int .i64 0, .int .i64 10]) ∧ w = w' := by
  have hb0 : ¬ b = 0 := by rintro rfl; apply hf; simp
  have ha0 : ¬ a = 0 := by rintro rfl; apply hf; simp
  have h1 : negB a b = false := by cases e : negB a b <;> simp_all
  have h2 : negB b a = false := by cases e : negB b a <;> simp_all
  have a1 : ¬ a = -1 := by
    rintro rfl
    have := negB_false h2
    rw [Int.neg_mul, Int.one_mul] at hf
    omega
  have b1 : ¬ b = -1 := by
    rintro rfl
    have := negB_false h1
    rw [Int.mul_neg, Int.mul_one] at hf
    omega
  have hx := mul_over_back a b hb0 hb hb' (negB_false h1) hf
  have hx' : (wrap64 ((wrap64 (a * b)).tdiv b) != a) = true := by simp [hx]
  have z1 : (a == 0) = false := by simp; omega
  have z2 : (b == 0) = false := by simp; omega
  have z3 : (a == -1) = false := by simp; omega
  have z4 : (b == -1) = false := by simp; omega
  clear hx hf hn h1 h2
  go_enter Try.func25, Try.ntmps25
  go_wp2
  go_ret2
  exact ⟨rfl, rfl⟩
set_option maxHeartbeats 400000 in
theorem hashRef_any (s : ByteArray) (w : World) (hs : s.size ≤ maxLen) :
    Calls Try.prog 20 #[.string s] w fun e w' => e = .returned (.int .i64 (hAt s s.size / 4096)) ∧ w = w' := by
  unfold maxLen at hs
  go_enter Try.func20, Try.ntmps20
  go_wp2
  go_loop [3, 4] (fun h i => ∃ k : Nat, k ≤ s.size ∧ i = .int .i64 k ∧ h = .int .u64 (hAt s k)) (fun _ i => s.size - (intOf i).toNat)
  case atStart => exact ⟨0, Nat.zero_le _, rfl, rfl⟩
  case round =>
    obtain ⟨k, hk, rfl, rfl⟩ := hrel
    obtain ⟨h0, h1⟩ := hAt_bd s k
    by_cases hlt : k < s.size
    · have hb : IntKind.u64.wrap ((s[k]'hlt).toNat : Int) = (byN s k : Int) := by rw [byN_get s k hlt]; have := byN_lt s k; exact IntWalk.u64_in _ (by omega)
      have HB := Lib.hid hb
      clear hb
      go_wp2
      go_round
      case rel => exact ⟨k + 1, by omega, by go_num, by rw [HB.out]; rfl⟩
      case measure => simp [intOf]; omega
    · obtain rfl : k = s.size := by omega
      go_wp2
      go_ret
      exact ⟨rfl, rfl⟩
theorem unfL_le7 (l : List UInt8) (h : l.length ≤ 7) : unfL l ≤ 72057594037927935 := by
  have h1 := unfL_lt l
  have h2 : 256 ^ l.length ≤ 256 ^ 7 := Nat.pow_le_pow_right (by decide) h
  have h3 : (256 : Nat) ^ 7 = 72057594037927936 := by decide
  omega
theorem step_odd (y : Nat) (h : y < 4294967296) (e : y % 2 = 1) : bits .xor .u32 ((y : Int) / 2) 3988292384 = (nStep y : Int) := by
  have h3 : (y : Int) / 2 = ((y / 2 : Nat) : Int) := by omega
  have := u32_xor_nat (y / 2) 3988292384 (by omega) (by decide)
  rw [h3]
  unfold nStep
  rw [e, Nat.one_mul]
  exact this
theorem step_even (y : Nat) (e : y % 2 = 0) : (y : Int) / 2 = (nStep y : Int) := by
  unfold nStep
  rw [e, Nat.zero_mul, Nat.xor_zero]
  omega
theorem fixL_snoc : ∀ k n, fixL (k + 1) n = fixL k n ++ [UInt8.ofNat (n / 256 ^ k % 256)]
  | 0, n => by simp [fixL]
  | k + 1, n => by
    rw [show fixL (k + 1 + 1) n = UInt8.ofNat (n % 256) :: fixL (k + 1) (n / 256) from rfl, fixL_snoc k (n / 256), Nat.div_div_eq_div_mul, Nat.pow_succ, Nat.mul_comm 256]
    rfl
theorem Try.infoU8 : (Try.prog.info? 5).map (fun i => (i.zero, i.size, i.bytes)) = some (some (.int .u8 0), 1, 1) := by kernel_rfl
def u8s (l : List UInt8) : List Value := l.map fun c => Value.int .u8 (c.toNat : Int)
end Go.Proofs.Ytmkilmglmeohmaa
