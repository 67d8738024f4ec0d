/- What each function of package num does, said of any input: draws, quotients, products, roots, bytes, check sums, hashes. Conditions: those that a number of its type meets by itself. -/
import Derived.Test.YtmkilmglmeohmaaRows
import Derived.Test.YtmkilmglmeohmaaNumPlain
import Derived.Test.YtmkilmglmeohmaaShelf
import Derived.WalkKit
import Derived.WalkSpells
import Derived.WalkLawsBesides
import Derived.Laws.Rows
import Derived.Lib.Hide
import Derived.Lib.BitFns
namespace Go.Proofs.Ytmkilmglmeohmaa
open Go.RowKit

theorem ret_int {k : IntKind} {a b : Int} (h : a = b) : Ending.returned (.int k a) = .returned (.int k b) := by rw [h]
theorem ret_int2 {k l : IntKind} {a b c d : Int} (h : a = b) (h' : c = d) : Ending.returned (.tuple #[.int k a, .int l c]) = .returned (.tuple #[.int k b, .int l d]) := by rw [h, h']

/-! ### draws -/
/-! ### quotients and products -/
def negB (a b : Int) : Bool := decide (a = -9223372036854775808 ∧ b = -1)
theorem negB_true {a b : Int} (h : negB a b = true) : a = -9223372036854775808 ∧ b = -1 := of_decide_eq_true h
theorem negB_false {a b : Int} (h : negB a b = false) : ¬ (a = -9223372036854775808 ∧ b = -1) := of_decide_eq_false h
set_option maxHeartbeats 400000 in
theorem wraps_yes (a b : Int) (w : World) (h : negB a b = true) :
    Calls Try.prog 34 #[.int .i64 a, .int .i64 b] w fun e w' => e = .returned (.bool true) ∧ w = w' := by
  obtain ⟨h1, h2⟩ := negB_true h
  clear h
  subst h1 h2
  go_enter Try.func34, Try.ntmps34
  go_wp2
  go_ret
  exact ⟨rfl, rfl⟩
set_option maxHeartbeats 400000 in
theorem wraps_no (a b : Int) (w : World) (h : negB a b = false) :
    Calls Try.prog 34 #[.int .i64 a, .int .i64 b] w fun e w' => e = .returned (.bool false) ∧ w = w' := by
  have h' := negB_false h
  clear h
  by_cases h1 : a = -9223372036854775808
  · subst h1
    have h2 : (b == -1) = false := by simp; omega
    clear h'
    go_enter Try.func34, Try.ntmps34
    go_wp2
    all_goals go_ret
    all_goals exact ⟨rfl, rfl⟩
  · have h2 : (a == -9223372036854775808) = false := by simp; omega
    clear h' h1
    go_enter Try.func34, Try.ntmps34
    go_wp2
    all_goals go_ret
    all_goals exact ⟨rfl, rfl⟩
theorem div_keep (a b : Int) (hb0 : b ≠ 0)
    (h : (a.tmod b != 0) = false ∨ (!decide (a < 0) == decide (b < 0)) = false) : a.tdiv b = a.fdiv b := by
  by_cases hm : a.tmod b = 0
  · exact (fdiv_same a b hm).symm
  · have hs := fdiv_part a b hb0 hm
    have h' : (a < 0) ↔ (b < 0) := by
      rcases h with h | h
      · simp [hm] at h
      · by_cases x : a < 0 <;> by_cases y : b < 0 <;> simp [x, y] at h ⊢
    rw [if_pos h'] at hs; omega
theorem div_less (a b : Int) (hb0 : b ≠ 0) (h : (a.tmod b != 0) = true ∧ (!decide (a < 0) == decide (b < 0)) = true) : a.tdiv b - 1 = a.fdiv b := by
  have hm : a.tmod b ≠ 0 := by simpa using h.1
  have hs := fdiv_part a b hb0 hm
  have h' : ¬ ((a < 0) ↔ (b < 0)) := by
    have h2 := h.2
    by_cases x : a < 0 <;> by_cases y : b < 0 <;> simp [x, y] at h2 ⊢
  rw [if_neg h'] at hs; omega
theorem wrap64_in (x : Int) (h : -9223372036854775808 ≤ x ∧ x ≤ 9223372036854775807) : wrap64 x = x := by unfold wrap64; omega
theorem fdiv_bd (a b : Int) (h : (-9223372036854775808 ≤ a ∧ a ≤ 9223372036854775807) ∧ ¬ (a = -9223372036854775808 ∧ b = -1)) : -9223372036854775808 ≤ a.fdiv b ∧ a.fdiv b ≤ 9223372036854775807 := by
  have h1 := tdiv_bd a b h.1.1 h.1.2 h.2
  by_cases hb : b = 0
  · subst hb; simp
  by_cases hm : a.tmod b = 0
  · rw [fdiv_same a b hm]; exact h1
  · rw [fdiv_part a b hb hm]
    have h2 := Int.natAbs_tdiv a b
    have h3 : a.natAbs.div b.natAbs ≤ a.natAbs := Nat.div_le_self _ _
    have h4 : b.natAbs ≠ 1 := by
      intro e
      apply hm
      have : b = 1 ∨ b = -1 := by omega
      rcases this with rfl | rfl <;> simp
    have h5 : a.natAbs.div b.natAbs ≤ a.natAbs.div 2 := Nat.div_le_div_left (by omega) (by omega)
    have h6 : a.natAbs.div 2 = a.natAbs / 2 := rfl
    split <;> omega
set_option maxHeartbeats 400000 in
theorem mul_fit (a b : Int) (w : World) (ha : -9223372036854775808 ≤ a) (ha' : a ≤ 9223372036854775807) (hf : -9223372036854775808 ≤ a * b) (hf' : a * b ≤ 9223372036854775807) :
    Calls Try.prog 30 #[.int .i64 a, .int .i64 b] w fun e w' => e = .returned (.tuple #[.int .i64 (a * b), .int .i64 0]) ∧ w = w' := by
  have h : negB a b = false := by
    unfold negB; simp only [decide_eq_false_iff_not]; rintro ⟨rfl, rfl⟩; omega
  by_cases hb : b = 0
  · subst hb
    go_enter Try.func30, Try.ntmps30
    go_wp2_with (go_at_call 34; refine (wraps_no _ _ _ h).mono ?_; rintro e w' ⟨rfl, rfl⟩)
    go_ret2
    exact ⟨ret_int2 (by simp) rfl, rfl⟩
  · have hw : wrap64 a = a := wrap64_in _ ⟨ha, ha'⟩
    go_enter Try.func30, Try.ntmps30
    go_wp2_with (go_at_call 34; refine (wraps_no _ _ _ h).mono ?_; rintro e w' ⟨rfl, rfl⟩)
    go_ret2
    exact ⟨ret_int2 (by first | rfl | simp) rfl, rfl⟩
set_option maxHeartbeats 400000 in
theorem mul_over (a b : Int) (w : World) (hb : -9223372036854775808 ≤ b) (hb' : b ≤ 9223372036854775807) (hf : ¬ (-9223372036854775808 ≤ a * b ∧ a * b ≤ 9223372036854775807)) :
    Calls Try.prog 30 #[.int .i64 a, .int .i64 b] w fun e w' => e = .returned (.tuple #[.int .i64 0, .int .i64 10]) ∧ w = w' := by
  have hb0 : ¬ b = 0 := by rintro rfl; apply hf; simp
  by_cases h : negB a b = true
  · clear hf hb0
    go_enter Try.func30, Try.ntmps30
    go_wp2_with (go_at_call 34; refine (wraps_yes _ _ _ h).mono ?_; rintro e w' ⟨rfl, rfl⟩)
    go_ret2
    exact ⟨rfl, rfl⟩
  · have h : negB a b = false := by simpa using h
    have hx := mul_over_back a b hb0 hb hb' (negB_false h) hf
    have hx' : (wrap64 ((wrap64 (a * b)).tdiv b) != a) = true := by simp [hx]
    clear hx hf
    go_enter Try.func30, Try.ntmps30
    go_wp2_with (go_at_call 34; refine (wraps_no _ _ _ h).mono ?_; rintro e w' ⟨rfl, rfl⟩)
    go_ret2
    exact ⟨rfl, rfl⟩
set_option maxHeartbeats 400000 in
theorem hash_any (s : ByteArray) (w : World) (hs : s.size ≤ maxLen) :
    Calls Try.prog 22 #[.string s] w fun e w' => e = .returned (.int .i64 (hAt s s.size / 4096)) ∧ w = w' := by
  unfold maxLen at hs
  go_enter Try.func22, Try.ntmps22
  go_wp2
  go_loop [3, 7] (fun h i => ∃ k : Nat, k ≤ s.size ∧ i = .int .i64 k ∧ h = .int .u64 (hAt s k)) (fun _ i => s.size - (intOf i).toNat)
  case atStart => exact ⟨0, Nat.zero_le _, rfl, rfl⟩
  case round =>
    obtain ⟨k, hk, rfl, rfl⟩ := hrel
    obtain ⟨h0, h1⟩ := hAt_bd s k
    by_cases hlt : k < s.size
    · have hb : IntKind.u64.wrap ((s[k]'hlt).toNat : Int) = (byN s k : Int) := by rw [byN_get s k hlt]; have := byN_lt s k; exact IntWalk.u64_in _ (by omega)
      have HB := Lib.hid hb
      clear hb
      go_wp2
      go_round
      case rel => exact ⟨k + 1, by omega, by go_num, by rw [HB.out]; rfl⟩
      case measure => simp [intOf]; omega
    · obtain rfl : k = s.size := by omega
      go_wp2
      go_ret
      exact ⟨rfl, rfl⟩

/-! ### the check sum -/
def tabC (k : Nat) : Array Value := Array.ofFn (n := 16) fun i => Value.int .u32 (if i.val < k then cAt (i.val : Int) 4 else 0)
theorem tabC_zero : tabC 0 = #[.int .u32 0, .int .u32 0, .int .u32 0, .int .u32 0, .int .u32 0, .int .u32 0, .int .u32 0, .int .u32 0, .int .u32 0, .int .u32 0, .int .u32 0, .int .u32 0, .int .u32 0, .int .u32 0, .int .u32 0, .int .u32 0] := by rfl
theorem tabC_set (k : Nat) (_ : k < 16) : (tabC k).setIfInBounds k (.int .u32 (cAt (k : Int) 4)) = tabC (k + 1) := by
  unfold tabC
  apply Array.ext_getElem?
  intro i
  rw [Array.getElem?_setIfInBounds, Array.getElem?_ofFn, Array.getElem?_ofFn]
  by_cases e : k = i
  · subst e; simp [*]
  · have h3 : (i < k + 1) = (i < k) := by simp only [eq_iff_iff]; omega
    simp [e, h3]
theorem tabC_size (k : Nat) : (tabC k).size = 16 := by simp [tabC]
theorem tabC_get (k i : Nat) (h : i < 16) : (tabC k)[i]? = some (.int .u32 (if i < k then cAt (i : Int) 4 else 0)) := by simp [tabC, h]
theorem tabC_one (k : Nat) : (tabC k).all (·.oneCell') = true := by
  rw [Array.all_eq_true_iff_forall_mem]; intro x hx; simp [tabC] at hx; obtain ⟨i, rfl⟩ := hx; rfl
theorem bel_setRow {B : Nat} {a w : World} (h : Below B a w) {g : Nat} (hg : B ≤ g) (cs : Array Value) : Below B a (w.setRow g cs) :=
  ⟨h.os, h.tape, h.output, by simpa using h.size, fun k hk => by rw [← h.block k hk]; simp only [World.setRow, Array.getElem?_modify]; rw [if_neg (by omega)]⟩
end Go.Proofs.Ytmkilmglmeohmaa
