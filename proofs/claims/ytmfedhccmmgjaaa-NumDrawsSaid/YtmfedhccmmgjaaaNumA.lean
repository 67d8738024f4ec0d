/- What each function of package num does, said of any input: draws, quotients, products, roots, bytes, check sums, hashes. Conditions: those that a number of its type meets by itself. -/
import Derived.Test.YtmfedhccmmgjaaaRows
import Derived.Test.YtmfedhccmmgjaaaNumPlain
import Derived.Test.YtmfedhccmmgjaaaShelf
import Derived.WalkKit
import Derived.WalkSpells
import Derived.WalkLawsBesides
import Derived.Laws.Rows
import Derived.Lib.Hide
import Derived.Lib.BitFns
namespace Go.Proofs.Ytmfedhccmmgjaaa
open Go.RowKit

theorem ret_int {k : IntKind} {a b : Int} (h : a = b) : Ending.returned (.int k a) = .returned (.int k b) := by rw [h]
theorem ret_int2 {k l : IntKind} {a b c d : Int} (h : a = b) (h' : c = d) : Ending.returned (.tuple #[.int k a, .int l c]) = .returned (.tuple #[.int k b, .int l d]) := by rw [h, h']

/-! ### draws -/
set_option maxHeartbeats 400000 in
theorem draw_any (a : Int) (w : World) :
    Calls Try.prog 25 #[.int .u64 a] w fun e w' => e = .returned (.tuple #[.int .u64 (dZ a), .int .u64 (dN a)]) ∧ w = w' := by
  go_enter Try.func25, Try.ntmps25
  go_wp2
  go_ret2
  exact ⟨rfl, rfl⟩
theorem below_zero (a n : Int) (w : World) (hn : n < 1) :
    Calls Try.prog 27 #[.int .u64 a, .int .i64 n] w fun e w' => e = .returned (.tuple #[.int .i64 0, .int .u64 a]) ∧ w = w' := by
  go_enter Try.func27, Try.ntmps27
  go_wp2
  go_ret2
  exact ⟨rfl, rfl⟩
theorem below_any (a n : Int) (w : World) (hn : 1 ≤ n) (hn' : n ≤ 9223372036854775807) :
    Calls Try.prog 27 #[.int .u64 a, .int .i64 n] w fun e w' => e = .returned (.tuple #[.int .i64 (dZ a % n), .int .u64 (dN a)]) ∧ w = w' := by
  have hz := dZ_bd a
  obtain ⟨hz0, hz1⟩ := hz
  have hm0 := Int.emod_nonneg (dZ a) (by omega : n ≠ 0)
  have hm1 := Int.emod_lt_of_pos (dZ a) (by omega : 0 < n)
  go_enter Try.func27, Try.ntmps27
  go_wp2_with (go_at_call 25; refine (draw_any _ _).mono ?_; rintro e w' ⟨rfl, rfl⟩)
  go_ret2
  exact ⟨rfl, rfl⟩

/-! ### quotients and products -/
def negB (a b : Int) : Bool := decide (a = -9223372036854775808 ∧ b = -1)
theorem negB_true {a b : Int} (h : negB a b = true) : a = -9223372036854775808 ∧ b = -1 := of_decide_eq_true h
theorem negB_false {a b : Int} (h : negB a b = false) : ¬ (a = -9223372036854775808 ∧ b = -1) := of_decide_eq_false h
set_option maxHeartbeats 400000 in
theorem wraps_yes (a b : Int) (w : World) (h : negB a b = true) :
    Calls Try.prog 30 #[.int .i64 a, .int .i64 b] w fun e w' => e = .returned (.bool true) ∧ w = w' := by
  obtain ⟨h1, h2⟩ := negB_true h
  clear h
  subst h1 h2
  go_enter Try.func30, Try.ntmps30
  go_wp2
  go_ret
  exact ⟨rfl, rfl⟩
set_option maxHeartbeats 400000 in
theorem wraps_no (a b : Int) (w : World) (h : negB a b = false) :
    Calls Try.prog 30 #[.int .i64 a, .int .i64 b] w fun e w' => e = .returned (.bool false) ∧ w = w' := by
  have h' := negB_false h
  clear h
  by_cases h1 : a = -9223372036854775808
  · subst h1
    have h2 : (b == -1) = false := by simp; omega
    clear h'
    go_enter Try.func30, Try.ntmps30
    go_wp2
    all_goals go_ret
    all_goals exact ⟨rfl, rfl⟩
  · have h2 : (a == -9223372036854775808) = false := by simp; omega
    clear h' h1
    go_enter Try.func30, Try.ntmps30
    go_wp2
    all_goals go_ret
    all_goals exact ⟨rfl, rfl⟩
set_option maxHeartbeats 400000 in
theorem div_zero (a : Int) (w : World) :
    Calls Try.prog 15 #[.int .i64 a, .int .i64 0] w fun e w' => e = .returned (.tuple #[.int .i64 0, .int .i64 1]) ∧ w = w' := by
  go_enter Try.func15, Try.ntmps15
  go_wp2
  go_ret2
  exact ⟨rfl, rfl⟩
set_option maxHeartbeats 400000 in
theorem div_over (a b : Int) (w : World) (h0 : (b == 0) = false) (h : negB a b = true) :
    Calls Try.prog 15 #[.int .i64 a, .int .i64 b] w fun e w' => e = .returned (.tuple #[.int .i64 0, .int .i64 10]) ∧ w = w' := by
  go_enter Try.func15, Try.ntmps15
  go_wp2_with (go_at_call 30; refine (wraps_yes _ _ _ h).mono ?_; rintro e w' ⟨rfl, rfl⟩)
  go_ret2
  exact ⟨rfl, rfl⟩
theorem div_keep (a b : Int) (hb0 : b ≠ 0)
    (h : (a.tmod b != 0) = false ∨ (!decide (a < 0) == decide (b < 0)) = false) : a.tdiv b = a.fdiv b := by
  by_cases hm : a.tmod b = 0
  · exact (fdiv_same a b hm).symm
  · have hs := fdiv_part a b hb0 hm
    have h' : (a < 0) ↔ (b < 0) := by
      rcases h with h | h
      · simp [hm] at h
      · by_cases x : a < 0 <;> by_cases y : b < 0 <;> simp [x, y] at h ⊢
    rw [if_pos h'] at hs; omega
theorem div_less (a b : Int) (hb0 : b ≠ 0) (h : (a.tmod b != 0) = true ∧ (!decide (a < 0) == decide (b < 0)) = true) : a.tdiv b - 1 = a.fdiv b := by
  have hm : a.tmod b ≠ 0 := by simpa using h.1
  have hs := fdiv_part a b hb0 hm
  have h' : ¬ ((a < 0) ↔ (b < 0)) := by
    have h2 := h.2
    by_cases x : a < 0 <;> by_cases y : b < 0 <;> simp [x, y] at h2 ⊢
  rw [if_neg h'] at hs; omega
theorem wrap64_in (x : Int) (h : -9223372036854775808 ≤ x ∧ x ≤ 9223372036854775807) : wrap64 x = x := by unfold wrap64; omega
theorem fdiv_bd (a b : Int) (h : (-9223372036854775808 ≤ a ∧ a ≤ 9223372036854775807) ∧ ¬ (a = -9223372036854775808 ∧ b = -1)) : -9223372036854775808 ≤ a.fdiv b ∧ a.fdiv b ≤ 9223372036854775807 := by
  have h1 := tdiv_bd a b h.1.1 h.1.2 h.2
  by_cases hb : b = 0
  · subst hb; simp
  by_cases hm : a.tmod b = 0
  · rw [fdiv_same a b hm]; exact h1
  · rw [fdiv_part a b hb hm]
    have h2 := Int.natAbs_tdiv a b
    have h3 : a.natAbs.div b.natAbs ≤ a.natAbs := Nat.div_le_self _ _
    have h4 : b.natAbs ≠ 1 := by
      intro e
      apply hm
      have : b = 1 ∨ b = -1 := by omega
      rcases this with rfl | rfl <;> simp
    have h5 : a.natAbs.div b.natAbs ≤ a.natAbs.div 2 := Nat.div_le_div_left (by omega) (by omega)
    have h6 : a.natAbs.div 2 = a.natAbs / 2 := rfl
    split <;> omega
set_option maxHeartbeats 800000 in
theorem div_any (a b : Int) (w : World) (h0 : (b == 0) = false) (h : negB a b = false) (ha : -9223372036854775808 ≤ a) (ha' : a ≤ 9223372036854775807) :
    Calls Try.prog 15 #[.int .i64 a, .int .i64 b] w fun e w' => e = .returned (.tuple #[.int .i64 (a.fdiv b), .int .i64 0]) ∧ w = w' := by
  have hb0 : b ≠ 0 := by simpa using h0
  have HT := Lib.hid (tdiv_bd a b ha ha' (negB_false h))
  have HA := Lib.hid (And.intro (And.intro ha ha') (negB_false h))
  clear ha ha'
  go_enter Try.func15, Try.ntmps15
  go_wp2_with (go_at_call 30; refine (wraps_no _ _ _ h).mono ?_; rintro e w' ⟨rfl, rfl⟩)
  · have hm : (a.tmod b != 0) = false := by simp [show a.tmod b = 0 by assumption]
    have hc := div_keep a b hb0 (.inl hm)
    go_ret2
    exact ⟨ret_int2 (by rw [← hc]; exact wrap64_in _ HT.out) rfl, rfl⟩
  · have hc := div_less a b hb0 (by assumption)
    have hf := fdiv_bd a b HA.out
    go_ret2
    exact ⟨ret_int2 (by rw [wrap64_in _ HT.out, hc]; exact wrap64_in _ hf) rfl, rfl⟩
  · have hc := div_keep a b hb0 (by assumption)
    go_ret2
    exact ⟨ret_int2 (by rw [← hc]; exact wrap64_in _ HT.out) rfl, rfl⟩
set_option maxHeartbeats 400000 in
theorem isqrt_any (N : Nat) (w : World) (h0 : 1 ≤ N) (h : N ≤ 9223372036854775807) :
    Calls Try.prog 10 #[.int .i64 (N : Int)] w fun e w' => e = .returned (.int .i64 (rootN N)) ∧ w = w' := by
  have hL : Lib.bitLen N ≤ 63 := Lib.bitLen_le N 63 (by omega) (by omega)
  have hst := newton_start N (by omega)
  obtain ⟨L, hLe⟩ : ∃ L, L = Lib.bitLen N := ⟨_, rfl⟩
  have hc : ∀ w : World, Calls Try.prog 29 #[.int .u64 (N : Int)] w fun e w' => e = .returned (.int .i64 (L : Int)) ∧ w' = w := fun w => by rw [hLe]; exact Try.bits_Len (N : Int) w (by omega) (by omega)
  rw [← hLe] at hL hst
  obtain ⟨R, hR⟩ : ∃ R, R = 2 ^ ((L + 1) / 2) := ⟨_, rfl⟩
  have hR1 : 1 ≤ R := by rw [hR]; exact Nat.one_le_two_pow
  have hR2 : R ≤ 4294967296 := by rw [hR]; exact Nat.pow_le_pow_right (n := 2) (by omega) (by omega : (L + 1) / 2 ≤ 32)
  have hs : wrap64 ((2 : Int) ^ ((L + 1) / 2)) = (R : Int) := by
    have : (2 : Int) ^ ((L + 1) / 2) = (R : Int) := by rw [hR]; simp
    rw [this]; exact wrap64_in _ (by omega)
  rw [← hR] at hst
  have hab : N < (R + 1) * (R + 1) := Nat.lt_of_lt_of_le hst (Nat.mul_le_mul (by omega) (by omega))
  have hq : N / R ≤ R + 2 := newton_quot N R hR1 hab
  have hq' : (N : Int) / (R : Int) ≤ R + 2 := by rw [← Int.natCast_ediv]; omega
  have hq0 : 0 ≤ (N : Int) / (R : Int) := Int.ediv_nonneg (by omega) (by omega)
  have HAB := Lib.hid hab
  clear hLe hst hR hab hq
  go_enter Try.func10, Try.ntmps10
  go_wp2_with (go_at_call 29; refine (hc _).mono ?_; rintro e w' ⟨rfl, rfl⟩)
  go_loop [3, 4] (fun r x => ∃ r' : Nat, 1 ≤ r' ∧ r' ≤ 4294967296 ∧ N < (r' + 1) * (r' + 1) ∧ r = .int .i64 (r' : Int) ∧ x = .int .i64 (((r' : Int) + (N : Int) / (r' : Int)) / 2)) (fun r _ => (intOf r).toNat)
  case atStart => exact ⟨R, hR1, hR2, HAB.out, by rw [hs], by first | rfl | (simp only [hs]; done)⟩
  case round =>
    obtain ⟨r, hr1, hr2, hr3, rfl, rfl⟩ := hrel
    have HR3 := Lib.hid hr3
    obtain ⟨x, hx⟩ : ∃ x, x = (r + N / r) / 2 := ⟨_, rfl⟩
    have hxe : ((r : Int) + (N : Int) / (r : Int)) / 2 = (x : Int) := by rw [hx, Int.natCast_ediv, Int.natCast_add, Int.natCast_ediv]; rfl
    have hx1 : 1 ≤ x := by rw [hx]; exact newton_pos N r h0 hr1
    have hx3 : N < (x + 1) * (x + 1) := by rw [hx]; exact newton_above N r hr1
    have HX := Lib.hid hx
    have HX3 := Lib.hid hx3
    have xq : N / x ≤ x + 2 := newton_quot N x hx1 hx3
    have xq' : (N : Int) / (x : Int) ≤ x + 2 := by rw [← Int.natCast_ediv]; omega
    have xq0 : 0 ≤ (N : Int) / (x : Int) := Int.ediv_nonneg (by omega) (by omega)
    rw [hxe]
    clear hxe hx hx3 hr3 xq
    by_cases hlt : x < r
    · go_wp2
      go_round
      case rel => exact ⟨x, hx1, by omega, HX3.out, rfl, rfl⟩
      case measure => simp [intOf]; omega
    · go_wp2
      go_ret
      have : r = rootN N := rootN_is N r (newton_stands N r hr1 (by rw [← HX.out]; omega)) HR3.out
      exact ⟨ret_int (by rw [← this]), rfl⟩
set_option maxHeartbeats 400000 in
theorem mul_fit (a b : Int) (w : World) (ha : -9223372036854775808 ≤ a) (ha' : a ≤ 9223372036854775807) (hf : -9223372036854775808 ≤ a * b) (hf' : a * b ≤ 9223372036854775807) :
    Calls Try.prog 13 #[.int .i64 a, .int .i64 b] w fun e w' => e = .returned (.tuple #[.int .i64 (a * b), .int .i64 0]) ∧ w = w' := by
  have h : negB a b = false := by
    unfold negB; simp only [decide_eq_false_iff_not]; rintro ⟨rfl, rfl⟩; omega
  by_cases hb : b = 0
  · subst hb
    go_enter Try.func13, Try.ntmps13
    go_wp2_with (go_at_call 30; refine (wraps_no _ _ _ h).mono ?_; rintro e w' ⟨rfl, rfl⟩)
    go_ret2
    exact ⟨ret_int2 (by simp) rfl, rfl⟩
  · have hw : wrap64 a = a := wrap64_in _ ⟨ha, ha'⟩
    go_enter Try.func13, Try.ntmps13
    go_wp2_with (go_at_call 30; refine (wraps_no _ _ _ h).mono ?_; rintro e w' ⟨rfl, rfl⟩)
    go_ret2
    exact ⟨ret_int2 (by first | rfl | simp) rfl, rfl⟩
set_option maxHeartbeats 400000 in
theorem mul_over (a b : Int) (w : World) (hb : -9223372036854775808 ≤ b) (hb' : b ≤ 9223372036854775807) (hf : ¬ (-9223372036854775808 ≤ a * b ∧ a * b ≤ 9223372036854775807)) :
    Calls Try.prog 13 #[.int .i64 a, .int .i64 b] w fun e w' => e = .returned (.tuple #[.int .i64 0, .int .i64 10]) ∧ w = w' := by
  have hb0 : ¬ b = 0 := by rintro rfl; apply hf; simp
  by_cases h : negB a b = true
  · clear hf hb0
    go_enter Try.func13, Try.ntmps13
    go_wp2_with (go_at_call 30; refine (wraps_yes _ _ _ h).mono ?_; rintro e w' ⟨rfl, rfl⟩)
    go_ret2
    exact ⟨rfl, rfl⟩
  · have h : negB a b = false := by simpa using h
    have hx := mul_over_back a b hb0 hb hb' (negB_false h) hf
    have hx' : (wrap64 ((wrap64 (a * b)).tdiv b) != a) = true := by simp [hx]
    clear hx hf
    go_enter Try.func13, Try.ntmps13
    go_wp2_with (go_at_call 30; refine (wraps_no _ _ _ h).mono ?_; rintro e w' ⟨rfl, rfl⟩)
    go_ret2
    exact ⟨rfl, rfl⟩
set_option maxHeartbeats 400000 in
theorem hash_any (s : ByteArray) (w : World) (hs : s.size ≤ maxLen) :
    Calls Try.prog 23 #[.string s] w fun e w' => e = .returned (.int .i64 (hAt s s.size / 4096)) ∧ w = w' := by
  unfold maxLen at hs
  go_enter Try.func23, Try.ntmps23
  go_wp2
  go_loop [3, 7] (fun h i => ∃ k : Nat, k ≤ s.size ∧ i = .int .i64 k ∧ h = .int .u64 (hAt s k)) (fun _ i => s.size - (intOf i).toNat)
  case atStart => exact ⟨0, Nat.zero_le _, rfl, rfl⟩
  case round =>
    obtain ⟨k, hk, rfl, rfl⟩ := hrel
    obtain ⟨h0, h1⟩ := hAt_bd s k
    by_cases hlt : k < s.size
    · have hb : IntKind.u64.wrap ((s[k]'hlt).toNat : Int) = (byN s k : Int) := by rw [byN_get s k hlt]; have := byN_lt s k; exact IntWalk.u64_in _ (by omega)
      have HB := Lib.hid hb
      clear hb
      go_wp2
      go_round
      case rel => exact ⟨k + 1, by omega, by go_num, by rw [HB.out]; rfl⟩
      case measure => simp [intOf]; omega
    · obtain rfl : k = s.size := by omega
      go_wp2
      go_ret
      exact ⟨rfl, rfl⟩

/-! ### the check sum -/
def tabC (k : Nat) : Array Value := Array.ofFn (n := 16) fun i => Value.int .u32 (if i.val < k then cAt (i.val : Int) 4 else 0)
theorem tabC_zero : tabC 0 = #[.int .u32 0, .int .u32 0, .int .u32 0, .int .u32 0, .int .u32 0, .int .u32 0, .int .u32 0, .int .u32 0, .int .u32 0, .int .u32 0, .int .u32 0, .int .u32 0, .int .u32 0, .int .u32 0, .int .u32 0, .int .u32 0] := by rfl
theorem tabC_set (k : Nat) (_ : k < 16) : (tabC k).setIfInBounds k (.int .u32 (cAt (k : Int) 4)) = tabC (k + 1) := by
  unfold tabC
  apply Array.ext_getElem?
  intro i
  rw [Array.getElem?_setIfInBounds, Array.getElem?_ofFn, Array.getElem?_ofFn]
  by_cases e : k = i
  · subst e; simp [*]
  · have h3 : (i < k + 1) = (i < k) := by simp only [eq_iff_iff]; omega
    simp [e, h3]
theorem tabC_size (k : Nat) : (tabC k).size = 16 := by simp [tabC]
theorem tabC_get (k i : Nat) (h : i < 16) : (tabC k)[i]? = some (.int .u32 (if i < k then cAt (i : Int) 4 else 0)) := by simp [tabC, h]
theorem tabC_one (k : Nat) : (tabC k).all (·.oneCell') = true := by
  rw [Array.all_eq_true_iff_forall_mem]; intro x hx; simp [tabC] at hx; obtain ⟨i, rfl⟩ := hx; rfl
theorem bel_setRow {B : Nat} {a w : World} (h : Below B a w) {g : Nat} (hg : B ≤ g) (cs : Array Value) : Below B a (w.setRow g cs) :=
  ⟨h.os, h.tape, h.output, by simpa using h.size, fun k hk => by rw [← h.block k hk]; simp only [World.setRow, Array.getElem?_modify]; rw [if_neg (by omega)]⟩
set_option maxHeartbeats 400000 in
theorem tab_any (w : World) :
    Calls Try.prog 31 #[] w fun e w' => e = .returned (.agg (tabC 16)) ∧ Below w.heap.size w w' := by
  go_enter Try.func31, Try.ntmps31
  go_wp2
  go_loopw [5] (fun i wr => ∃ k : Nat, k ≤ 16 ∧ i = .int .i64 k ∧ wr.heap[w.heap.size + 1]? = some (.cells (tabC k) 55 (0, 0)) ∧ wr.heap[w.heap.size]? = some (.cells (tabC 0) 55 (0, 0)) ∧ Below w.heap.size w wr) (fun i _ => 16 - (intOf i).toNat)
  case atStart => exact ⟨0, by omega, rfl, by rw [tabC_zero]; exact heap_alloc2_new _ _ _, by rw [tabC_zero]; exact heap_alloc2_old _ _ _, (((Below.refl _ _).alloc (Nat.le_refl _) _).alloc (by simp) _)⟩
  case round =>
    obtain ⟨k, hk, rfl, hrow, hcs, hbel⟩ := hrel
    by_cases hlt : k < 16
    · have hcell : wr.cell? ⟨w.heap.size + 1, k, none⟩ = some (.int .u32 (if k < k then cAt (k : Int) 4 else 0)) := by rw [cell_of_row _ _ _ _ _ _ hrow, tabC_get _ _ hlt]
      have hfz : wr.frozen? ⟨w.heap.size + 1, k, none⟩ = false := frozen_of_row _ _ _ _ _ hrow
      have HR := Lib.hid hrow
      have HC := Lib.hid hcs
      clear hrow hcs
      obtain ⟨wo, rfl⟩ : ∃ wo : World, wo = wr := ⟨_, rfl⟩
      go_wp2
      go_loop [3, 10] (fun c j => ∃ i : Nat, i ≤ 4 ∧ j = .int .i64 i ∧ c = .int .u32 (cAt (k : Int) i)) (fun _ j => 4 - (intOf j).toNat)
      case atStart => exact ⟨0, by omega, rfl, rfl⟩
      case round =>
        obtain ⟨i, hi, rfl, rfl⟩ := hrel
        by_cases hi4 : i < 4
        · go_wp2
          go_round
          case rel => exact ⟨i + 1, by omega, by go_num, rfl⟩
          case measure => simp [intOf]; omega
        · obtain rfl : i = 4 := by omega
          go_wp2
          go_roundw
          case rel => exact ⟨k + 1, by omega, by go_num, by rw [heap_setCell_same _ _ _ _ _ _ HR.out, tabC_set _ hlt], by rw [heap_setCell_other _ _ _ _ (by simp)]; exact HC.out, hbel.setCell (by simp) _⟩
          case measure => simp [intOf]; omega
    · obtain rfl : k = 16 := by omega
      have HR := Lib.hid hrow
      have HC := Lib.hid hcs
      clear hrow hcs
      go_wp2_with (first
        | (refine wpList_load_row rfl 55 _ rfl _ rfl _ _ _ _ HR.out Try.underlying55 rfl (by kernel_rfl) ?_)
        | (refine wpList_store_row rfl 55 _ _ rfl _ _ rfl rfl _ _ HC.out (by kernel_rfl) (by rw [tabC_size, tabC_size]) (tabC_one _) ?_))
      exact bodyPost_ret (results_cell_row rfl _ _ w.heap.size 55 (tabC 16) (0, 0) _ rfl (setRow_heap _ _ _ _ _ _ HC.out) Try.underlying55 rfl (by kernel_rfl)) rfl ⟨rfl, bel_setRow hbel (Nat.le_refl _) _⟩
set_option maxHeartbeats 800000 in
theorem sum_any (s : ByteArray) (w : World) (hs : s.size ≤ maxLen) :
    Calls Try.prog 21 #[.string s] w fun e w' => e = .returned (.int .u32 (crcN s)) ∧ Below w.heap.size w w' := by
  unfold maxLen at hs
  go_enter Try.func21, Try.ntmps21
  go_wp2_with (first
    | (go_at_call 31; refine (tab_any _).mono ?_; rintro e w1 ⟨rfl, hb1⟩)
    | (refine wpList_store_row rfl 55 _ _ rfl _ _ rfl rfl _ _ (heap_alloc_new _ _) (by kernel_rfl) (by rw [tabC_size]; rfl) (tabC_one _) ?_))
  generalize hW : World.setRow _ _ _ = W
  have hrow : W.heap[w1.heap.size]? = some (.cells (tabC 16) 55 (0, 0)) := by rw [← hW]; exact setRow_heap _ _ _ _ _ _ (heap_alloc_new _ _)
  have hbel : Below w.heap.size w W := by rw [← hW]; exact bel_setRow (hb1.alloc hb1.size _) hb1.size _
  have HBEL := Lib.hid hbel
  have HROW := Lib.hid hrow
  clear hW hb1 hbel hrow
  go_loop [4, 9] (fun c i => ∃ k : Nat, k ≤ s.size ∧ i = .int .i64 k ∧ c = .int .u32 (sumN s k : Int)) (fun _ i => s.size - (intOf i).toNat)
  case atStart => exact ⟨0, Nat.zero_le _, rfl, rfl⟩
  case round =>
    obtain ⟨k, hk, rfl, rfl⟩ := hrel
    have hlt32 := sumN_lt s k
    by_cases hlt : k < s.size
    · have hby := byN_lt s k
      have hb : IntKind.u32.wrap ((s[k]'hlt).toNat : Int) = (byN s k : Int) := by rw [byN_get s k hlt]; exact IntWalk.u32_in _ (by omega)
      obtain ⟨x, hx⟩ : ∃ x, x = sumN s k ^^^ byN s k := ⟨_, rfl⟩
      obtain ⟨y, hy⟩ : ∃ y, y = nAt 4 x := ⟨_, rfl⟩
      have hxl : x < 4294967296 := by rw [hx]; exact xor_byte_lt _ _ hlt32 hby
      have hyl : y < 4294967296 := by rw [hy]; exact nAt_lt 4 x hxl
      have e1 : bits .xor .u32 (sumN s k : Int) (byN s k : Int) = (x : Int) := by rw [hx]; exact u32_xor_nat _ _ hlt32 (by omega)
      have e2 := and15 x hxl
      have e3 := and15 y hyl
      have c2 : W.cell? ⟨w1.heap.size, x % 16, none⟩ = some (.int .u32 (cAt ((x % 16 : Nat) : Int) 4)) := by rw [cell_of_row _ _ _ _ _ _ HROW.out, tabC_get _ _ (by omega), if_pos (by omega)]
      have c3 : W.cell? ⟨w1.heap.size, y % 16, none⟩ = some (.int .u32 (cAt ((y % 16 : Nat) : Int) 4)) := by rw [cell_of_row _ _ _ _ _ _ HROW.out, tabC_get _ _ (by omega), if_pos (by omega)]
      have e4 : bits .xor .u32 ((x : Int) / 16) (cAt ((x : Int) % 16) 4) = (y : Int) := by rw [hy]; exact four_steps x hxl
      have e5 : bits .xor .u32 ((y : Int) / 16) (cAt ((y : Int) % 16) 4) = (sumN s (k + 1) : Int) := by
        have := four_steps y hyl
        rw [Int.natCast_emod] at this
        rw [show ((16 : Nat) : Int) = 16 from rfl] at this
        rw [this, hy, ← nAt_add 4 4 x, hx]; rfl
      clear hx hy
      go_wp2
      go_round
      case rel => exact ⟨k + 1, by omega, by go_num, rfl⟩
      case measure => simp [intOf]; omega
    · obtain rfl : k = s.size := by omega
      go_wp2
      go_ret
      exact ⟨ret_int (crc_max s), HBEL.out⟩
end Go.Proofs.Ytmfedhccmmgjaaa
