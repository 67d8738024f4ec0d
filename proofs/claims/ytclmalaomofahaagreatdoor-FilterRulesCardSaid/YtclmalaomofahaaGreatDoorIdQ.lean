/- What this layer takes of the texts of earlier ones: NumPlain, IdBy, IdA, IdB, IdC, IdD, IdF, IdG. Conditions: those that each theorem names. -/
import Derived.Test.YtclmalaomofahaaGreatDoorRowI
import Derived.Test.YtclmalaomofahaaGreatDoorIdPlain
import Derived.Deep.QuietTactic
import Derived.IntWalk
import Derived.Laws.Bits64
import Derived.Laws.BitsAllLaws
import Derived.Laws.CopyOwn
import Derived.Lib.BitFns
import Derived.Lib.OwnBridge
import Derived.Sort.Grow
import Derived.StillTailTactics
namespace Go.Proofs.YtclmalaomofahaaGreatDoor
open Go.RowKit

/-! ### draws -/
def dN (a : Int) : Int := IntKind.u64.wrap (a + 11400714819323198485)
def dA (x : Int) : Int := IntKind.u64.wrap (bits .xor .u64 x (x / 1073741824) * 13787848793156543929)
def dB (x : Int) : Int := IntKind.u64.wrap (bits .xor .u64 x (x / 134217728) * 10723151780598845931)
def dC (x : Int) : Int := bits .xor .u64 x (x / 2147483648)
def dZ (a : Int) : Int := dC (dB (dA (dN a)))

theorem u64_bd (x : Int) : 0 ≤ IntKind.u64.wrap x ∧ IntKind.u64.wrap x ≤ 18446744073709551615 := by
  rw [IntKind.wrap_u64]; omega
theorem dN_bd (a : Int) : 0 ≤ dN a ∧ dN a ≤ 18446744073709551615 := u64_bd _
theorem dA_bd (a : Int) : 0 ≤ dA a ∧ dA a ≤ 18446744073709551615 := u64_bd _
theorem dB_bd (a : Int) : 0 ≤ dB a ∧ dB a ≤ 18446744073709551615 := u64_bd _
theorem bits_u64_bd (op : BinOp) (x y : Int) : 0 ≤ bits op .u64 x y ∧ bits op .u64 x y ≤ 18446744073709551615 := by
  unfold bits; split <;> first | exact u64_bd _ | (constructor <;> simp)
theorem dC_bd (a : Int) : 0 ≤ dC a ∧ dC a ≤ 18446744073709551615 := bits_u64_bd _ _ _
theorem dZ_bd (a : Int) : 0 ≤ dZ a ∧ dZ a ≤ 18446744073709551615 := dC_bd _

theorem dN_inj (a b : Int) (ha : 0 ≤ a) (ha' : a ≤ 18446744073709551615) (hb : 0 ≤ b) (hb' : b ≤ 18446744073709551615) (h : dN a = dN b) : a = b := by
  unfold dN at h; rw [IntKind.wrap_u64, IntKind.wrap_u64] at h; omega
theorem xor_zero {x y : Nat} (h : x ^^^ y = 0) : x = y := by
  have e : x ^^^ y ^^^ y = 0 ^^^ y := by rw [h]
  simpa [Nat.xor_assoc] using e
theorem xshift_inj (x y s : Nat) (hs : 2 ≤ s) (hp : ∃ k, s = 2 ^ k) (h : x ^^^ x / s = y ^^^ y / s) : x = y := by
  obtain ⟨k, rfl⟩ := hp
  have h1 : x ^^^ y = x / 2 ^ k ^^^ y / 2 ^ k := by
    have e : (x ^^^ x / 2 ^ k) ^^^ (y ^^^ y / 2 ^ k) = 0 := by rw [h]; simp
    have e2 : (x ^^^ y) ^^^ (x / 2 ^ k ^^^ y / 2 ^ k) = 0 := by
      rw [← e]; ac_rfl
    exact xor_zero e2
  have h2 : x / 2 ^ k ^^^ y / 2 ^ k = (x ^^^ y) / 2 ^ k := by
    rw [← Nat.shiftRight_eq_div_pow, ← Nat.shiftRight_eq_div_pow, ← Nat.shiftRight_eq_div_pow, Nat.shiftRight_xor_distrib]
  rw [h2] at h1
  by_cases z : x ^^^ y = 0
  · exact xor_zero z
  · have := Nat.div_lt_self (Nat.pos_of_ne_zero z) (by omega : 1 < 2 ^ k)
    omega
theorem dC_inj (a b : Int) (ha : 0 ≤ a) (ha' : a ≤ 18446744073709551615) (hb : 0 ≤ b) (hb' : b ≤ 18446744073709551615) (h : dC a = dC b) : a = b := by
  obtain ⟨x, rfl⟩ := Int.eq_ofNat_of_zero_le ha
  obtain ⟨y, rfl⟩ := Int.eq_ofNat_of_zero_le hb
  unfold dC at h
  have e1 : bits .xor .u64 (x : Int) ((x : Int) / 2147483648) = ((x ^^^ x / 2147483648 : Nat) : Int) := xorShift_u64 x 2147483648 (by omega)
  have e2 : bits .xor .u64 (y : Int) ((y : Int) / 2147483648) = ((y ^^^ y / 2147483648 : Nat) : Int) := xorShift_u64 y 2147483648 (by omega)
  rw [e1, e2] at h
  exact congrArg Int.ofNat (xshift_inj x y 2147483648 (by decide) ⟨31, rfl⟩ (Int.natCast_inj.1 h))
theorem mix_inj (x y s C D : Nat) (hx : x < 18446744073709551616) (hy : y < 18446744073709551616) (hs : 2 ≤ s) (hp : ∃ k, s = 2 ^ k) (hD : C * D % 18446744073709551616 = 1)
    (h : (x ^^^ x / s) * C % 18446744073709551616 = (y ^^^ y / s) * C % 18446744073709551616) : x = y := by
  apply xshift_inj x y s hs hp
  have bx : x ^^^ x / s < 2 ^ 64 := Nat.xor_lt_two_pow (by omega) (Nat.lt_of_le_of_lt (Nat.div_le_self _ _) (by omega))
  have bY : y ^^^ y / s < 2 ^ 64 := Nat.xor_lt_two_pow (by omega) (Nat.lt_of_le_of_lt (Nat.div_le_self _ _) (by omega))
  generalize x ^^^ x / s = u at *
  generalize y ^^^ y / s = v at *
  have h2 : u * C % 18446744073709551616 * D % 18446744073709551616 = v * C % 18446744073709551616 * D % 18446744073709551616 := by rw [h]
  rw [Nat.mod_mul_mod, Nat.mod_mul_mod, Nat.mul_assoc, Nat.mul_assoc, Nat.mul_mod, hD, Nat.mul_mod v, hD] at h2
  omega
theorem mixA (x : Nat) (hx : x < 18446744073709551616) : IntKind.u64.wrap (bits .xor .u64 (x : Int) ((x : Int) / 1073741824) * 13787848793156543929) = (((x ^^^ x / 1073741824) * 13787848793156543929 % 18446744073709551616 : Nat) : Int) := by
  have := mixStep_u64 x 1073741824 13787848793156543929 hx
  have e1 : ((1073741824 : Nat) : Int) = 1073741824 := rfl
  have e2 : ((13787848793156543929 : Nat) : Int) = 13787848793156543929 := rfl
  rw [e1, e2] at this
  exact this
theorem mixB (x : Nat) (hx : x < 18446744073709551616) : IntKind.u64.wrap (bits .xor .u64 (x : Int) ((x : Int) / 134217728) * 10723151780598845931) = (((x ^^^ x / 134217728) * 10723151780598845931 % 18446744073709551616 : Nat) : Int) := by
  have := mixStep_u64 x 134217728 10723151780598845931 hx
  have e1 : ((134217728 : Nat) : Int) = 134217728 := rfl
  have e2 : ((10723151780598845931 : Nat) : Int) = 10723151780598845931 := rfl
  rw [e1, e2] at this
  exact this
theorem dA_inj (a b : Int) (ha : 0 ≤ a) (ha' : a ≤ 18446744073709551615) (hb : 0 ≤ b) (hb' : b ≤ 18446744073709551615) (h : dA a = dA b) : a = b := by
  obtain ⟨x, rfl⟩ := Int.eq_ofNat_of_zero_le ha
  obtain ⟨y, rfl⟩ := Int.eq_ofNat_of_zero_le hb
  unfold dA at h
  have hx : x < 18446744073709551616 := by omega
  have hy : y < 18446744073709551616 := by omega
  have e1 := mixA x hx
  have e2 := mixA y hy
  rw [e1, e2] at h
  exact congrArg Int.ofNat (mix_inj x y 1073741824 13787848793156543929 10871156337175269513 hx hy (by decide) ⟨30, rfl⟩ (by decide) (Int.natCast_inj.1 h))
theorem dB_inj (a b : Int) (ha : 0 ≤ a) (ha' : a ≤ 18446744073709551615) (hb : 0 ≤ b) (hb' : b ≤ 18446744073709551615) (h : dB a = dB b) : a = b := by
  obtain ⟨x, rfl⟩ := Int.eq_ofNat_of_zero_le ha
  obtain ⟨y, rfl⟩ := Int.eq_ofNat_of_zero_le hb
  unfold dB at h
  have hx : x < 18446744073709551616 := by omega
  have hy : y < 18446744073709551616 := by omega
  have e1 := mixB x hx
  have e2 := mixB y hy
  rw [e1, e2] at h
  exact congrArg Int.ofNat (mix_inj x y 134217728 10723151780598845931 3573116690164977347 hx hy (by decide) ⟨27, rfl⟩ (by decide) (Int.natCast_inj.1 h))
theorem dZ_inj (a b : Int) (ha : 0 ≤ a) (ha' : a ≤ 18446744073709551615) (hb : 0 ≤ b) (hb' : b ≤ 18446744073709551615) (h : dZ a = dZ b) : a = b :=
  dN_inj a b ha ha' hb hb' (dA_inj _ _ (dN_bd _).1 (dN_bd _).2 (dN_bd _).1 (dN_bd _).2 (dB_inj _ _ (dA_bd _).1 (dA_bd _).2 (dA_bd _).1 (dA_bd _).2 (dC_inj _ _ (dB_bd _).1 (dB_bd _).2 (dB_bd _).1 (dB_bd _).2 h)))

/-! ### quotients -/
theorem fdiv_same (a b : Int) (h : a.tmod b = 0) : a.fdiv b = a.tdiv b := by
  rw [Int.fdiv_eq_tdiv, if_pos (Int.dvd_of_tmod_eq_zero h)]; omega
theorem fdiv_part (a b : Int) (hb : b ≠ 0) (h : a.tmod b ≠ 0) : a.fdiv b = a.tdiv b - if (a < 0) ↔ (b < 0) then 0 else 1 := by
  have hd : ¬ b ∣ a := fun hd => h (Int.tmod_eq_zero_of_dvd hd)
  rw [Int.fdiv_eq_tdiv, if_neg hd]
  by_cases ha : 0 ≤ a <;> by_cases hb' : 0 ≤ b
  · rw [if_pos ha, if_pos hb', if_pos (by omega)]
  · rw [if_pos ha, if_neg hb', if_neg (by omega)]
  · rw [if_neg ha, if_pos hb', if_neg (by omega), Int.sign_eq_one_of_pos (by omega)]
  · rw [if_neg ha, if_neg hb', if_pos (by omega), Int.sign_eq_neg_one_of_neg (by omega)]; omega
theorem fdiv_left_pos (a b : Int) (hb : 0 < b) : 0 ≤ a - a.fdiv b * b ∧ a - a.fdiv b * b < b := by
  have h1 := Int.fdiv_mul_add_fmod a b
  have h2 := Int.fmod_lt_of_pos a hb
  have h3 := Int.fmod_nonneg_of_pos a hb
  omega
theorem fdiv_left_neg (a b : Int) (hb : b < 0) : a - a.fdiv b * b ≤ 0 ∧ b < a - a.fdiv b * b := by
  have h1 := Int.fdiv_mul_add_fmod (-a) (-b)
  have h2 := Int.fmod_lt_of_pos (-a) (by omega : 0 < -b)
  have h3 := Int.fmod_nonneg_of_pos (-a) (by omega : 0 < -b)
  rw [Int.neg_fdiv_neg, Int.mul_neg] at h1
  omega
theorem tdiv_bd (a b : Int) (ha : -9223372036854775808 ≤ a) (ha' : a ≤ 9223372036854775807) (h : ¬ (a = -9223372036854775808 ∧ b = -1)) :
    -9223372036854775808 ≤ a.tdiv b ∧ a.tdiv b ≤ 9223372036854775807 := by
  have h1 := Int.natAbs_tdiv a b
  have h2 : a.natAbs.div b.natAbs ≤ a.natAbs := Nat.div_le_self _ _
  by_cases hm : a = -9223372036854775808
  · subst hm
    have hb : b ≠ -1 := fun e => h ⟨rfl, e⟩
    by_cases b1 : b = 1
    · subst b1; simp
    · by_cases b0 : b = 0
      · subst b0; simp
      · have h3 : (Int.natAbs (-9223372036854775808)).div b.natAbs ≤ (Int.natAbs (-9223372036854775808)).div 2 := Nat.div_le_div_left (by omega) (by omega)
        have h4 : (Int.natAbs (-9223372036854775808)).div 2 = 4611686018427387904 := by decide
        omega
  · omega
/-- Where a quotient of whole numbers, not 0, meets its product again, nothing was cut off. -/
theorem mul_back (a b : Int) (hb : b ≠ 0) : (a * b).tdiv b = a := Int.mul_tdiv_cancel _ hb
theorem wrap64_bd (x : Int) : -9223372036854775808 ≤ wrap64 x ∧ wrap64 x ≤ 9223372036854775807 := by unfold wrap64; omega
theorem wrap64_near (x : Int) : ∃ k : Int, wrap64 x = x + 18446744073709551616 * k := by
  refine ⟨-((x + 9223372036854775808) / 18446744073709551616), ?_⟩; unfold wrap64; omega
theorem mul_over_back (a b : Int) (hb0 : b ≠ 0) (hb : -9223372036854775808 ≤ b) (hb' : b ≤ 9223372036854775807)
    (hn : ¬ (a = -9223372036854775808 ∧ b = -1)) (h : ¬ (-9223372036854775808 ≤ a * b ∧ a * b ≤ 9223372036854775807)) : wrap64 ((wrap64 (a * b)).tdiv b) ≠ a := by
  intro e
  have hp := wrap64_bd (a * b)
  obtain ⟨k, hk⟩ := wrap64_near (a * b)
  obtain ⟨p, hpe⟩ : ∃ p, wrap64 (a * b) = p := ⟨_, rfl⟩
  rw [hpe] at e hp hk
  clear hpe
  by_cases hm : p = -9223372036854775808 ∧ b = -1
  · obtain ⟨rfl, rfl⟩ := hm
    apply hn
    refine ⟨?_, rfl⟩
    have e2 : (-9223372036854775808 : Int).tdiv (-1) = 9223372036854775808 := by simp
    rw [e2] at e; unfold wrap64 at e; omega
  · have ht := tdiv_bd p b hp.1 hp.2 hm
    have hw : wrap64 (p.tdiv b) = p.tdiv b := by unfold wrap64; omega
    rw [hw] at e
    have h1 := Int.mul_tdiv_add_tmod p b
    rw [e, Int.mul_comm] at h1
    have h2 : (p.tmod b).natAbs < b.natAbs := by
      rw [Int.natAbs_tmod]; exact Nat.mod_lt _ (by omega)
    have : k = 0 := by omega
    subst this
    omega

/-! ### roots -/
def rootN : Nat → Nat
  | 0 => 0
  | n + 1 => if (rootN n + 1) * (rootN n + 1) ≤ n + 1 then rootN n + 1 else rootN n
theorem rootN_spec : ∀ n, rootN n * rootN n ≤ n ∧ n < (rootN n + 1) * (rootN n + 1)
  | 0 => ⟨Nat.le_refl _, by decide⟩
  | n + 1 => by
    obtain ⟨h1, h2⟩ := rootN_spec n
    unfold rootN
    split
    · rename_i h
      refine ⟨h, ?_⟩
      have e : (rootN n + 1 + 1) * (rootN n + 1 + 1) = (rootN n + 1) * (rootN n + 1) + 2 * rootN n + 3 := by
        generalize rootN n = r; rw [Nat.mul_add, Nat.add_mul, Nat.add_mul]; omega
      omega
    · omega
theorem sq_lt {a b : Nat} (h : a * a < b * b) : a < b := by
  rcases Nat.lt_or_ge a b with h1 | h1
  · exact h1
  · have := Nat.mul_le_mul h1 h1; omega
theorem rootN_is (n r : Nat) (h1 : r * r ≤ n) (h2 : n < (r + 1) * (r + 1)) : r = rootN n := by
  obtain ⟨h3, h4⟩ := rootN_spec n
  have a := sq_lt (Nat.lt_of_le_of_lt h1 h4)
  have b := sq_lt (Nat.lt_of_le_of_lt h3 h2)
  omega
theorem four_le (x y : Nat) : 4 * (x * y) ≤ (x + y) * (x + y) := by
  rcases Nat.le_total x y with h | h
  · obtain ⟨d, rfl⟩ := Nat.exists_eq_add_of_le h
    have : (x + (x + d)) * (x + (x + d)) = 4 * (x * (x + d)) + d * d := by
      simp only [Nat.mul_add, Nat.add_mul]; rw [Nat.mul_comm d x]; omega
    omega
  · obtain ⟨d, rfl⟩ := Nat.exists_eq_add_of_le h
    have : (y + d + y) * (y + d + y) = 4 * ((y + d) * y) + d * d := by
      simp only [Nat.mul_add, Nat.add_mul]; rw [Nat.mul_comm d y]; omega
    omega
/-- A step of Newton's stays at the root or above it. -/
theorem newton_above (n r : Nat) (hr : 0 < r) : n < ((r + n / r) / 2 + 1) * ((r + n / r) / 2 + 1) := by
  have h1 : n < r * (n / r + 1) := Nat.lt_mul_div_succ n hr
  have h2 := four_le r (n / r + 1)
  have h3 : r + (n / r + 1) ≤ 2 * ((r + n / r) / 2 + 1) := by omega
  have h4 := Nat.mul_le_mul h3 h3
  have e : 2 * ((r + n / r) / 2 + 1) * (2 * ((r + n / r) / 2 + 1)) = 4 * (((r + n / r) / 2 + 1) * ((r + n / r) / 2 + 1)) := by
    generalize (r + n / r) / 2 + 1 = z; rw [Nat.mul_mul_mul_comm]
  omega
theorem newton_stands (n r : Nat) (hr : 0 < r) (h : r ≤ (r + n / r) / 2) : r * r ≤ n := by
  have h1 : r ≤ n / r := by omega
  have := (Nat.le_div_iff_mul_le hr).1 h1
  exact this
theorem root_most (n r : Nat) (h : r * r ≤ n) (hn : n ≤ 9223372036854775807) : r ≤ 3037000499 := by
  have : r < 3037000500 := sq_lt (by omega)
  omega
theorem newton_quot (n r : Nat) (_ : 0 < r) (h : n < (r + 1) * (r + 1)) : n / r ≤ r + 2 := by
  have e : (r + 1) * (r + 1) = r * (r + 2) + 1 := by simp only [Nat.add_mul, Nat.mul_add]; omega
  exact Nat.div_le_of_le_mul (by omega)
theorem newton_pos (n r : Nat) (hn : 1 ≤ n) (hr : 0 < r) : 1 ≤ (r + n / r) / 2 := by
  by_cases e : r = 1
  · subst e; simp; omega
  · have : 2 ≤ r + n / r := by have := Nat.zero_le (n / r); omega
    omega
theorem bitLenAux_above : ∀ f x, x < 2 ^ f → x < 2 ^ Lib.bitLenAux f x
  | 0, x, h => h
  | f + 1, x, h => by
    unfold Lib.bitLenAux
    by_cases e : x = 0
    · subst e; simp
    · rw [if_neg e, Nat.add_comm, Nat.pow_succ]
      have := bitLenAux_above f (x / 2) (by rw [Nat.pow_succ] at h; omega)
      omega
/-- The power of two from which Newton's steps fall. -/
theorem newton_start (n : Nat) (h : n < 2 ^ 64) : n < 2 ^ ((Lib.bitLen n + 1) / 2) * 2 ^ ((Lib.bitLen n + 1) / 2) := by
  have h1 : n < 2 ^ Lib.bitLen n := bitLenAux_above 64 n h
  rw [← Nat.pow_add]
  exact Nat.lt_of_lt_of_le h1 (Nat.pow_le_pow_right (by omega) (by omega))
theorem rootN_pos (n : Nat) (h : 1 ≤ n) : 1 ≤ rootN n := by
  have := (rootN_spec n).2
  rcases Nat.eq_zero_or_pos (rootN n) with e | e
  · rw [e] at this; omega
  · exact e

/-! ### numbers in bytes -/
def fixL : Nat → Nat → List UInt8
  | 0, _ => []
  | w + 1, n => UInt8.ofNat (n % 256) :: fixL w (n / 256)
def unfL : List UInt8 → Nat
  | [] => 0
  | c :: l => c.toNat + 256 * unfL l
theorem fixL_length : ∀ w n, (fixL w n).length = w
  | 0, _ => rfl
  | w + 1, n => by simp [fixL, fixL_length w]
theorem unfL_fixL : ∀ w n, n < 256 ^ w → unfL (fixL w n) = n
  | 0, n, h => by simp at h; subst h; rfl
  | w + 1, n, h => by
    have e : n / 256 < 256 ^ w := by rw [Nat.pow_succ] at h; exact Nat.div_lt_of_lt_mul (by omega)
    simp only [fixL, unfL, unfL_fixL w _ e, UInt8.toNat_ofNat']
    omega
theorem unfL_lt : ∀ l : List UInt8, unfL l < 256 ^ l.length
  | [] => by decide
  | c :: l => by
    have h := unfL_lt l
    have hc := c.toNat_lt
    simp only [unfL, List.length_cons, Nat.pow_succ]
    omega
theorem unfL_snoc : ∀ (l : List UInt8) (c : UInt8), unfL (l ++ [c]) = unfL l + 256 ^ l.length * c.toNat
  | [], c => by simp [unfL]
  | d :: l, c => by
    simp only [List.cons_append, unfL, unfL_snoc l c, List.length_cons, Nat.pow_succ]
    rw [Nat.mul_add, ← Nat.mul_assoc, Nat.mul_comm 256 (256 ^ l.length)]; omega

theorem fixL_get : ∀ w n i (h : i < (fixL w n).length), (fixL w n)[i] = UInt8.ofNat (n / 256 ^ i % 256)
  | 0, _, i, h => by simp [fixL] at h
  | w + 1, n, 0, _ => by simp [fixL]
  | w + 1, n, i + 1, h => by
    simp only [fixL, List.getElem_cons_succ]
    rw [fixL_get w (n / 256) i, Nat.div_div_eq_div_mul, Nat.pow_succ, Nat.mul_comm 256]
theorem pow_256 (k : Nat) : 2 ^ (8 * k) = 256 ^ k := by rw [Nat.pow_mul]
theorem unfL_or (l : List UInt8) (c : UInt8) (h : l.length < 8) :
    bits .or .u64 (unfL l : Int) (IntKind.u64.wrap (IntKind.u64.wrap (c.toNat : Int) * 2 ^ (8 * l.length))) = (unfL (l ++ [c]) : Int) := by
  have hc := c.toNat_lt
  have hl := unfL_lt l
  have hp : 256 ^ l.length * 256 ≤ 18446744073709551616 := by
    rw [← Nat.pow_succ]; exact Nat.pow_le_pow_right (n := 256) (by decide) (by omega : l.length + 1 ≤ 8)
  have hm : 256 ^ l.length * c.toNat ≤ 256 ^ l.length * 255 := Nat.mul_le_mul_left _ (by omega)
  have e1 : IntKind.u64.wrap (c.toNat : Int) = (c.toNat : Int) := IntWalk.u64_in _ (by omega)
  have e2 : (c.toNat : Int) * 2 ^ (8 * l.length) = ((256 ^ l.length * c.toNat : Nat) : Int) := by
    rw [Int.natCast_mul, ← pow_256, Int.mul_comm]; simp
  rw [e1, e2, IntWalk.u64_in _ (by omega), u64_or_nat _ _ (by omega) (by omega), unfL_snoc, ← pow_256, Nat.or_comm]
  rw [← pow_256] at hl
  rw [← Nat.two_pow_add_eq_or_of_lt hl, Nat.add_comm]

/-! ### the check sum -/
def nStep (c : Nat) : Nat := (c / 2) ^^^ (c % 2 * 3988292384)
def nAt : Nat → Nat → Nat
  | 0, c => c
  | k + 1, c => nAt k (nStep c)
theorem nAt_succ : ∀ k c, nAt (k + 1) c = nStep (nAt k c)
  | 0, _ => rfl
  | k + 1, c => nAt_succ k (nStep c)
theorem nStep_lt (c : Nat) (h : c < 4294967296) : nStep c < 4294967296 := by
  unfold nStep
  have e32 : (2 : Nat) ^ 32 = 4294967296 := by decide
  have h1 : c / 2 < 2 ^ 32 := by omega
  have h2 : c % 2 * 3988292384 < 2 ^ 32 := by omega
  have := Nat.xor_lt_two_pow h1 h2
  omega
theorem xor_mod2 (a b : Nat) : (a ^^^ b) % 2 = (a % 2) ^^^ (b % 2) := by
  have := @Nat.xor_mod_two_pow a b 1
  simpa using this
theorem xor_cancel {a b c : Nat} (h : a ^^^ c = b ^^^ c) : a = b := by
  have := congrArg (· ^^^ c) h
  simpa [Nat.xor_assoc] using this
theorem nAt_lt : ∀ k c, c < 4294967296 → nAt k c < 4294967296
  | 0, _, h => h
  | k + 1, c, h => nAt_lt k _ (nStep_lt c h)
theorem nStep_xor (a b : Nat) : nStep (a ^^^ b) = nStep a ^^^ nStep b := by
  have h1 : (a ^^^ b) / 2 = a / 2 ^^^ b / 2 := Nat.xor_div_two
  have h2 : (a ^^^ b) % 2 * 3988292384 = (a % 2 * 3988292384) ^^^ (b % 2 * 3988292384) := by
    rw [xor_mod2]
    rcases Nat.mod_two_eq_zero_or_one a with e | e <;> rcases Nat.mod_two_eq_zero_or_one b with f | f <;> simp [e, f]
  unfold nStep
  rw [h1, h2]
  ac_rfl
theorem nAt_xor : ∀ k a b, nAt k (a ^^^ b) = nAt k a ^^^ nAt k b
  | 0, _, _ => rfl
  | k + 1, a, b => by simp only [nAt, nStep_xor, nAt_xor k]
/-- What k bits do to a sum hangs on these bits alone: the rest is shifted. -/
theorem nAt_low : ∀ k c, nAt k c = c / 2 ^ k ^^^ nAt k (c % 2 ^ k)
  | 0, c => by simp [nAt, Nat.mod_one]
  | k + 1, c => by
    have e1 : c / 2 / 2 ^ k = c / 2 ^ (k + 1) := by rw [Nat.div_div_eq_div_mul, Nat.pow_succ, Nat.mul_comm]
    have e2 : c % 2 ^ (k + 1) / 2 = c / 2 % 2 ^ k := by rw [Nat.pow_succ, Nat.mul_comm, Nat.mod_mul_right_div_self]
    have e3 : c % 2 ^ (k + 1) % 2 = c % 2 := Nat.mod_mod_of_dvd _ ⟨2 ^ k, by rw [Nat.pow_succ, Nat.mul_comm]⟩
    have h1 : nAt (k + 1) c = nAt k (c / 2) ^^^ nAt k (c % 2 * 3988292384) := by
      show nAt k (nStep c) = _
      unfold nStep; rw [nAt_xor]
    have h2 : nAt (k + 1) (c % 2 ^ (k + 1)) = nAt k (c / 2 % 2 ^ k) ^^^ nAt k (c % 2 * 3988292384) := by
      show nAt k (nStep _) = _
      unfold nStep; rw [nAt_xor, e2, e3]
    rw [h1, h2, nAt_low k (c / 2), e1]
    ac_rfl
theorem nStep_inj (a b : Nat) (ha : a < 4294967296) (hb : b < 4294967296) (h : nStep a = nStep b) : a = b := by
  unfold nStep at h
  have key : ∀ x y : Nat, x < 2147483648 → y < 2147483648 → x ^^^ 3988292384 ≠ y := by
    intro x y hx hy e
    have : x ^^^ y = 3988292384 := by rw [← e, ← Nat.xor_assoc, Nat.xor_self, Nat.zero_xor]
    have : x ^^^ y < 2 ^ 31 := Nat.xor_lt_two_pow hx hy
    omega
  rcases Nat.mod_two_eq_zero_or_one a with e | e <;> rcases Nat.mod_two_eq_zero_or_one b with f | f <;> rw [e, f] at h
  · simp at h; omega
  · simp at h; exact absurd h.symm (key _ _ (by omega) (by omega))
  · simp at h; exact absurd h (key _ _ (by omega) (by omega))
  · have := xor_cancel h; omega
theorem nAt_inj : ∀ k a b, a < 4294967296 → b < 4294967296 → nAt k a = nAt k b → a = b
  | 0, _, _, _, _, h => h
  | k + 1, a, b, ha, hb, h => nStep_inj a b ha hb (nAt_inj k _ _ (nStep_lt a ha) (nStep_lt b hb) h)
/-- The sum over the first k bytes, not yet turned at the end. -/
def byN (s : ByteArray) (k : Nat) : Nat := if h : k < s.size then (s[k]'h).toNat else 0
theorem byN_lt (s : ByteArray) (k : Nat) : byN s k < 256 := by
  unfold byN; split
  · exact UInt8.toNat_lt _
  · omega
theorem byN_get (s : ByteArray) (k : Nat) (h : k < s.size) : ((s[k]'h).toNat : Int) = (byN s k : Int) := by unfold byN; rw [dif_pos h]
def sumN (s : ByteArray) : Nat → Nat
  | 0 => 4294967295
  | k + 1 => nAt 8 (sumN s k ^^^ byN s k)
theorem xor_byte_lt (c b : Nat) (hc : c < 4294967296) (hb : b < 256) : c ^^^ b < 4294967296 := by
  have e32 : (2 : Nat) ^ 32 = 4294967296 := by decide
  have := Nat.xor_lt_two_pow (n := 32) (x := c) (y := b) (by omega) (by omega)
  omega
theorem sumN_lt (s : ByteArray) : ∀ k, sumN s k < 4294967296
  | 0 => by unfold sumN; omega
  | k + 1 => nAt_lt 8 _ (xor_byte_lt _ _ (sumN_lt s k) (byN_lt s k))
theorem nAt_add : ∀ i j c, nAt (i + j) c = nAt i (nAt j c)
  | _, 0, _ => rfl
  | i, j + 1, c => nAt_add i j (nStep c)
/-- The step in the walk's own form. -/
def cStep (c : Int) : Int := bits .xor .u32 (c / 2) (IntKind.u32.wrap (bits .and .u32 c 1 * 3988292384))
def cAt (i : Int) : Nat → Int
  | 0 => i
  | k + 1 => cStep (cAt i k)
theorem and_one (c : Nat) : c &&& 1 = c % 2 := Nat.and_two_pow_sub_one_eq_mod c 1
theorem and_fifteen (c : Nat) : c &&& 15 = c % 16 := Nat.and_two_pow_sub_one_eq_mod c 4
theorem cStep_nat (c : Nat) (h : c < 4294967296) : cStep (c : Int) = (nStep c : Int) := by
  unfold cStep nStep
  have e1 : bits .and .u32 (c : Int) 1 = ((c % 2 : Nat) : Int) := by
    have := u32_and_nat c 1 h (by decide); rw [and_one] at this; exact this
  have e2 : IntKind.u32.wrap (((c % 2 : Nat) : Int) * 3988292384) = ((c % 2 * 3988292384 : Nat) : Int) := by
    rw [IntWalk.u32_in _ (by omega)]; omega
  have e3 : (c : Int) / 2 = ((c / 2 : Nat) : Int) := by omega
  rw [e1, e2, e3]
  exact u32_xor_nat _ _ (by omega) (by omega)
theorem cAt_nat (c : Nat) (h : c < 4294967296) : ∀ k, cAt (c : Int) k = (nAt k c : Int)
  | 0 => rfl
  | k + 1 => by rw [nAt_succ]; show cStep (cAt _ k) = _; rw [cAt_nat c h k, cStep_nat _ (nAt_lt k c h)]
/-- Four steps at once, out of the table's row. -/
theorem four_steps (x : Nat) (h : x < 4294967296) : bits .xor .u32 ((x : Int) / 16) (cAt ((x % 16 : Nat) : Int) 4) = (nAt 4 x : Int) := by
  rw [cAt_nat _ (by omega), nAt_low 4 x]
  have e3 : (x : Int) / 16 = ((x / 2 ^ 4 : Nat) : Int) := by
    have : (2 : Nat) ^ 4 = 16 := by decide
    omega
  rw [e3]
  have hp : (2 : Nat) ^ 4 = 16 := by decide
  exact u32_xor_nat _ _ (by omega) (nAt_lt 4 _ (by omega))
theorem and15 (x : Nat) (h : x < 4294967296) : bits .and .u32 (x : Int) 15 = ((x % 16 : Nat) : Int) := by
  have := u32_and_nat x 15 h (by decide); rw [and_fifteen] at this; exact this
def crcN (s : ByteArray) : Nat := sumN s s.size ^^^ 4294967295
theorem crc_max (s : ByteArray) : bits .xor .u32 IntKind.u32.max (sumN s s.size : Int) = (crcN s : Int) := by
  have e : IntKind.u32.max = ((4294967295 : Nat) : Int) := by decide
  rw [e, u32_xor_nat _ _ (by decide) (sumN_lt s _), Nat.xor_comm]; rfl
theorem crc_right (s : ByteArray) : bits .xor .u32 (sumN s s.size : Int) 4294967295 = (crcN s : Int) := by
  have := u32_xor_nat (sumN s s.size) 4294967295 (sumN_lt s _) (by decide)
  exact this
theorem crcN_lt (s : ByteArray) : crcN s < 4294967296 := by
  have e32 : (2 : Nat) ^ 32 = 4294967296 := by decide
  have h := sumN_lt s s.size
  have := Nat.xor_lt_two_pow (n := 32) (x := sumN s s.size) (y := 4294967295) (by omega) (by omega)
  unfold crcN; omega
/-- Two texts that part in one byte have other sums. -/
theorem sumN_same (s t : ByteArray) : ∀ k, (∀ i, i < k → byN s i = byN t i) → sumN s k = sumN t k
  | 0, _ => rfl
  | k + 1, h => by
    show nAt 8 _ = nAt 8 _
    rw [sumN_same s t k (fun i hi => h i (by omega)), h k (by omega)]
theorem sumN_other (s t : ByteArray) (j : Nat) (hj : byN s j ≠ byN t j) (hs : ∀ i, i ≠ j → byN s i = byN t i) : ∀ k, j < k → sumN s k ≠ sumN t k
  | 0, h => by omega
  | k + 1, h => by
    intro e
    have e2 := nAt_inj 8 _ _ (xor_byte_lt _ _ (sumN_lt s k) (byN_lt s k)) (xor_byte_lt _ _ (sumN_lt t k) (byN_lt t k)) e
    rcases Nat.lt_or_ge j k with h1 | h1
    · rw [hs k (by omega)] at e2
      exact sumN_other s t j hj hs k h1 (xor_cancel e2)
    · obtain rfl : k = j := by omega
      rw [sumN_same s t k (fun i hi => hs i (by omega)), Nat.xor_comm, Nat.xor_comm (sumN t k)] at e2
      exact hj (xor_cancel e2)

/-! ### the hash -/
def hStep (h c : Int) : Int := IntKind.u64.wrap (bits .xor .u64 h c * 1099511628211)
def hAt (s : ByteArray) : Nat → Int
  | 0 => 14695981039346656037
  | k + 1 => hStep (hAt s k) (byN s k)
theorem hAt_bd (s : ByteArray) : ∀ k, 0 ≤ hAt s k ∧ hAt s k ≤ 18446744073709551615
  | 0 => by unfold hAt; omega
  | _ + 1 => u64_bd _
end Go.Proofs.YtclmalaomofahaaGreatDoor
namespace Go.Proofs.YtclmalaomofahaaGreatDoor
namespace Ids
def okB (L : List Int) : Prop := Ris L ∧ ∀ x ∈ L, 1 ≤ x ∧ x ≤ 4503599627370496
def smB (n : Nat) : List UInt8 := if n < 128 then [UInt8.ofNat n] else UInt8.ofNat (128 + n % 128) :: smB (n / 128)
def stepsB (last : Int) : List Int → List UInt8
  | [] => []
  | x :: L => smB (x - last).toNat ++ stepsB x L
def encB (L : List Int) : List UInt8 := fixL 4 L.length ++ stepsB 0 L
/-- The number with whose small bytes a row begins, and how many they are. -/
def smR : Nat → List UInt8 → Option (Nat × Nat)
  | 0, _ => none
  | _ + 1, [] => none
  | f + 1, c :: s => if c.toNat < 128 then (if c.toNat = 0 then none else some (c.toNat, 1)) else (smR f s).map fun p => (c.toNat - 128 + 128 * p.1, p.2 + 1)
def rd (s : List UInt8) (last : Int) : Option (List Int) :=
  match s with
  | [] => some []
  | c :: s => match smR 8 (c :: s) with
    | none => none
    | some (n, k) => if 4503599627370496 - last < n then none else (rd (s.drop (k - 1)) (last + n)).map fun l => (last + n) :: l
termination_by s.length
decreasing_by simp; omega
def decB (s : List UInt8) : Option (List Int) := if s.length < 4 then none else match rd (s.drop 4) 0 with
  | none => none
  | some l => if l.length = unfL (s.take 4) then some l else none
theorem smB_small {n : Nat} (h : n < 128) : smB n = [UInt8.ofNat n] := by rw [smB, if_pos h]
theorem smB_great {n : Nat} (h : ¬ n < 128) : smB n = UInt8.ofNat (128 + n % 128) :: smB (n / 128) := by rw [smB, if_neg h]
theorem smB_length : ∀ n, 1 ≤ (smB n).length := by
  intro n
  rw [smB]
  split <;> simp
theorem smB_bound : ∀ f n, n < 128 ^ f → 1 ≤ f → (smB n).length ≤ f
  | 0, _, _, h => by omega
  | f + 1, n, h, _ => by
    by_cases c : n < 128
    · rw [smB_small c]; simp
    · rw [smB_great c]
      have h2 : n / 128 < 128 ^ f := by rw [Nat.div_lt_iff_lt_mul (by decide)]; rw [Nat.pow_succ] at h; exact h
      have h3 : 1 ≤ f := by
        rcases f with _ | f
        · simp at h2; omega
        · omega
      have := smB_bound f (n / 128) h2 h3
      simp; omega
theorem smR_smB : ∀ f n (r : List UInt8), 1 ≤ n → n < 128 ^ f → smR f (smB n ++ r) = some (n, (smB n).length)
  | 0, n, _, h, h' => by simp at h'; omega
  | f + 1, n, r, h, h' => by
    by_cases c : n < 128
    · rw [smB_small c]
      have e : (UInt8.ofNat n).toNat = n := by rw [UInt8.toNat_ofNat']; omega
      simp only [List.cons_append, List.nil_append, smR, e, if_pos c, List.length_cons, List.length_nil, if_neg (show ¬ n = 0 by omega)]
    · rw [smB_great c]
      have h2 : n / 128 < 128 ^ f := by rw [Nat.div_lt_iff_lt_mul (by decide)]; rw [Nat.pow_succ] at h'; exact h'
      have e : (UInt8.ofNat (128 + n % 128)).toNat = 128 + n % 128 := by rw [UInt8.toNat_ofNat']; omega
      simp only [List.cons_append, smR, e, if_neg (show ¬ 128 + n % 128 < 128 by omega), smR_smB f (n / 128) r (by omega) h2, Option.map_some, List.length_cons]
      congr 2
      omega
theorem smR_is : ∀ f (s : List UInt8) n k, smR f s = some (n, k) → 1 ≤ n ∧ n < 128 ^ f ∧ 1 ≤ k ∧ k ≤ s.length ∧ smB n = s.take k
  | 0, _, _, _, h => by simp [smR] at h
  | _ + 1, [], _, _, h => by simp [smR] at h
  | f + 1, c :: s, n, k, h => by
    rw [smR] at h
    by_cases c1 : c.toNat < 128
    · rw [if_pos c1] at h
      by_cases c2 : c.toNat = 0
      · rw [if_pos c2] at h; cases h
      · rw [if_neg c2] at h
        injection h with h
        injection h with h1 h2
        subst h1 h2
        have hp : 1 ≤ 128 ^ f := Nat.pow_pos (by decide)
        refine ⟨by omega, by rw [Nat.pow_succ]; omega, by omega, by simp, ?_⟩
        rw [smB_small c1]; simp
    · rw [if_neg c1] at h
      cases hr : smR f s with
      | none => rw [hr] at h; cases h
      | some p =>
        obtain ⟨m, j⟩ := p
        rw [hr] at h
        simp only [Option.map_some] at h
        injection h with h
        injection h with h1 h2
        obtain ⟨i1, i2, i3, i4, i5⟩ := smR_is f s m j hr
        have hc := c.toNat_lt
        subst h1 h2
        refine ⟨by omega, by rw [Nat.pow_succ]; omega, by omega, by simp; omega, ?_⟩
        rw [smB_great (by omega), show (c.toNat - 128 + 128 * m) / 128 = m by omega, show 128 + (c.toNat - 128 + 128 * m) % 128 = c.toNat by omega, i5]
        simp
/-! ### a row gone along -/
/-- The lower bits of the first i bytes. -/
def acc (s : List UInt8) : Nat → Nat
  | 0 => 0
  | i + 1 => acc s i + (s[i]?.getD 0).toNat % 128 * 128 ^ i
theorem acc_lt (s : List UInt8) : ∀ i, acc s i < 128 ^ i
  | 0 => by simp [acc]
  | i + 1 => by
    have h1 := acc_lt s i
    have h2 : (s[i]?.getD 0).toNat % 128 < 128 := Nat.mod_lt _ (by decide)
    have h3 : (s[i]?.getD 0).toNat % 128 * 128 ^ i ≤ 127 * 128 ^ i := Nat.mul_le_mul_right _ (by omega)
    rw [acc, Nat.pow_succ]
    omega
theorem acc_cons (c : UInt8) (s : List UInt8) : ∀ i, acc (c :: s) (i + 1) = c.toNat % 128 + 128 * acc s i
  | 0 => by simp [acc]
  | i + 1 => by
    rw [acc, acc_cons c s i, acc]
    simp only [List.getElem?_cons_succ]
    rw [Nat.mul_add, ← Nat.mul_assoc, Nat.mul_comm 128 ((s[i]?.getD 0).toNat % 128), Nat.mul_assoc, Nat.pow_succ, Nat.mul_comm 128 (128 ^ i)]
    omega
theorem smR_at : ∀ i f (s : List UInt8), i ≤ s.length → (∀ j (h : j < s.length), j < i → 128 ≤ (s[j]).toNat) → smR (f + i) s = (smR f (s.drop i)).map fun p => (acc s i + 128 ^ i * p.1, p.2 + i)
  | 0, f, s, _, _ => by
    simp only [Nat.add_zero, List.drop_zero, acc, Nat.pow_zero, Nat.zero_add, Nat.one_mul]
    cases smR f s <;> rfl
  | i + 1, f, [], h, _ => by simp at h
  | i + 1, f, c :: s, h, hb => by
    have hc := hb 0 (by simp) (by omega)
    simp only [List.getElem_cons_zero] at hc
    have ih := smR_at i f s (by simpa using h) (fun j hj hji => by have := hb (j + 1) (by simpa using hj) (by omega); simpa using this)
    rw [show f + (i + 1) = (f + i) + 1 by omega, smR, if_neg (by omega), ih, List.drop_succ_cons, acc_cons]
    have hc2 := c.toNat_lt
    cases smR f (s.drop i) with
    | none => simp only [Option.map_none]
    | some p =>
      simp only [Option.map_some, Option.some.injEq, Prod.mk.injEq]
      refine ⟨?_, by omega⟩
      rw [Nat.mul_add, ← Nat.mul_assoc, Nat.pow_succ, Nat.mul_comm 128 (128 ^ i)]
      omega
/-! ### all steps -/
theorem rd_nil (last : Int) : rd [] last = some [] := by rw [rd]
set_option maxRecDepth 100000 in
theorem rd_no {s : List UInt8} {last : Int} (h0 : s ≠ []) (h : smR 8 s = none) : rd s last = none := by
  match s with
  | [] => exact absurd rfl h0
  | c :: s => rw [rd, h]
set_option maxRecDepth 100000 in
theorem rd_yes {s : List UInt8} {last : Int} {n k : Nat} (h : smR 8 s = some (n, k)) : rd s last = if 4503599627370496 - last < n then none else (rd (s.drop k) (last + n)).map fun l => (last + n) :: l := by
  match s with
  | [] => simp [smR] at h
  | c :: s =>
    have hk := (smR_is _ _ _ _ h).2.2.1
    rw [rd, h]
    obtain ⟨j, rfl⟩ : ∃ j, k = j + 1 := ⟨k - 1, by omega⟩
    rfl
set_option maxRecDepth 100000 in
theorem rd_is : ∀ (m : Nat) (s : List UInt8) (last : Int) (l : List Int), s.length ≤ m → 0 ≤ last → last ≤ 4503599627370496 → rd s last = some l → Ris (last :: l) ∧ (∀ x ∈ l, x ≤ 4503599627370496) ∧ stepsB last l = s := by
  intro m
  induction m with
  | zero =>
    intro s last l hs h0 h1 h
    obtain rfl : s = [] := List.eq_nil_of_length_eq_zero (by omega)
    rw [rd_nil] at h
    injection h with h
    subst h
    exact ⟨List.pairwise_singleton _ _, by simp, rfl⟩
  | succ m ih =>
    intro s last l hs h0 h1 h
    by_cases he : s = []
    · subst he
      rw [rd_nil] at h
      injection h with h
      subst h
      exact ⟨List.pairwise_singleton _ _, by simp, rfl⟩
    · cases hr : smR 8 s with
      | none => rw [rd_no he hr] at h; cases h
      | some p =>
        obtain ⟨n, k⟩ := p
        obtain ⟨i1, _, i3, i4, i5⟩ := smR_is _ _ _ _ hr
        rw [rd_yes hr] at h
        by_cases hg : 4503599627370496 - last < (n : Int)
        · rw [if_pos hg] at h; cases h
        · rw [if_neg hg] at h
          cases hl : rd (s.drop k) (last + n) with
          | none => rw [hl] at h; cases h
          | some l' =>
            rw [hl] at h
            simp only [Option.map_some] at h
            injection h with h
            subst h
            obtain ⟨j1, j2, j3⟩ := ih (s.drop k) (last + n) l' (by simp; omega) (by omega) (by omega) hl
            obtain ⟨j4, j5⟩ := List.pairwise_cons.mp j1
            refine ⟨List.pairwise_cons.mpr ⟨fun x hx => ?_, j1⟩, fun x hx => ?_, ?_⟩
            · rcases List.mem_cons.mp hx with rfl | hx
              · omega
              · have := j4 x hx; omega
            · rcases List.mem_cons.mp hx with rfl | hx
              · omega
              · exact j2 x hx
            · rw [stepsB, j3, show (last + (n : Int) - last).toNat = n by omega, i5, List.take_append_drop]
theorem rd_steps : ∀ (l : List Int) (last : Int), Ris (last :: l) → (∀ x ∈ l, x ≤ 4503599627370496) → 0 ≤ last → rd (stepsB last l) last = some l
  | [], last, _, _, _ => by rw [stepsB, rd_nil]
  | x :: l, last, h, hm, h0 => by
    obtain ⟨h1, h2⟩ := List.pairwise_cons.mp h
    have hx := h1 x (List.mem_cons_self ..)
    have hx2 := hm x (List.mem_cons_self ..)
    have hr : smR 8 (smB (x - last).toNat ++ stepsB x l) = some ((x - last).toNat, (smB (x - last).toNat).length) := smR_smB 8 _ _ (by omega) (by
      have : (128 : Nat) ^ 8 = 72057594037927936 := by decide
      omega)
    rw [stepsB, rd_yes hr, if_neg (by omega), show last + ((x - last).toNat : Int) = x by omega, List.drop_left, rd_steps l x h2 (fun y hy => hm y (List.mem_cons_of_mem _ hy)) (by omega)]
    rfl
theorem fixL_unfL : ∀ (w : Nat) (l : List UInt8), l.length = w → fixL w (unfL l) = l
  | 0, [], _ => by simp [fixL]
  | 0, _ :: _, h => by simp at h
  | w + 1, [], h => by simp at h
  | w + 1, c :: l, h => by
    have hc := c.toNat_lt
    have ih := fixL_unfL w l (by simpa using h)
    simp only [fixL, unfL]
    rw [show (c.toNat + 256 * unfL l) / 256 = unfL l by omega, ih]
    congr 1
    apply UInt8.toNat_inj.mp
    rw [UInt8.toNat_ofNat']
    omega
theorem okB_cons {l : List Int} (h : okB l) : Ris (0 :: l) ∧ ∀ x ∈ l, x ≤ 4503599627370496 :=
  ⟨List.pairwise_cons.mpr ⟨fun x hx => by have := h.2 x hx; omega, h.1⟩, fun x hx => (h.2 x hx).2⟩
theorem decB_is {s : List UInt8} {l : List Int} (h : decB s = some l) : okB l ∧ encB l = s ∧ l.length < 4294967296 := by
  unfold decB at h
  by_cases h4 : s.length < 4
  · rw [if_pos h4] at h; cases h
  · rw [if_neg h4] at h
    cases hr : rd (s.drop 4) 0 with
    | none => rw [hr] at h; cases h
    | some l' =>
      rw [hr] at h
      simp only at h
      by_cases hl : l'.length = unfL (s.take 4)
      · rw [if_pos hl] at h
        injection h with h
        subst h
        obtain ⟨j1, j2, j3⟩ := rd_is _ _ 0 l' (Nat.le_refl _) (by decide) (by decide) hr
        obtain ⟨j4, j5⟩ := List.pairwise_cons.mp j1
        have ht : (s.take 4).length = 4 := by simp; omega
        have hlt := unfL_lt (s.take 4)
        rw [ht] at hlt
        refine ⟨⟨j5, fun x hx => ⟨by have := j4 x hx; omega, j2 x hx⟩⟩, ?_, by rw [hl]; exact hlt⟩
        rw [encB, j3, hl, fixL_unfL 4 _ ht, List.take_append_drop]
      · rw [if_neg hl] at h; cases h
theorem decB_encB {l : List Int} (h : okB l) (hl : l.length < 4294967296) : decB (encB l) = some l := by
  have h4 : (fixL 4 l.length).length = 4 := fixL_length 4 _
  unfold decB encB
  have hlen : ¬ (fixL 4 l.length ++ stepsB 0 l).length < 4 := by rw [List.length_append, h4]; omega
  have hd : (fixL 4 l.length ++ stepsB 0 l).drop 4 = stepsB 0 l := by rw [List.drop_append, List.drop_of_length_le (by omega), h4]; simp
  have ht : (fixL 4 l.length ++ stepsB 0 l).take 4 = fixL 4 l.length := by rw [List.take_append, List.take_of_length_le (by omega), h4]; simp
  rw [if_neg hlen, hd, ht, rd_steps l 0 (okB_cons h).1 (okB_cons h).2 (by decide)]
  simp only
  rw [if_pos (unfL_fixL 4 _ hl).symm]
def ends (s : List UInt8) : Nat := s.countP fun c => decide (c.toNat < 128)
theorem ends_app (s t : List UInt8) : ends (s ++ t) = ends s + ends t := List.countP_append
theorem ends_smB : ∀ n, ends (smB n) = 1 := by
  intro n
  induction n using smB.induct with
  | case1 n h =>
    rw [smB_small h]
    have e : (UInt8.ofNat n).toNat = n := by rw [UInt8.toNat_ofNat']; omega
    simp only [ends, List.countP_singleton, e, decide_eq_true h, if_true]
  | case2 n h ih =>
    rw [smB_great h]
    have e : (UInt8.ofNat (128 + n % 128)).toNat = 128 + n % 128 := by rw [UInt8.toNat_ofNat']; omega
    unfold ends at ih ⊢
    rw [List.countP_cons, ih, e]
    simp
theorem ends_steps : ∀ (l : List Int) (last : Int), ends (stepsB last l) = l.length
  | [], _ => rfl
  | x :: l, last => by rw [stepsB, ends_app, ends_smB, ends_steps l x, List.length_cons]; omega
theorem decB_more {l : List Int} (hl : l.length < 4294967296) : decB (encB l ++ [1]) = none := by
  cases h : decB (encB l ++ [1]) with
  | none => rfl
  | some d =>
    exfalso
    obtain ⟨_, h2, h3⟩ := decB_is h
    unfold encB at h2
    rw [List.append_assoc] at h2
    obtain ⟨e1, e2⟩ := List.append_inj h2 (by rw [fixL_length, fixL_length])
    have e3 := congrArg unfL e1
    rw [unfL_fixL 4 _ h3, unfL_fixL 4 _ hl] at e3
    have e4 := congrArg ends e2
    rw [ends_app, ends_steps, ends_steps] at e4
    have : ends [1] = 1 := by decide
    omega
theorem stepsB_snoc : ∀ (l : List Int) (last x : Int), stepsB last (l ++ [x]) = stepsB last l ++ smB (x - (last :: l).getLast (by simp)).toNat
  | [], last, x => by simp [stepsB]
  | y :: l, last, x => by
    rw [List.cons_append, stepsB, stepsB, stepsB_snoc l y x, List.append_assoc]
    rfl
theorem encB_length {L : List Int} (h : okB L) : (encB L).length ≤ 4 + 8 * L.length := by
  have aux : ∀ (l : List Int) (last : Int), Ris (last :: l) → (∀ x ∈ l, x ≤ 4503599627370496) → 0 ≤ last → (stepsB last l).length ≤ 8 * l.length := by
    intro l
    induction l with
    | nil => intro last _ _ _; simp [stepsB]
    | cons x l ih =>
      intro last h hm h0
      obtain ⟨h1, h2⟩ := List.pairwise_cons.mp h
      have hx := h1 x (List.mem_cons_self ..)
      have hx2 := hm x (List.mem_cons_self ..)
      have := ih x h2 (fun y hy => hm y (List.mem_cons_of_mem _ hy)) (by omega)
      have := smB_bound 8 (x - last).toNat (by
        have : (128 : Nat) ^ 8 = 72057594037927936 := by decide
        omega) (by decide)
      rw [stepsB, List.length_append, List.length_cons]
      omega
  have := aux L 0 (okB_cons h).1 (okB_cons h).2 (by decide)
  rw [encB, List.length_append, fixL_length]
  omega
end Ids
end Go.Proofs.YtclmalaomofahaaGreatDoor
namespace Go.Proofs.YtclmalaomofahaaGreatDoor
set_option linter.unusedVariables false
open Go Go.RowKit Ids
namespace Ids
def lastL (L : List Int) : Int := L.getLast?.getD 0
theorem take_snoc {L : List Int} {k : Nat} {x : Int} (h : L[k]? = some x) : L.take (k + 1) = L.take k ++ [x] := by rw [List.take_add_one, h]; rfl
theorem lastL_take {L : List Int} {k : Nat} {x : Int} (h : L[k]? = some x) : lastL (L.take (k + 1)) = x := by rw [take_snoc h]; simp [lastL]
theorem lastL_mem {L : List Int} (h : L ≠ []) : lastL L ∈ L := by
  unfold lastL
  rw [List.getLast?_eq_some_getLast h]
  exact List.getLast_mem h
theorem ris_lastL : ∀ {L : List Int}, Ris L → ∀ x ∈ L, x ≤ lastL L := by
  intro L h x hx
  obtain ⟨j, hj, rfl⟩ := List.getElem_of_mem hx
  have hne : L ≠ [] := by intro e; subst e; simp at hj
  unfold lastL
  rw [List.getLast?_eq_some_getLast hne, List.getLast_eq_getElem]
  simp only [Option.getD_some]
  rcases Nat.lt_or_ge j (L.length - 1) with c | c
  · have := List.pairwise_iff_getElem.mp h j (L.length - 1) hj (by omega) c
    omega
  · have : j = L.length - 1 := by omega
    subst this
    exact Int.le_refl _
theorem okB_snoc {A : List Int} {x : Int} : okB (A ++ [x]) ↔ okB A ∧ lastL A < x ∧ x ≤ 4503599627370496 := by
  constructor
  · rintro ⟨h1, h2⟩
    obtain ⟨h3, _, h4⟩ := List.pairwise_append.mp h1
    have hx := h2 x (by simp)
    refine ⟨⟨h3, fun y hy => h2 y (by simp [hy])⟩, ?_, hx.2⟩
    by_cases he : A = []
    · subst he; simp [lastL]; omega
    · exact h4 _ (lastL_mem he) x (by simp)
  · rintro ⟨⟨h1, h2⟩, h3, h4⟩
    refine ⟨List.pairwise_append.mpr ⟨h1, List.pairwise_singleton _ _, fun y hy z hz => ?_⟩, fun y hy => ?_⟩
    · obtain rfl : z = x := by simpa using hz
      have := ris_lastL h1 y hy
      omega
    · rcases List.mem_append.mp hy with c | c
      · exact h2 y c
      · obtain rfl : y = x := by simpa using c
        refine ⟨?_, h4⟩
        by_cases he : A = []
        · subst he; simp [lastL] at h3; omega
        · have := (h2 _ (lastL_mem he)).1; omega
theorem okB_take {L : List Int} (k : Nat) (h : okB L) : okB (L.take k) := ⟨h.1.sublist (List.take_sublist _ _), fun x hx => h.2 x (List.mem_of_mem_take hx)⟩
theorem okB_next {L : List Int} {k : Nat} {x : Int} (h : L[k]? = some x) (hk : okB (L.take k)) (h1 : lastL (L.take k) < x) (h2 : x ≤ 4503599627370496) : okB (L.take (k + 1)) := by
  rw [take_snoc h]; exact okB_snoc.mpr ⟨hk, h1, h2⟩
theorem okB_no {L : List Int} {k : Nat} {x : Int} (h : L[k]? = some x) (hx : ¬ (lastL (L.take k) < x ∧ x ≤ 4503599627370496)) : ¬ okB L := fun c => by
  have := okB_take (k + 1) c
  rw [take_snoc h] at this
  exact hx (okB_snoc.mp this).2
open Classical in
noncomputable def chkE (L : List Int) : Int := if okB L then 0 else 80
theorem chkE_yes {L : List Int} (h : okB L) : chkE L = 0 := by unfold chkE; rw [if_pos h]
theorem chkE_no {L : List Int} (h : ¬ okB L) : chkE L = 80 := by unfold chkE; rw [if_neg h]
theorem okB_nil : okB [] := ⟨ris_nil, by simp⟩
end Ids
theorem retI {k : IntKind} {a b : Int} (h : b = a) : Ending.returned (.int k a) = .returned (.int k b) := by rw [h]
theorem retB {a b : Bool} (h : b = a) : Ending.returned (.bool a) = .returned (.bool b) := by rw [h]
def hasB (L : List Int) (n : Int) : Bool := L.contains n
set_option maxHeartbeats 1000000 in
theorem hasRef_any (L : List Int) (v : Value) (n : Int) (w : World) (h : IntsAt w v L) (hl : L.length ≤ maxLen) :
    Calls Tryz.prog 21 #[v, .int .i64 n] w fun e w' => e = .returned (.bool (hasB L n)) ∧ w' = w := by
  have HS := Lib.hid hl
  clear hl
  rcases h with ⟨rfl, q, c, rfl⟩ | ⟨b, off, c, rfl, hb, hc⟩
  · go_enter Tryz.func21, Tryz.ntmps21
    go_wp2
    go_loop [5] (fun i => i = .int .i64 0) (fun _ => 0)
    case atStart => rfl
    case round =>
      subst hrel
      go_wp2
      go_ret
      exact ⟨rfl, rfl⟩
  · go_enter Tryz.func21, Tryz.ntmps21
    have HC := Lib.hid hc
    clear hc
    go_wp2
    go_loop [5] (fun i => ∃ k : Nat, k ≤ L.length ∧ i = .int .i64 k ∧ Hid (hasB (L.take k) n = false)) (fun i => L.length - (intOf i).toNat)
    case atStart => exact ⟨0, Nat.zero_le _, rfl, Lib.hid rfl⟩
    case round =>
      obtain ⟨k, hk, rfl, HA⟩ := hrel
      by_cases hlt : k < L.length
      · have hcell := HC.out w rfl k hlt
        have hx : L[k]? = some L[k] := List.getElem?_eq_getElem hlt
        generalize hcc : L[k] = m at hx hcell
        by_cases hn : m = n
        · subst hn
          have HN : Hid (hasB L m = true) := Lib.hid (by simpa [hasB] using List.mem_of_getElem? hx)
          clear hx HA hcc
          go_wp2_with fail
          go_ret
          exact ⟨retB HN.out, rfl⟩
        · have HN : Hid (hasB (L.take (k + 1)) n = false) := Lib.hid (by
            have := HA.out
            rw [take_snoc hx]
            simp only [hasB, List.contains_eq_mem, decide_eq_false_iff_not] at this ⊢
            simp [this]
            exact fun c => hn c.symm)
          clear hx HA hcc
          go_wp2_with fail
          go_round
          case rel => exact ⟨k + 1, by omega, congrArg _ (wrap_s HS.out hlt), HN⟩
          case measure =>
            rw [wrap_s HS.out hlt]
            exact int_less hlt
      · obtain rfl : k = L.length := by omega
        have hx := HA.out
        rw [List.take_length] at hx
        have HE := Lib.hid hx
        clear hx HA
        go_wp2_with fail
        go_ret
        exact ⟨retB HE.out, rfl⟩
end Go.Proofs.YtclmalaomofahaaGreatDoor
namespace Go.Proofs.YtclmalaomofahaaGreatDoor
set_option linter.unusedVariables false
open Go Go.RowKit Go.Sort Ids
theorem ints_map (L : List Int) : ints L = L.map (Value.int .i64) := rfl
theorem own_nil (w : World) (base : Nat) : Own w base (.slice none 0 0) [] := World.ownsRow_nil _ _ _ _
theorem below_grow {w : World} {os : Array Obj} (B : Nat) (hB : B ≤ w.heap.size) : Below B w (grow w os) :=
  ⟨rfl, rfl, rfl, by simp, fun k hk => heap_grow_old _ _ (by omega)⟩
def srtL (L : List Int) : List Int := L.mergeSort fun x y => decide (x ≤ y)
theorem srtL_length (L : List Int) : (srtL L).length = L.length := List.length_mergeSort L
theorem sort_own (L : List Int) (u : Value) (base : Nat) (w : World) (h : Own w base u L) (hb : base ≤ w.heap.size) (hl : L.length < 4611686018427387904) :
    Calls Tryz.prog 32 #[u] w fun e w' => e = .returned (.tuple #[]) ∧ Own w' base u (srtL L) ∧ Below base w w' := by
  by_cases hu : u = .slice none 0 0
  · subst hu
    refine (Tryz.slices_Sort_int_none none 0 w).mono ?_
    rintro e w' ⟨rfl, rfl⟩
    have hL : L = [] := by
      rcases h.2 with ⟨_, h0⟩ | ⟨g, cap, cur, h0, _⟩
      · exact List.length_eq_zero_iff.mp h0
      · cases h0
    subst hL
    have e : srtL [] = [] := by simp [srtL]
    exact ⟨rfl, by rw [e]; exact h, Below.refl _ _⟩
  · obtain ⟨g, cap, rfl, hbg, hgl, hncap, hcm, hlen, hH⟩ := Lib.holds_of_ownsRow (zs := L) h hu
    refine (Tryz.slices_Sort_int g 0 cap L w hH hgl hl).mono ?_
    rintro e w' ⟨rfl, n, os, rfl⟩
    have h2 := Lib.ownsRow_putRow (q := n) (k := L.length) (ys := srtL L) h (srtL_length L) (Nat.le_refl _)
    rw [List.take_of_length_le (by rw [srtL_length]; exact Nat.le_refl _)] at h2
    have hs : (putRow (Value.int .i64) (Sort.ahead w n) g 0 (srtL L).toArray).heap.size = w.heap.size := by simp [putRow, mapBlock, Sort.ahead]
    have hB1 := Lib.below_putRow (q := n) (d := (srtL L).toArray) (enc := Value.int .i64) (Below.refl base w) hbg
    have hB2 := below_grow (w := putRow (Value.int .i64) (Sort.ahead w n) g 0 (srtL L).toArray) (os := os) _ (Nat.le_refl _)
    have h3 : Own (putRow (Value.int .i64) (Sort.ahead w n) g 0 (srtL L).toArray) base (.slice (some ⟨g, 0, none⟩) L.length cap) (srtL L) := by unfold Own; rw [srtL_length]; exact h2
    exact ⟨rfl, own_below h3 hB2, hB1.trans (hB2.mono (by rw [hs]; exact hb))⟩
theorem compact_own (L : List Int) (u : Value) (base : Nat) (w : World) (h : Own w base u L) (hb : base ≤ w.heap.size) (hl : L.length < 4611686018427387904) :
    Calls Tryz.prog 33 #[u] w fun e w' => ∃ u', e = .returned u' ∧ Own w' base u' (Lib.compact L) ∧ Below base w w' := by
  by_cases hu : u = .slice none 0 0
  · subst hu
    refine (Tryz.slices_Compact_int_empty none 0 w).mono ?_
    rintro e w' ⟨rfl, rfl⟩
    have hL : L = [] := by
      rcases h.2 with ⟨_, h0⟩ | ⟨g, cap, cur, h0, _⟩
      · exact List.length_eq_zero_iff.mp h0
      · cases h0
    subst hL
    exact ⟨_, rfl, h, Below.refl _ _⟩
  · obtain ⟨g, cap, rfl, hbg, hgl, hncap, hcm, hlen, hH⟩ := Lib.holds_of_ownsRow (zs := L) h hu
    refine (Tryz.slices_Compact_int g 0 cap L w hH (by omega) hncap).mono ?_
    rintro e w' ⟨rfl, q, rfl⟩
    have hle := Lib.compact_length_le L
    have h2 := Lib.ownsRow_putRow (q := q) (k := (Lib.compact L).length) (ys := Lib.compact L ++ List.replicate (L.length - (Lib.compact L).length) 0) h (by simp; omega) hle
    rw [List.take_left] at h2
    exact ⟨_, rfl, h2, Lib.below_putRow (Below.refl base w) hbg⟩
theorem rising_is (L : List Int) : Lib.compact (srtL L) = setL L := compact_sort L
end Go.Proofs.YtclmalaomofahaaGreatDoor
namespace Go.Proofs.YtclmalaomofahaaGreatDoor
set_option linter.unusedVariables false
open Go Go.RowKit Ids
namespace Ids
def Srch (L : List Int) (n : Int) (lo hi : Nat) : Prop := lo ≤ hi ∧ hi ≤ L.length ∧ (∀ j (h : j < L.length), j < lo → L[j] < n) ∧ (∀ j (h : j < L.length), hi ≤ j → n ≤ L[j])
theorem Srch.start (L : List Int) (n : Int) : Srch L n 0 L.length := ⟨Nat.zero_le _, Nat.le_refl _, fun _ _ h => by omega, fun _ _ h => by omega⟩
theorem ris_le {L : List Int} (h : Ris L) {i j : Nat} (hj : j < L.length) (hij : i ≤ j) : L[i] ≤ L[j] := by
  rcases Nat.lt_or_ge i j with c | c
  · have := List.pairwise_iff_getElem.mp h i j (by omega) hj c; omega
  · obtain rfl : i = j := by omega
    exact Int.le_refl _
theorem Srch.up {L : List Int} {n : Int} {lo hi m : Nat} (hL : Ris L) (h : Srch L n lo hi) (h1 : lo ≤ m) (h2 : m < hi) (hx : L[m]'(Nat.lt_of_lt_of_le h2 h.2.1) < n) : Srch L n (m + 1) hi :=
  ⟨by omega, h.2.1, fun j hj hjm => by have := ris_le hL (Nat.lt_of_lt_of_le h2 h.2.1) (show j ≤ m by omega); omega, h.2.2.2⟩
theorem Srch.down {L : List Int} {n : Int} {lo hi m : Nat} (hL : Ris L) (h : Srch L n lo hi) (h1 : lo ≤ m) (h2 : m < hi) (hx : ¬ L[m]'(Nat.lt_of_lt_of_le h2 h.2.1) < n) : Srch L n lo m :=
  ⟨h1, by have := h.2.1; omega, h.2.2.1, fun j hj hjm => by have := ris_le hL hj hjm; omega⟩
theorem Srch.there {L : List Int} {n : Int} {k : Nat} (h : Srch L n k k) (hL : Ris L) : (∃ h : k < L.length, L[k] = n) ↔ n ∈ L := by
  constructor
  · rintro ⟨hk, rfl⟩
    exact List.getElem_mem hk
  · intro hm
    obtain ⟨j, hj, e⟩ := List.getElem_of_mem hm
    rcases Nat.lt_or_ge j k with c | c
    · have := h.2.2.1 j hj c; omega
    · have h1 := h.2.2.2 k (by omega) (Nat.le_refl _)
      have h2 := ris_le hL hj c
      exact ⟨by omega, by omega⟩
theorem Srch.put {L : List Int} {n : Int} {k : Nat} (h : Srch L n k k) (hL : Ris L) : put n L = if ∃ h : k < L.length, L[k] = n then L else L.take k ++ n :: L.drop k :=
  put_at n L hL k h.2.1 h.2.2.1 (fun hk => h.2.2.2 k hk (Nat.le_refl _))
theorem half_bd {lo hi : Nat} (h : lo < hi) : lo ≤ (lo + hi) / 2 ∧ (lo + hi) / 2 < hi := by omega
theorem wrapI (n : Int) (h : -9223372036854775808 ≤ n ∧ n ≤ 9223372036854775807) : wrap64 n = n := by unfold wrap64; omega
theorem half_quo {lo hi : Nat} (h : lo + hi ≤ 9223372036854775807) : wrap64 (((lo : Int) + (hi : Int)).tdiv 2) = (((lo + hi) / 2 : Nat) : Int) := by
  rw [Int.tdiv_eq_ediv_of_nonneg (by omega), wrapI _ (by omega)]; omega
theorem meas_up {hi lo m : Nat} (h : lo ≤ m ∧ m < hi) : (intOf (.int .i64 (hi : Int))).toNat - (intOf (.int .i64 ((m + 1 : Nat) : Int))).toNat < (intOf (.int .i64 (hi : Int))).toNat - (intOf (.int .i64 (lo : Int))).toNat := by
  simp only [intOf, Int.toNat_natCast]; omega
theorem meas_dn {hi lo m : Nat} (h : lo ≤ m ∧ m < hi) : (intOf (.int .i64 (m : Int))).toNat - (intOf (.int .i64 (lo : Int))).toNat < (intOf (.int .i64 (hi : Int))).toNat - (intOf (.int .i64 (lo : Int))).toNat := by
  simp only [intOf, Int.toNat_natCast]; omega
end Ids
set_option maxHeartbeats 1000000 in
theorem in_any (L : List Int) (v : Value) (n : Int) (w : World) (h : IntsAt w v L) (hl : L.length ≤ 17592186044416) (hL : Ris L) :
    Calls Tryz.prog 35 #[v, .int .i64 n] w fun e w' => e = .returned (.bool (hasB L n)) ∧ w' = w := by
  have HS := Lib.hid hl
  have HML : Hid (L.length ≤ maxLen) := Lib.hid (by unfold maxLen; omega)
  clear hl
  have HL := Lib.hid hL
  clear hL
  rcases h with ⟨rfl, q, c, rfl⟩ | ⟨b, off, c, rfl, hb, hc⟩
  · go_enter Tryz.func35, Tryz.ntmps35
    go_wp2
    go_loop [5, 6] (fun i j => i = .int .i64 0 ∧ j = .int .i64 0) (fun _ _ => 0)
    case atStart => exact ⟨rfl, rfl⟩
    case round =>
      obtain ⟨rfl, rfl⟩ := hrel
      go_wp2
      go_ret
      exact ⟨rfl, rfl⟩
  · have HC := Lib.hid (hc w rfl)
    clear hc
    go_enter Tryz.func35, Tryz.ntmps35
    go_wp2
    go_loop [5, 6] (fun i j => ∃ lo hi : Nat, i = .int .i64 lo ∧ j = .int .i64 hi ∧ Hid (Srch L n lo hi)) (fun i j => (intOf j).toNat - (intOf i).toNat)
    case atStart => exact ⟨0, L.length, rfl, rfl, Lib.hid (Srch.start L n)⟩
    case round =>
      obtain ⟨lo, hi, rfl, rfl, HI⟩ := hrel
      have hhi := HI.out.2.1
      by_cases hlt : lo < hi
      · obtain ⟨m, hm⟩ : ∃ m, m = (lo + hi) / 2 := ⟨_, rfl⟩
        have hbd := half_bd hlt
        rw [← hm] at hbd
        have hml : m < L.length := by omega
        have hcell := HC.out m hml
        have hup := Lib.hid fun c => HI.out.up HL.out hbd.1 hbd.2 c
        have hdn := Lib.hid fun c => HI.out.down HL.out hbd.1 hbd.2 c
        generalize L[m] = x at hcell hup hdn
        have e1 : wrap64 ((lo : Int) + (hi : Int)) = (lo : Int) + (hi : Int) := wrapI _ (by have := HS.out; omega)
        have e2 := half_quo (lo := lo) (hi := hi) (by have := HS.out; omega)
        rw [← hm] at e2
        have hmz : (0 : Int) ≤ m := by omega
        have hlt' : (m : Int) < (L.length : Int) := by omega
        clear HI
        have HM := Lib.hid hm
        have HB := Lib.hid hbd
        clear hm hbd
        by_cases hx : x < n
        · have HU := Lib.hid (hup.out hx)
          clear hup hdn
          go_wp2_with fail
          go_round
          case rel => exact ⟨m + 1, hi, congrArg _ (wrap_s HML.out hml), rfl, HU⟩
          case measure => rw [wrap_s HML.out hml]; exact meas_up HB.out
        · have HU := Lib.hid (hdn.out hx)
          clear hup hdn
          go_wp2_with fail
          go_round
          case rel => exact ⟨lo, m, rfl, congrArg _ e2, HU⟩
          case measure => rw [e2]; exact meas_dn HB.out
      · obtain rfl : lo = hi := by have := HI.out.1; omega
        have HT := Lib.hid (HI.out.there HL.out)
        clear HI
        by_cases hk : lo < L.length
        · have hcell := HC.out lo hk
          generalize hx : L[lo] = x at hcell
          have HX := Lib.hid hx
          clear hx
          have hlt' : (lo : Int) < (L.length : Int) := by omega
          by_cases he : x = n
          · have HE : Hid (hasB L n = true) := Lib.hid (by simpa [hasB] using HT.out.mp ⟨hk, by rw [HX.out, he]⟩)
            subst he
            clear HT
            go_wp2_with fail
            go_ret
            exact ⟨retB HE.out, rfl⟩
          · have HE : Hid (hasB L n = false) := Lib.hid (by simp only [hasB, List.contains_eq_mem, decide_eq_false_iff_not]; exact fun c => he (by obtain ⟨_, h2⟩ := HT.out.mpr c; rw [← HX.out, h2]))
            have hxe : (x == n) = false := by simp [he]
            clear HT
            go_wp2_with fail
            go_ret
            exact ⟨retB HE.out, rfl⟩
        · obtain rfl : lo = L.length := by omega
          have HE : Hid (hasB L n = false) := Lib.hid (by simp only [hasB, List.contains_eq_mem, decide_eq_false_iff_not]; exact fun c => by obtain ⟨h1, h2⟩ := HT.out.mpr c; omega)
          clear HT
          go_wp2_with fail
          go_ret
          exact ⟨retB HE.out, rfl⟩
end Go.Proofs.YtclmalaomofahaaGreatDoor
namespace Go.Proofs.YtclmalaomofahaaGreatDoor
set_option linter.unusedVariables false
open Go Go.RowKit Ids
namespace Ids
def eqB (A B : List Int) : Bool := decide (A = B)
theorem eqB_same (A : List Int) : eqB A A = true := by simp [eqB]
end Ids
/-- Only the tape has turned. -/
def Qt (w w' : World) : Prop := w'.heap = w.heap ∧ Below w.heap.size w w'
theorem Qt.refl (w : World) : Qt w w := ⟨rfl, Below.refl _ _⟩
theorem Qt.drewN {w w' : World} (h : Qt w w') (n : Nat) : Qt w (w'.drewN n) := ⟨h.1, below_drewN h.2 n⟩
theorem Qt.block {w w' : World} (h : Qt w w') (g : Nat) : w'.heap[g]? = w.heap[g]? := by rw [h.1]
set_option maxHeartbeats 1000000 in
theorem sameRef_any (a b : List Int) (u v : Value) (w : World) (hu : IntsAt w u a) (hv : IntsAt w v b) (ha : a.length ≤ maxLen) (hb : b.length ≤ maxLen) :
    Calls Tryz.prog 16 #[u, v] w fun e w' => e = .returned (.bool (eqB a b)) ∧ Below w.heap.size w w' := by
  unfold eqB
  by_cases hl : a.length = b.length
  · rcases hu with ⟨rfl, q, c, rfl⟩ | ⟨b1, o1, c1, rfl, hb1, hc1⟩
    · obtain rfl : b = [] := by cases b with | nil => rfl | cons _ _ => simp at hl
      obtain ⟨p2, c2, rfl⟩ := hv.form
      clear hv
      go_enter Tryz.func16, Tryz.ntmps16
      go_wp2
      go_loop [5] (fun i => i = .int .i64 0) (fun _ => 0)
      case atStart => rfl
      case round =>
        subst hrel
        go_wp2
        go_ret
        exact ⟨rfl, Below.refl _ _⟩
    · rcases hv with ⟨rfl, q, c, rfl⟩ | ⟨b2, o2, c2, rfl, hb2, hc2⟩
      · obtain rfl : a = [] := by cases a with | nil => rfl | cons _ _ => simp at hl
        go_enter Tryz.func16, Tryz.ntmps16
        go_wp2
        go_loop [5] (fun i => i = .int .i64 0) (fun _ => 0)
        case atStart => rfl
        case round =>
          subst hrel
          go_wp2
          go_ret
          exact ⟨rfl, Below.refl _ _⟩
      · have H1 := Lib.hid hc1
        have H2 := Lib.hid hc2
        have HL := Lib.hid hl
        have HS := Lib.hid ha
        clear hc1 hc2 ha hb
        rw [← hl]
        clear hl
        go_enter Tryz.func16, Tryz.ntmps16
        go_wp2
        go_loopw [5] (fun i wr => ∃ k : Nat, k ≤ a.length ∧ i = .int .i64 k ∧ Hid (a.take k = b.take k) ∧ Qt w wr) (fun i _ => a.length - (intOf i).toNat)
        case atStart => exact ⟨0, Nat.zero_le _, rfl, Lib.hid rfl, Qt.refl _⟩
        case round =>
          obtain ⟨k, hk, rfl, HT, hq⟩ := hrel
          have HQ := Lib.hid hq
          clear hq
          obtain ⟨wo, rfl⟩ : ∃ wo : World, wo = wr := ⟨_, rfl⟩
          by_cases hlt : k < a.length
          · have hlt2 : k < b.length := HL.out ▸ hlt
            have g1 := H1.out wo (HQ.out.block _) k hlt
            have g2 := H2.out wo (HQ.out.block _) k hlt2
            have hta : a.take (k + 1) = a.take k ++ [a[k]] := by rw [List.take_add_one, List.getElem?_eq_getElem hlt]; rfl
            have htb : b.take (k + 1) = b.take k ++ [b[k]] := by rw [List.take_add_one, List.getElem?_eq_getElem hlt2]; rfl
            have hne : a[k] ≠ b[k] → a ≠ b := fun h e => by subst e; exact h rfl
            have HNE := Lib.hid hne
            have HTA := Lib.hid hta
            have HTB := Lib.hid htb
            clear hta htb hne
            generalize a[k] = x at *
            generalize b[k] = y at *
            by_cases hxy : x = y
            · subst hxy
              go_wp2
              go_quiet (fail)
              go_wp2
              go_roundw
              case rel => exact ⟨k + 1, by omega, congrArg _ (wrap_s HS.out hlt), Lib.hid (by rw [HTA.out, HTB.out, HT.out]), HQ.out.drewN _⟩
              case measure =>
                rw [wrap_s HS.out hlt]
                exact int_less hlt
            · have hf : decide (a = b) = false := by simp [HNE.out hxy]
              have HF := Lib.hid hf
              clear hf
              go_wp2
              go_quiet (fail)
              go_wp2
              go_ret
              exact ⟨by rw [HF.out]; rfl, (HQ.out.drewN _).2⟩
          · obtain rfl : k = a.length := by omega
            have hf : decide (a = b) = true := by
              have h := HT.out
              rw [List.take_length, HL.out, List.take_length] at h
              simp [h]
            have HF := Lib.hid hf
            clear hf
            go_wp2
            go_ret
            exact ⟨by rw [HF.out]; rfl, HQ.out.2⟩
  · obtain ⟨p1, c1, rfl⟩ := hu.form
    obtain ⟨p2, c2, rfl⟩ := hv.form
    have hf : decide (a = b) = false := by simp; rintro rfl; exact hl rfl
    rw [hf]
    have hl' : ((a.length : Int) == (b.length : Int)) = false := by simp; omega
    clear hu hv hf
    generalize a.length = n at *
    generalize b.length = m at *
    go_enter Tryz.func16, Tryz.ntmps16
    go_wp2_with fail
    go_ret
    exact ⟨rfl, Below.refl _ _⟩
end Go.Proofs.YtclmalaomofahaaGreatDoor
namespace Go.Proofs.YtclmalaomofahaaGreatDoor
set_option linter.unusedVariables false
open Go Go.RowKit Ids
/-- A slice of one number, new. -/
theorem one_int (w : World) (x : Int) : IntsAt (w.alloc (.cells #[.int .i64 x] 3)) (.slice (some ⟨w.heap.size, 0, none⟩) 1 1) [x] := new_ints w [x] 1 rfl
/-- An own row laid over from place k + 1 on with what stood from k on. -/
theorem own_splice {w' : World} {base g cap : Nat} {M cs : List Int} {cur : Array Value} (off : Nat) (hg : base ≤ g) (h1 : M.length ≤ cap) (h2 : cap ≤ maxLen) (h3 : cur.size = cap) (h4 : cur.toList.take M.length = ints M)
    (hoff : off + cs.length = M.length) (hw : w'.heap[g]? = some (.cells (splice cur.toList off (ints cs)).toArray 3 (0, 0))) :
    Own w' base (.slice (some ⟨g, 0, none⟩) M.length cap) (M.take off ++ cs) := by
  have hlen : (M.take off ++ cs).length = M.length := by simp; omega
  have hcur : cur.toList.take off = ints (M.take off) := by
    have e : (cur.toList.take M.length).take off = (ints M).take off := by rw [h4]
    rw [List.take_take, Nat.min_eq_left (by omega)] at e
    rw [e]; simp [ints]
  have hl : (ints cs).length = cs.length := ints_length cs
  refine ⟨by rw [ints_length, Nat.mul_one], .inr ⟨g, cap, _, by rw [hlen], hg, hw, by rw [hlen]; exact h1, h2, ?_, ?_⟩⟩
  · have := length_splice cur.toList off (ints cs) (by have e := Array.length_toList (xs := cur); omega)
    simp only [List.size_toArray, this, Array.length_toList, Nat.mul_one]; exact h3
  · rw [hlen, Nat.mul_one]
    have e : (splice cur.toList off (ints cs)).toArray.toList = (cur.toList.take off ++ ints cs) ++ cur.toList.drop (off + (ints cs).length) := by simp [splice]
    rw [e, hcur, List.take_append_of_le_length (by simp [ints]; omega), List.take_of_length_le (by simp [ints]; omega)]
    simp [ints]
theorem put_set (L : List Int) (n : Int) (k : Nat) (hk : k ≤ L.length) : (((L ++ [0]).take (k + 1)) ++ L.drop k).set k n = L.take k ++ n :: L.drop k := by
  have e : (L ++ [0]).take (k + 1) = L.take k ++ [(L ++ [0])[k]'(by simp; omega)] := by
    rw [List.take_succ_eq_append_getElem (by simp; omega), List.take_append_of_le_length hk]
  rw [e, List.append_assoc, List.set_append_right _ _ (by simp; omega)]
  simp [Nat.min_eq_left hk]
theorem put_done {w4 : World} {base g cap lo K : Nat} {L : List Int} {n : Int} {cur : Array Value} (hgb : base ≤ g) (h : (L ++ [0]).length ≤ cap ∧ cap ≤ maxLen ∧ cur.size = cap ∧ cur.toList.take (L ++ [0]).length = ints (L ++ [0])) (hK : K = lo + 1) (hlo : lo ≤ L.length)
    (hg : w4.heap[g]? = some (.cells (splice cur.toList K (ints (L.drop lo))).toArray 3 (0, 0))) :
    ∃ y : Int, w4.cell? ⟨g, lo, none⟩ = some (.int .i64 y) ∧ w4.frozen? ⟨g, lo, none⟩ = false ∧ Own (w4.setCell ⟨g, lo, none⟩ (.int .i64 n)) base (.slice (some ⟨g, 0, none⟩) (L.length + 1) cap) (L.take lo ++ n :: L.drop lo) := by
  obtain ⟨h1, h2, h3, h4⟩ := h
  subst hK
  have O := own_splice (M := L ++ [0]) (cs := L.drop lo) (lo + 1) hgb h1 h2 h3 h4 (by simp; omega) hg
  have hx : ((L ++ [0]).take (lo + 1) ++ L.drop lo)[lo]? = some ((L ++ [0])[lo]'(by simp; omega)) := by
    rw [List.getElem?_append_left (by simp; omega), List.getElem?_take_of_lt (by omega), List.getElem?_eq_getElem]
  obtain ⟨c, f, s⟩ := own_cell O lo _ hx
  have s' := s n
  rw [put_set L n lo hlo] at s'
  rw [List.length_append] at s'
  exact ⟨_, c, f, s'⟩
set_option maxRecDepth 100000 in
set_option maxHeartbeats 4000000 in
theorem put_any (L : List Int) (v : Value) (n : Int) (base : Nat) (w : World) (h : Own w base v L) (hl : L.length + 1 ≤ 17592186044416) (hL : Ris L) (hbase : base ≤ w.heap.size) :
    Calls Tryz.prog 34 #[v, .int .i64 n] w fun e w' => ∃ u, e = .returned u ∧ Own w' base u (put n L) ∧ Below base w w' := by
  have HS := Lib.hid hl
  have HML : Hid (L.length ≤ maxLen) := Lib.hid (by unfold maxLen; omega)
  have HL := Lib.hid hL
  have HO := Lib.hid h
  have HB := Lib.hid hbase
  obtain ⟨p, c, hv⟩ := h.at.form
  have HAT := Lib.hid h.at
  clear hl hL h hbase
  subst hv
  have HC : Hid (∀ k (hk : k < L.length), ∃ b off, p = some ⟨b, off, none⟩ ∧ w.cell? ⟨b, off + k, none⟩ = some (.int .i64 L[k])) := Lib.hid (by
    intro k hk
    rcases HAT.out with ⟨h0, _⟩ | ⟨b, off, c2, e, _, hc⟩
    · subst h0; simp at hk
    · injection e with e1
      exact ⟨b, off, e1, hc w rfl k hk⟩)
  go_enter Tryz.func34, Tryz.ntmps34
  go_wp2
  go_loop [5, 6] (fun i j => ∃ lo hi : Nat, i = .int .i64 lo ∧ j = .int .i64 hi ∧ Hid (Srch L n lo hi)) (fun i j => (intOf j).toNat - (intOf i).toNat)
  case atStart => exact ⟨0, L.length, rfl, rfl, Lib.hid (Srch.start L n)⟩
  case round =>
    obtain ⟨lo, hi, rfl, rfl, HI⟩ := hrel
    have hhi := HI.out.2.1
    by_cases hlt : lo < hi
    · obtain ⟨m, hm⟩ : ∃ m, m = (lo + hi) / 2 := ⟨_, rfl⟩
      have hbd := half_bd hlt
      rw [← hm] at hbd
      have hml : m < L.length := by omega
      obtain ⟨b, off, rfl, hcell⟩ := HC.out m hml
      have hup := Lib.hid fun c => HI.out.up HL.out hbd.1 hbd.2 c
      have hdn := Lib.hid fun c => HI.out.down HL.out hbd.1 hbd.2 c
      generalize L[m] = x at hcell hup hdn
      have e1 : wrap64 ((lo : Int) + (hi : Int)) = (lo : Int) + (hi : Int) := wrapI _ (by have := HS.out; omega)
      have e2 := half_quo (lo := lo) (hi := hi) (by have := HS.out; omega)
      rw [← hm] at e2
      have hmz : (0 : Int) ≤ m := by omega
      have hlt' : (m : Int) < (L.length : Int) := by omega
      clear HI
      have HM := Lib.hid hm
      have HBD := Lib.hid hbd
      clear hm hbd
      by_cases hx : x < n
      · have HU := Lib.hid (hup.out hx)
        clear hup hdn
        go_wp2_with fail
        go_round
        case rel => exact ⟨m + 1, hi, congrArg _ (wrap_s HML.out hml), rfl, HU⟩
        case measure => rw [wrap_s HML.out hml]; exact meas_up HBD.out
      · have HU := Lib.hid (hdn.out hx)
        clear hup hdn
        go_wp2_with fail
        go_round
        case rel => exact ⟨lo, m, rfl, congrArg _ e2, HU⟩
        case measure => rw [e2]; exact meas_dn HBD.out
    · obtain rfl : lo = hi := by have := HI.out.1; omega
      have HT := Lib.hid (HI.out.put HL.out)
      clear HI
      by_cases hin : ∃ hk : lo < L.length, L[lo] = n
      · obtain ⟨hk, he⟩ := hin
        obtain ⟨b, off, rfl, hcell⟩ := HC.out lo hk
        have hlt' : (lo : Int) < (L.length : Int) := by omega
        have HE : Hid (put n L = L) := Lib.hid (by rw [HT.out, if_pos ⟨hk, he⟩])
        rw [he] at hcell
        clear HT he
        go_wp2_with fail
        go_ret
        exact ⟨_, rfl, by rw [HE.out]; exact HO.out, Below.refl _ _⟩
      · have HN : Hid (put n L = L.take lo ++ n :: L.drop lo) := Lib.hid (by rw [HT.out, if_neg hin])
        have hcase : (∃ b off x, p = some ⟨b, off, none⟩ ∧ w.cell? ⟨b, off + lo, none⟩ = some (.int .i64 x) ∧ (x == n) = false ∧ (lo : Int) < (L.length : Int)) ∨ ¬ (lo : Int) < (L.length : Int) := by
          by_cases hk : lo < L.length
          · obtain ⟨b, off, rfl, hcell⟩ := HC.out lo hk
            exact .inl ⟨b, off, _, rfl, hcell, by simp; exact fun e => hin ⟨hk, e⟩, by omega⟩
          · exact .inr (by omega)
        clear HT hin hlt
        have HLO := Lib.hid hhi
        obtain ⟨v1, w1, hr, ho1, hg1⟩ := append_ints (w := w.alloc (.cells #[.int .i64 0] 3)) (own_below HO.out (below_new w _)) (one_int w 0) (by have := HS.out; simp; omega) (by have := HB.out; simp; omega)
        obtain ⟨g, cap, hv1, hgb, hgl⟩ := own_form ho1 (by simp)
        subst hv1
        have HB1 : Hid (Below base w w1) := Lib.hid (((Below.refl base w).alloc HB.out _).grown hg1 (by have := HB.out; simp; omega) (fun j hj => (HO.out.block j hj).1))
        have HO1 := Lib.hid ho1
        have HGB := Lib.hid hgb
        have HG : Hid (∃ cur : Array Value, w1.heap[g]? = some (.cells cur.toList.toArray 3 (0, 0)) ∧ (L ++ [0]).length ≤ cap ∧ cap ≤ maxLen ∧ cur.size = cap ∧ cur.toList.take (L ++ [0]).length = ints (L ++ [0])) := Lib.hid (by
          rcases ho1.2 with ⟨h0, _⟩ | ⟨g2, cap2, cur, he, hb, hg, h1, h2, h3, h4⟩
          · cases h0
          · injection he with e1 e2 e3
            injection e1 with e1
            injection e1 with e1
            subst e1 e3
            exact ⟨cur, by simpa using hg, h1, h2, by simpa using h3, by simpa using h4⟩)
        clear ho1 hg1 hgb
        rw [List.length_append] at hr
        simp only [List.length_cons, List.length_nil, Nat.zero_add] at hr
        obtain ⟨cur, HGc, HG4⟩ := HG.out
        have HGD : w1.drew.heap[g]? = some (.cells cur.toList.toArray 3 (0, 0)) := HGc
        have HG4 := Lib.hid HG4
        have HBD := HB1.out.drew
        have hcs : (ints (L.drop lo)).length = L.length - lo := by simp [ints]
        have hcell : ∀ j v, (ints (L.drop lo))[j]? = some v → w1.drew.cell? ((⟨g, lo, none⟩ : Addr).add j) = some v := by
          intro j v hj
          have ha : (⟨g, lo, none⟩ : Addr).add j = ⟨g, lo + j, none⟩ := by unfold Addr.add; split <;> simp_all
          rw [ha]
          have hj' : j < L.length - lo := by
            rcases Nat.lt_or_ge j (L.length - lo) with c | c
            · exact c
            · rw [List.getElem?_eq_none (by rw [hcs]; exact c)] at hj; cases hj
          have hx : (L ++ [0])[lo + j]? = some L[lo + j] := by rw [List.getElem?_append_left (by omega), List.getElem?_eq_getElem (by omega)]
          have h1 := (own_cell HO1.out (lo + j) _ hx).1
          simp [ints, List.getElem?_drop, List.getElem?_eq_getElem (show lo + j < L.length by omega)] at hj
          rw [← hj]; exact h1
        have hone : ∀ v ∈ ints (L.drop lo), v.oneCell' = true := by
          intro v hv
          simp only [ints, List.mem_map] at hv
          obtain ⟨y, _, rfl⟩ := hv
          rfl
        have HCS := Lib.hid hcs
        have HCELL := Lib.hid hcell
        have HONE := Lib.hid hone
        have HGD' := Lib.hid HGD
        have HBD' := Lib.hid HBD
        obtain ⟨K, hK⟩ : ∃ K, K = lo + 1 := ⟨_, rfl⟩
        have hK0 : (0 : Int) ≤ (K : Int) := by omega
        have hK1 : (K : Int) ≤ (L.length : Int) + 1 := by omega
        have hlo0 : (0 : Int) ≤ (lo : Int) := by omega
        have hlo2 : (lo : Int) < (L.length : Int) + 1 := by omega
        have hlo1 : (lo : Int) ≤ (L.length : Int) + 1 := by omega
        have hcl : (cap = lo) = False := by simp; have := HG4.out.1; simp at this; omega
        have HN0 : Hid ((ints (L.drop lo)).length = Nat.min (L.length + 1 - lo) (L.length + 1 - K)) := Lib.hid (by rw [HCS.out]; have := HLO.out; show _ = min _ _; omega)
        have HFIT : Hid (K + (ints (L.drop lo)).length ≤ cur.toList.length) := Lib.hid (by have h1 := HG4.out.1; have h2 := HG4.out.2.2.1; have h3 := HLO.out; have h4 := Array.length_toList (xs := cur); rw [List.length_append] at h1; simp only [List.length_cons, List.length_nil] at h1; rw [HCS.out]; omega)
        have hl1 : IntKind.i64.wrap ((lo : Int) + 1) = (K : Int) := by rw [IntKind.wrap_i64]; have := HS.out; have := HLO.out; omega
        have hl2 : wrap64 ((lo : Int) + 1) = (K : Int) := by rw [wrapI _ (by have := HS.out; have := HLO.out; omega)]; omega
        have HK := Lib.hid hK
        clear hK
        clear hcs hcell hone HGD HBD HGc HG HML HL HC HAT
        by_cases hcK0 : cap = K
        · have HCS0 : Hid ((ints (L.drop lo)).length = 0) := Lib.hid (by have := HG4.out.1; have := HK.out; have := HLO.out; simp [ints] at *; omega)
          have hcK : (cap = K) = True := by simp [hcK0]
          clear hcK0
          rcases hcase with ⟨b, off, x, rfl, hcell, hxe, hlt'⟩ | hnl
          all_goals
            go_wp2_with (at_builtin; refine wpList_append_run rfl _ _ _ _ rfl _ _ _ _ rfl rfl hr ?_)
            go_still_tail 7, (by kernel_rfl)
            change wpList _ _ _ _ _ w1.drew
            refine wpList_copy_splice rfl (.tmp 45) (.tmp 48) 38 38 rfl 3 Tryz.underlying38 (by kernel_rfl) _ _ _ _ _ _ rfl rfl g K cur.toList 3 HGD'.out (ints (L.drop lo)) HN0.out (fun h => absurd h (HCS0.out ▸ Nat.lt_irrefl 0)) HFIT.out HONE.out base w HBD'.out HGB.out ?_
            intro w4 hg4 hb4
            obtain ⟨y, c4, f4, s4⟩ := put_done HGB.out HG4.out HK.out HLO.out hg4.out
            have HS4 : Hid (Own (w4.setCell ⟨g, lo, none⟩ (.int .i64 n)) base (.slice (some ⟨g, 0, none⟩) (L.length + 1) cap) (L.take lo ++ n :: L.drop lo)) := Lib.hid s4
            clear s4
            go_wp2_with fail
            go_ret
            exact ⟨_, rfl, by rw [HN.out]; exact HS4.out, hb4.setCell HGB.out _⟩
        · have hcK : (cap = K) = False := by simp [hcK0]
          clear hcK0
          rcases hcase with ⟨b, off, x, rfl, hcell, hxe, hlt'⟩ | hnl
          all_goals
            go_wp2_with (at_builtin; refine wpList_append_run rfl _ _ _ _ rfl _ _ _ _ rfl rfl hr ?_)
            go_still_tail 7, (by kernel_rfl)
            change wpList _ _ _ _ _ w1.drew
            refine wpList_copy_splice rfl (.tmp 45) (.tmp 48) 38 38 rfl 3 Tryz.underlying38 (by kernel_rfl) _ _ _ _ _ _ rfl rfl g K cur.toList 3 HGD'.out (ints (L.drop lo)) HN0.out (fun h => ⟨by simp, ⟨g, lo, none⟩, by simp, HCELL.out⟩) HFIT.out HONE.out base w HBD'.out HGB.out ?_
            intro w4 hg4 hb4
            obtain ⟨y, c4, f4, s4⟩ := put_done HGB.out HG4.out HK.out HLO.out hg4.out
            have HS4 : Hid (Own (w4.setCell ⟨g, lo, none⟩ (.int .i64 n)) base (.slice (some ⟨g, 0, none⟩) (L.length + 1) cap) (L.take lo ++ n :: L.drop lo)) := Lib.hid s4
            clear s4
            go_wp2_with fail
            go_ret
            exact ⟨_, rfl, by rw [HN.out]; exact HS4.out, hb4.setCell HGB.out _⟩
end Go.Proofs.YtclmalaomofahaaGreatDoor
namespace Go.Proofs.YtclmalaomofahaaGreatDoor
set_option linter.unusedVariables false
open Go Go.RowKit Ids
/-- Where the numbers of a row lie, in every world that keeps it. -/
theorem row_cells {w : World} {p : Option Addr} {c : Nat} {L : List Int} (h : IntsAt w (.slice p L.length c) L) : ∀ k (hk : k < L.length), ∃ b off, p = some ⟨b, off, none⟩ ∧ ∀ wr, Below w.heap.size w wr → wr.cell? ⟨b, off + k, none⟩ = some (.int .i64 L[k]) := by
  intro k hk
  rcases h with ⟨h0, _⟩ | ⟨b, off, c2, e, hb, hc⟩
  · subst h0; simp at hk
  · injection e with e1
    exact ⟨b, off, e1, fun wr hw => hc wr (hw.block b hb) k hk⟩
set_option maxHeartbeats 1000000 in
theorem set_any (L : List Int) (v : Value) (w : World) (h : IntsAt w v L) (hl : L.length ≤ 17592186044416) :
    Calls Tryz.prog 24 #[v] w fun e w' => ∃ u, e = .returned u ∧ Own w' w.heap.size u (setL L) ∧ Below w.heap.size w w' := by
  obtain ⟨p, c, rfl⟩ := h.form
  have HC := Lib.hid (row_cells h)
  have HS := Lib.hid hl
  have HML : Hid (L.length ≤ maxLen) := Lib.hid (by unfold maxLen; omega)
  clear h hl
  go_enter Tryz.func24, Tryz.ntmps24
  go_wp2
  go_loopw [3, 4] (fun s i wr => ∃ k : Nat, k ≤ L.length ∧ i = .int .i64 k ∧ Own wr w.heap.size s (putAll (L.take k) []) ∧ Below w.heap.size w wr) (fun _ i _ => L.length - (intOf i).toNat)
  case atStart => exact ⟨0, Nat.zero_le _, rfl, own_nil _ _, Below.refl _ _⟩
  case round =>
    obtain ⟨k, hk, rfl, ho, hb⟩ := hrel
    have HB := Lib.hid hb
    have HO := Lib.hid ho
    clear ho hb
    obtain ⟨wo, rfl⟩ : ∃ wo : World, wo = wr := ⟨_, rfl⟩
    by_cases hlt : k < L.length
    · obtain ⟨b, off, rfl, hc⟩ := HC.out k hlt
      have hcell := hc wo HB.out
      have hlt' : (k : Int) < (L.length : Int) := by omega
      have hsn := putAll_snoc L [] k hlt
      generalize L[k] = x at hcell hsn
      have CP := Lib.hid (put_any (putAll (L.take k) []) _ x w.heap.size wo HO.out (by have h1 := (putAll_length (L.take k) []).2; have h2 := HS.out; rw [List.length_take] at h1; simp only [List.length_nil] at h1; omega) (ris_putAll _ _ ris_nil) HB.out.size)
      have HSN := Lib.hid hsn
      clear hc hsn
      go_wp2_with (go_at_call 34; refine CP.out.mono ?_; rintro e w2 ⟨u, rfl, ho2, hb2⟩)
      rw [← HSN.out] at ho2
      go_roundw
      case rel => exact ⟨k + 1, by omega, congrArg _ (wrap_s HML.out hlt), ho2, HB.out.trans hb2⟩
      case measure =>
        rw [wrap_s HML.out hlt]
        exact int_less hlt
    · obtain rfl : k = L.length := by omega
      have ho := HO.out
      rw [List.take_length] at ho
      have HOE := Lib.hid ho
      clear ho HO
      go_wp2_with fail
      go_ret
      exact ⟨_, rfl, HOE.out, HB.out⟩
set_option maxHeartbeats 1000000 in
theorem unionRef_any (a b : List Int) (u v : Value) (w : World) (hu : IntsAt w u a) (hv : IntsAt w v b) (hl : a.length + b.length ≤ 17592186044416) :
    Calls Tryz.prog 23 #[u, v] w fun e w' => ∃ x, e = .returned x ∧ Own w' w.heap.size x (uniL a b) ∧ Below w.heap.size w w' := by
  have C1 := Lib.hid (set_any a u w hu (by omega))
  obtain ⟨p, c, rfl⟩ := hv.form
  have HC := Lib.hid (row_cells hv)
  have HS := Lib.hid hl
  have HML : Hid (b.length ≤ maxLen) := Lib.hid (by unfold maxLen; omega)
  clear hu hv hl
  go_enter Tryz.func23, Tryz.ntmps23
  go_wp2_with (go_at_call 24; refine C1.out.mono ?_; rintro e w1 ⟨s0, rfl, ho0, hb0⟩; have HO0 := Lib.hid ho0; have HB0 := Lib.hid hb0; clear ho0 hb0)
  go_loopw [5, 6] (fun s i wr => ∃ k : Nat, k ≤ b.length ∧ i = .int .i64 k ∧ Own wr w.heap.size s (putAll (b.take k) (setL a)) ∧ Below w.heap.size w wr) (fun _ i _ => b.length - (intOf i).toNat)
  case atStart => exact ⟨0, Nat.zero_le _, rfl, HO0.out, HB0.out⟩
  case round =>
    obtain ⟨k, hk, rfl, ho, hb⟩ := hrel
    have HB := Lib.hid hb
    have HO := Lib.hid ho
    clear ho hb
    obtain ⟨wo, rfl⟩ : ∃ wo : World, wo = wr := ⟨_, rfl⟩
    by_cases hlt : k < b.length
    · obtain ⟨b1, off, rfl, hc⟩ := HC.out k hlt
      have hcell := hc wo HB.out
      have hlt' : (k : Int) < (b.length : Int) := by omega
      have hsn := putAll_snoc b (setL a) k hlt
      generalize b[k] = x at hcell hsn
      have CP := Lib.hid (put_any (putAll (b.take k) (setL a)) _ x w.heap.size wo HO.out (by have h1 := (putAll_length (b.take k) (setL a)).2; have h2 := HS.out; have h3 := setL_length a; rw [List.length_take] at h1; omega) (ris_putAll _ _ (ris_setL a)) HB.out.size)
      have HSN := Lib.hid hsn
      clear hc hsn
      go_wp2_with (go_at_call 34; refine CP.out.mono ?_; rintro e w2 ⟨u, rfl, ho2, hb2⟩)
      rw [← HSN.out] at ho2
      go_roundw
      case rel => exact ⟨k + 1, by omega, congrArg _ (wrap_s HML.out hlt), ho2, HB.out.trans hb2⟩
      case measure =>
        rw [wrap_s HML.out hlt]
        exact int_less hlt
    · obtain rfl : k = b.length := by omega
      have ho := HO.out
      rw [List.take_length] at ho
      have HOE := Lib.hid ho
      clear ho HO
      go_wp2_with fail
      go_ret
      exact ⟨_, rfl, HOE.out, HB.out⟩
/-- One number behind an own row. -/
theorem append_one {w : World} {base : Nat} {v : Value} {A : List Int} (x : Int) (h : Own w base v A) (hb : (A.length + 1) * 8 ≤ 140737488355328) (hbase : base ≤ w.heap.size) :
    ∃ v' w', (∀ ty, (Builtin.append_ #[38, 38] ty #[v, .slice (some ⟨w.heap.size, 0, none⟩) 1 1]).run Tryz.prog (w.alloc (.cells #[.int .i64 x] 3)) = .ok v' w') ∧ Own w' base v' (A ++ [x]) ∧ Below base w w' := by
  obtain ⟨v', w', hr, ho, hg⟩ := append_ints (own_below h (below_new w (.cells #[.int .i64 x] 3))) (one_int w x) (by simpa using hb) (by simp; omega)
  exact ⟨v', w', hr, ho, ((Below.refl base w).alloc hbase _).grown hg (by simp; omega) (fun j hj => (h.block j hj).1)⟩
theorem filter_snoc {p : Int → Bool} {S : List Int} {k : Nat} {x : Int} (h : S[k]? = some x) : (S.take (k + 1)).filter p = (S.take k).filter p ++ (if p x then [x] else []) := by
  rw [take_snoc h, List.filter_append]; simp only [List.filter_cons, List.filter_nil]
set_option maxHeartbeats 1000000 in
theorem interRef_any (a b : List Int) (u v : Value) (w : World) (hu : IntsAt w u a) (hv : IntsAt w v b) (hl : a.length ≤ 17592186044416) (hl2 : b.length ≤ 17592186044416) :
    Calls Tryz.prog 22 #[u, v] w fun e w' => ∃ x, e = .returned x ∧ Own w' w.heap.size x (interL a b) ∧ Below w.heap.size w w' := by
  have C1 := Lib.hid (set_any a u w hu hl)
  have C2 := Lib.hid fun wx (hq : Below w.heap.size w wx) => set_any b v wx (hv.below hq) hl2
  have HS1 := Lib.hid (show (setL a).length ≤ 17592186044416 by have := setL_length a; omega)
  have HS2 := Lib.hid (show (setL b).length ≤ 17592186044416 by have := setL_length b; omega)
  have HML : Hid ((setL a).length ≤ maxLen) := Lib.hid (by have := HS1.out; unfold maxLen; omega)
  clear hu hv hl hl2
  go_enter Tryz.func22, Tryz.ntmps22
  go_wp2_with (first
    | (go_at_call 24; refine C1.out.mono ?_; clear C1; rintro e w1 ⟨s0, rfl, ho0, hb0⟩; obtain ⟨p0, c0, hs0⟩ := ho0.at.form; subst hs0; have HO0 := Lib.hid ho0; have HB0 := Lib.hid hb0; clear ho0 hb0)
    | (go_at_call 24; refine (C2.out _ HB0.out).mono ?_; clear C2; rintro e w2 ⟨s1, rfl, ho1, hb1⟩; obtain ⟨p1, c1, hs1⟩ := ho1.at.form; subst hs1; have HO1 := Lib.hid ho1; have HB1 := Lib.hid hb1; clear ho1 hb1))
  have HB2 : Hid (Below w.heap.size w w2) := Lib.hid (HB0.out.trans (HB1.out.mono HB0.out.size))
  have HI0 : Hid (IntsAt w2 (.slice p0 (setL a).length c0) (setL a)) := Lib.hid (HO0.out.at.below HB1.out)
  have HI1 : Hid (IntsAt w2 (.slice p1 (setL b).length c1) (setL b)) := Lib.hid HO1.out.at
  have HC := Lib.hid (row_cells HI0.out)
  clear HO0 HO1 HB0 HB1
  go_loopw [5, 6] (fun s i wr => ∃ k : Nat, k ≤ (setL a).length ∧ i = .int .i64 k ∧ Own wr w2.heap.size s (((setL a).take k).filter (fun n => decide (n ∈ setL b))) ∧ Below w2.heap.size w2 wr) (fun _ i _ => (setL a).length - (intOf i).toNat)
  case atStart => exact ⟨0, Nat.zero_le _, rfl, own_nil _ _, Below.refl _ _⟩
  case round =>
    obtain ⟨k, hk, rfl, ho, hb⟩ := hrel
    have HB := Lib.hid hb
    have HO := Lib.hid ho
    clear ho hb
    obtain ⟨wo, rfl⟩ : ∃ wo : World, wo = wr := ⟨_, rfl⟩
    by_cases hlt : k < (setL a).length
    · obtain ⟨b1, off, rfl, hc⟩ := HC.out k hlt
      have hcell := hc wo HB.out
      have hlt' : (k : Int) < ((setL a).length : Int) := by omega
      have hx : (setL a)[k]? = some (setL a)[k] := List.getElem?_eq_getElem hlt
      generalize (setL a)[k] = x at hcell hx
      have HF := Lib.hid (filter_snoc (p := (fun n => decide (n ∈ setL b))) hx)
      have CI := Lib.hid (in_any (setL b) _ x wo (HI1.out.below HB.out) HS2.out (ris_setL b))
      have hin : (fun n => decide (n ∈ setL b)) x = hasB (setL b) x := by simp [hasB]
      obtain ⟨v3, w3, hr3, ho3, hb3⟩ := append_one x HO.out (by have h1 := List.length_filter_le (fun n => decide (n ∈ setL b)) ((setL a).take k); have h2 := HS1.out; rw [List.length_take] at h1; omega) HB.out.size
      have HO3 := Lib.hid ho3
      have HB3 := Lib.hid (HB.out.trans hb3)
      have HR3 := Lib.hid hr3
      clear hc hx ho3 hb3 hr3
      cases hbx : hasB (setL b) x with
      | true =>
        rw [hbx] at CI hin
        have HFX : Hid (((setL a).take (k + 1)).filter (fun n => decide (n ∈ setL b)) = ((setL a).take k).filter (fun n => decide (n ∈ setL b)) ++ [x]) := Lib.hid (by rw [HF.out, if_pos (by simpa using hin)])
        clear HF hin hbx
        have hr := HR3.out
        go_wp2_with (first
          | (go_at_call 35; refine CI.out.mono ?_; rintro e w4 ⟨rfl, rfl⟩)
          | (at_builtin; refine wpList_append_run rfl _ _ _ _ rfl _ _ _ _ rfl rfl hr ?_))
        go_roundw
        case rel => exact ⟨k + 1, by omega, congrArg _ (wrap_s HML.out hlt), by rw [HFX.out]; exact HO3.out, HB3.out⟩
        case measure =>
          rw [wrap_s HML.out hlt]
          exact int_less hlt
      | false =>
        rw [hbx] at CI hin
        have HFX : Hid (((setL a).take (k + 1)).filter (fun n => decide (n ∈ setL b)) = ((setL a).take k).filter (fun n => decide (n ∈ setL b))) := Lib.hid (by rw [HF.out, if_neg (by simpa using hin), List.append_nil])
        clear HF hin hbx HR3 HO3 HB3
        go_wp2_with (go_at_call 35; refine CI.out.mono ?_; rintro e w4 ⟨rfl, rfl⟩)
        go_roundw
        case rel => exact ⟨k + 1, by omega, congrArg _ (wrap_s HML.out hlt), by rw [HFX.out]; exact HO.out, HB.out⟩
        case measure =>
          rw [wrap_s HML.out hlt]
          exact int_less hlt
    · obtain rfl : k = (setL a).length := by omega
      have ho := HO.out
      rw [List.take_length] at ho
      have HOE : Hid (Own wo w2.heap.size _ (interL a b)) := Lib.hid ho
      clear ho HO
      go_wp2_with fail
      go_ret
      exact ⟨_, rfl, own_base HOE.out HB2.out.size, HB2.out.trans (HB.out.mono HB2.out.size)⟩
end Go.Proofs.YtclmalaomofahaaGreatDoor
