/- The plain mathematics of whole numbers (draws, quotients, roots, bytes, check sums): what the walks over package num and over the document's own answers speak of. No condition but those that each theorem names. -/
import Derived.Laws.Bits64
import Derived.Laws.BitsAllLaws
import Derived.IntWalk
import Derived.Lib.BitFns
namespace Go.Proofs.Ytfgmkdghpdpdkaa
open Go.RowKit

/-! ### draws -/
def dN (a : Int) : Int := IntKind.u64.wrap (a + 11400714819323198485)
def dA (x : Int) : Int := IntKind.u64.wrap (bits .xor .u64 x (x / 1073741824) * 13787848793156543929)
def dB (x : Int) : Int := IntKind.u64.wrap (bits .xor .u64 x (x / 134217728) * 10723151780598845931)
def dC (x : Int) : Int := bits .xor .u64 x (x / 2147483648)
def dZ (a : Int) : Int := dC (dB (dA (dN a)))

theorem u64_bd (x : Int) : 0 ≤ IntKind.u64.wrap x ∧ IntKind.u64.wrap x ≤ 18446744073709551615 := by
  rw [IntKind.wrap_u64]; omega
theorem dN_bd (a : Int) : 0 ≤ dN a ∧ dN a ≤ 18446744073709551615 := u64_bd _
theorem dA_bd (a : Int) : 0 ≤ dA a ∧ dA a ≤ 18446744073709551615 := u64_bd _
theorem dB_bd (a : Int) : 0 ≤ dB a ∧ dB a ≤ 18446744073709551615 := u64_bd _
theorem bits_u64_bd (op : BinOp) (x y : Int) : 0 ≤ bits op .u64 x y ∧ bits op .u64 x y ≤ 18446744073709551615 := by
  unfold bits; split <;> first | exact u64_bd _ | (constructor <;> simp)
theorem dC_bd (a : Int) : 0 ≤ dC a ∧ dC a ≤ 18446744073709551615 := bits_u64_bd _ _ _
theorem dZ_bd (a : Int) : 0 ≤ dZ a ∧ dZ a ≤ 18446744073709551615 := dC_bd _

theorem dN_inj (a b : Int) (ha : 0 ≤ a) (ha' : a ≤ 18446744073709551615) (hb : 0 ≤ b) (hb' : b ≤ 18446744073709551615) (h : dN a = dN b) : a = b := by
  unfold dN at h; rw [IntKind.wrap_u64, IntKind.wrap_u64] at h; omega
theorem xor_zero {x y : Nat} (h : x ^^^ y = 0) : x = y := by
  have e : x ^^^ y ^^^ y = 0 ^^^ y := by rw [h]
  simpa [Nat.xor_assoc] using e
theorem xshift_inj (x y s : Nat) (hs : 2 ≤ s) (hp : ∃ k, s = 2 ^ k) (h : x ^^^ x / s = y ^^^ y / s) : x = y := by
  obtain ⟨k, rfl⟩ := hp
  have h1 : x ^^^ y = x / 2 ^ k ^^^ y / 2 ^ k := by
    have e : (x ^^^ x / 2 ^ k) ^^^ (y ^^^ y / 2 ^ k) = 0 := by rw [h]; simp
    have e2 : (x ^^^ y) ^^^ (x / 2 ^ k ^^^ y / 2 ^ k) = 0 := by
      rw [← e]; ac_rfl
    exact xor_zero e2
  have h2 : x / 2 ^ k ^^^ y / 2 ^ k = (x ^^^ y) / 2 ^ k := by
    rw [← Nat.shiftRight_eq_div_pow, ← Nat.shiftRight_eq_div_pow, ← Nat.shiftRight_eq_div_pow, Nat.shiftRight_xor_distrib]
  rw [h2] at h1
  by_cases z : x ^^^ y = 0
  · exact xor_zero z
  · have := Nat.div_lt_self (Nat.pos_of_ne_zero z) (by omega : 1 < 2 ^ k)
    omega
theorem dC_inj (a b : Int) (ha : 0 ≤ a) (ha' : a ≤ 18446744073709551615) (hb : 0 ≤ b) (hb' : b ≤ 18446744073709551615) (h : dC a = dC b) : a = b := by
  obtain ⟨x, rfl⟩ := Int.eq_ofNat_of_zero_le ha
  obtain ⟨y, rfl⟩ := Int.eq_ofNat_of_zero_le hb
  unfold dC at h
  have e1 : bits .xor .u64 (x : Int) ((x : Int) / 2147483648) = ((x ^^^ x / 2147483648 : Nat) : Int) := xorShift_u64 x 2147483648 (by omega)
  have e2 : bits .xor .u64 (y : Int) ((y : Int) / 2147483648) = ((y ^^^ y / 2147483648 : Nat) : Int) := xorShift_u64 y 2147483648 (by omega)
  rw [e1, e2] at h
  exact congrArg Int.ofNat (xshift_inj x y 2147483648 (by decide) ⟨31, rfl⟩ (Int.natCast_inj.1 h))
theorem mix_inj (x y s C D : Nat) (hx : x < 18446744073709551616) (hy : y < 18446744073709551616) (hs : 2 ≤ s) (hp : ∃ k, s = 2 ^ k) (hD : C * D % 18446744073709551616 = 1)
    (h : (x ^^^ x / s) * C % 18446744073709551616 = (y ^^^ y / s) * C % 18446744073709551616) : x = y := by
  apply xshift_inj x y s hs hp
  have bx : x ^^^ x / s < 2 ^ 64 := Nat.xor_lt_two_pow (by omega) (Nat.lt_of_le_of_lt (Nat.div_le_self _ _) (by omega))
  have bY : y ^^^ y / s < 2 ^ 64 := Nat.xor_lt_two_pow (by omega) (Nat.lt_of_le_of_lt (Nat.div_le_self _ _) (by omega))
  generalize x ^^^ x / s = u at *
  generalize y ^^^ y / s = v at *
  have h2 : u * C % 18446744073709551616 * D % 18446744073709551616 = v * C % 18446744073709551616 * D % 18446744073709551616 := by rw [h]
  rw [Nat.mod_mul_mod, Nat.mod_mul_mod, Nat.mul_assoc, Nat.mul_assoc, Nat.mul_mod, hD, Nat.mul_mod v, hD] at h2
  omega
theorem mixA (x : Nat) (hx : x < 18446744073709551616) : IntKind.u64.wrap (bits .xor .u64 (x : Int) ((x : Int) / 1073741824) * 13787848793156543929) = (((x ^^^ x / 1073741824) * 13787848793156543929 % 18446744073709551616 : Nat) : Int) := by
  have := mixStep_u64 x 1073741824 13787848793156543929 hx
  have e1 : ((1073741824 : Nat) : Int) = 1073741824 := rfl
  have e2 : ((13787848793156543929 : Nat) : Int) = 13787848793156543929 := rfl
  rw [e1, e2] at this
  exact this
theorem mixB (x : Nat) (hx : x < 18446744073709551616) : IntKind.u64.wrap (bits .xor .u64 (x : Int) ((x : Int) / 134217728) * 10723151780598845931) = (((x ^^^ x / 134217728) * 10723151780598845931 % 18446744073709551616 : Nat) : Int) := by
  have := mixStep_u64 x 134217728 10723151780598845931 hx
  have e1 : ((134217728 : Nat) : Int) = 134217728 := rfl
  have e2 : ((10723151780598845931 : Nat) : Int) = 10723151780598845931 := rfl
  rw [e1, e2] at this
  exact this
theorem dA_inj (a b : Int) (ha : 0 ≤ a) (ha' : a ≤ 18446744073709551615) (hb : 0 ≤ b) (hb' : b ≤ 18446744073709551615) (h : dA a = dA b) : a = b := by
  obtain ⟨x, rfl⟩ := Int.eq_ofNat_of_zero_le ha
  obtain ⟨y, rfl⟩ := Int.eq_ofNat_of_zero_le hb
  unfold dA at h
  have hx : x < 18446744073709551616 := by omega
  have hy : y < 18446744073709551616 := by omega
  have e1 := mixA x hx
  have e2 := mixA y hy
  rw [e1, e2] at h
  exact congrArg Int.ofNat (mix_inj x y 1073741824 13787848793156543929 10871156337175269513 hx hy (by decide) ⟨30, rfl⟩ (by decide) (Int.natCast_inj.1 h))
theorem dB_inj (a b : Int) (ha : 0 ≤ a) (ha' : a ≤ 18446744073709551615) (hb : 0 ≤ b) (hb' : b ≤ 18446744073709551615) (h : dB a = dB b) : a = b := by
  obtain ⟨x, rfl⟩ := Int.eq_ofNat_of_zero_le ha
  obtain ⟨y, rfl⟩ := Int.eq_ofNat_of_zero_le hb
  unfold dB at h
  have hx : x < 18446744073709551616 := by omega
  have hy : y < 18446744073709551616 := by omega
  have e1 := mixB x hx
  have e2 := mixB y hy
  rw [e1, e2] at h
  exact congrArg Int.ofNat (mix_inj x y 134217728 10723151780598845931 3573116690164977347 hx hy (by decide) ⟨27, rfl⟩ (by decide) (Int.natCast_inj.1 h))
theorem dZ_inj (a b : Int) (ha : 0 ≤ a) (ha' : a ≤ 18446744073709551615) (hb : 0 ≤ b) (hb' : b ≤ 18446744073709551615) (h : dZ a = dZ b) : a = b :=
  dN_inj a b ha ha' hb hb' (dA_inj _ _ (dN_bd _).1 (dN_bd _).2 (dN_bd _).1 (dN_bd _).2 (dB_inj _ _ (dA_bd _).1 (dA_bd _).2 (dA_bd _).1 (dA_bd _).2 (dC_inj _ _ (dB_bd _).1 (dB_bd _).2 (dB_bd _).1 (dB_bd _).2 h)))

/-! ### quotients -/
theorem fdiv_same (a b : Int) (h : a.tmod b = 0) : a.fdiv b = a.tdiv b := by
  rw [Int.fdiv_eq_tdiv, if_pos (Int.dvd_of_tmod_eq_zero h)]; omega
theorem fdiv_part (a b : Int) (hb : b ≠ 0) (h : a.tmod b ≠ 0) : a.fdiv b = a.tdiv b - if (a < 0) ↔ (b < 0) then 0 else 1 := by
  have hd : ¬ b ∣ a := fun hd => h (Int.tmod_eq_zero_of_dvd hd)
  rw [Int.fdiv_eq_tdiv, if_neg hd]
  by_cases ha : 0 ≤ a <;> by_cases hb' : 0 ≤ b
  · rw [if_pos ha, if_pos hb', if_pos (by omega)]
  · rw [if_pos ha, if_neg hb', if_neg (by omega)]
  · rw [if_neg ha, if_pos hb', if_neg (by omega), Int.sign_eq_one_of_pos (by omega)]
  · rw [if_neg ha, if_neg hb', if_pos (by omega), Int.sign_eq_neg_one_of_neg (by omega)]; omega
theorem fdiv_left_pos (a b : Int) (hb : 0 < b) : 0 ≤ a - a.fdiv b * b ∧ a - a.fdiv b * b < b := by
  have h1 := Int.fdiv_mul_add_fmod a b
  have h2 := Int.fmod_lt_of_pos a hb
  have h3 := Int.fmod_nonneg_of_pos a hb
  omega
theorem fdiv_left_neg (a b : Int) (hb : b < 0) : a - a.fdiv b * b ≤ 0 ∧ b < a - a.fdiv b * b := by
  have h1 := Int.fdiv_mul_add_fmod (-a) (-b)
  have h2 := Int.fmod_lt_of_pos (-a) (by omega : 0 < -b)
  have h3 := Int.fmod_nonneg_of_pos (-a) (by omega : 0 < -b)
  rw [Int.neg_fdiv_neg, Int.mul_neg] at h1
  omega
theorem tdiv_bd (a b : Int) (ha : -9223372036854775808 ≤ a) (ha' : a ≤ 9223372036854775807) (h : ¬ (a = -9223372036854775808 ∧ b = -1)) :
    -9223372036854775808 ≤ a.tdiv b ∧ a.tdiv b ≤ 9223372036854775807 := by
  have h1 := Int.natAbs_tdiv a b
  have h2 : a.natAbs.div b.natAbs ≤ a.natAbs := Nat.div_le_self _ _
  by_cases hm : a = -9223372036854775808
  · subst hm
    have hb : b ≠ -1 := fun e => h ⟨rfl, e⟩
    by_cases b1 : b = 1
    · subst b1; simp
    · by_cases b0 : b = 0
      · subst b0; simp
      · have h3 : (Int.natAbs (-9223372036854775808)).div b.natAbs ≤ (Int.natAbs (-9223372036854775808)).div 2 := Nat.div_le_div_left (by omega) (by omega)
        have h4 : (Int.natAbs (-9223372036854775808)).div 2 = 4611686018427387904 := by decide
        omega
  · omega
/-- Where a quotient of whole numbers, not 0, meets its product again, nothing was cut off. -/
theorem mul_back (a b : Int) (hb : b ≠ 0) : (a * b).tdiv b = a := Int.mul_tdiv_cancel _ hb
theorem wrap64_bd (x : Int) : -9223372036854775808 ≤ wrap64 x ∧ wrap64 x ≤ 9223372036854775807 := by unfold wrap64; omega
theorem wrap64_near (x : Int) : ∃ k : Int, wrap64 x = x + 18446744073709551616 * k := by
  refine ⟨-((x + 9223372036854775808) / 18446744073709551616), ?_⟩; unfold wrap64; omega
theorem mul_over_back (a b : Int) (hb0 : b ≠ 0) (hb : -9223372036854775808 ≤ b) (hb' : b ≤ 9223372036854775807)
    (hn : ¬ (a = -9223372036854775808 ∧ b = -1)) (h : ¬ (-9223372036854775808 ≤ a * b ∧ a * b ≤ 9223372036854775807)) : wrap64 ((wrap64 (a * b)).tdiv b) ≠ a := by
  intro e
  have hp := wrap64_bd (a * b)
  obtain ⟨k, hk⟩ := wrap64_near (a * b)
  obtain ⟨p, hpe⟩ : ∃ p, wrap64 (a * b) = p := ⟨_, rfl⟩
  rw [hpe] at e hp hk
  clear hpe
  by_cases hm : p = -9223372036854775808 ∧ b = -1
  · obtain ⟨rfl, rfl⟩ := hm
    apply hn
    refine ⟨?_, rfl⟩
    have e2 : (-9223372036854775808 : Int).tdiv (-1) = 9223372036854775808 := by simp
    rw [e2] at e; unfold wrap64 at e; omega
  · have ht := tdiv_bd p b hp.1 hp.2 hm
    have hw : wrap64 (p.tdiv b) = p.tdiv b := by unfold wrap64; omega
    rw [hw] at e
    have h1 := Int.mul_tdiv_add_tmod p b
    rw [e, Int.mul_comm] at h1
    have h2 : (p.tmod b).natAbs < b.natAbs := by
      rw [Int.natAbs_tmod]; exact Nat.mod_lt _ (by omega)
    have : k = 0 := by omega
    subst this
    omega

/-! ### roots -/
def rootN : Nat → Nat
  | 0 => 0
  | n + 1 => if (rootN n + 1) * (rootN n + 1) ≤ n + 1 then rootN n + 1 else rootN n
theorem rootN_spec : ∀ n, rootN n * rootN n ≤ n ∧ n < (rootN n + 1) * (rootN n + 1)
  | 0 => ⟨Nat.le_refl _, by decide⟩
  | n + 1 => by
    obtain ⟨h1, h2⟩ := rootN_spec n
    unfold rootN
    split
    · rename_i h
      refine ⟨h, ?_⟩
      have e : (rootN n + 1 + 1) * (rootN n + 1 + 1) = (rootN n + 1) * (rootN n + 1) + 2 * rootN n + 3 := by
        generalize rootN n = r; rw [Nat.mul_add, Nat.add_mul, Nat.add_mul]; omega
      omega
    · omega
theorem sq_lt {a b : Nat} (h : a * a < b * b) : a < b := by
  rcases Nat.lt_or_ge a b with h1 | h1
  · exact h1
  · have := Nat.mul_le_mul h1 h1; omega
theorem rootN_is (n r : Nat) (h1 : r * r ≤ n) (h2 : n < (r + 1) * (r + 1)) : r = rootN n := by
  obtain ⟨h3, h4⟩ := rootN_spec n
  have a := sq_lt (Nat.lt_of_le_of_lt h1 h4)
  have b := sq_lt (Nat.lt_of_le_of_lt h3 h2)
  omega
theorem four_le (x y : Nat) : 4 * (x * y) ≤ (x + y) * (x + y) := by
  rcases Nat.le_total x y with h | h
  · obtain ⟨d, rfl⟩ := Nat.exists_eq_add_of_le h
    have : (x + (x + d)) * (x + (x + d)) = 4 * (x * (x + d)) + d * d := by
      simp only [Nat.mul_add, Nat.add_mul]; rw [Nat.mul_comm d x]; omega
    omega
  · obtain ⟨d, rfl⟩ := Nat.exists_eq_add_of_le h
    have : (y + d + y) * (y + d + y) = 4 * ((y + d) * y) + d * d := by
      simp only [Nat.mul_add, Nat.add_mul]; rw [Nat.mul_comm d y]; omega
    omega
/-- A step of Newton's stays at the root or above it. -/
theorem newton_above (n r : Nat) (hr : 0 < r) : n < ((r + n / r) / 2 + 1) * ((r + n / r) / 2 + 1) := by
  have h1 : n < r * (n / r + 1) := Nat.lt_mul_div_succ n hr
  have h2 := four_le r (n / r + 1)
  have h3 : r + (n / r + 1) ≤ 2 * ((r + n / r) / 2 + 1) := by omega
  have h4 := Nat.mul_le_mul h3 h3
  have e : 2 * ((r + n / r) / 2 + 1) * (2 * ((r + n / r) / 2 + 1)) = 4 * (((r + n / r) / 2 + 1) * ((r + n / r) / 2 + 1)) := by
    generalize (r + n / r) / 2 + 1 = z; rw [Nat.mul_mul_mul_comm]
  omega
theorem newton_stands (n r : Nat) (hr : 0 < r) (h : r ≤ (r + n / r) / 2) : r * r ≤ n := by
  have h1 : r ≤ n / r := by omega
  have := (Nat.le_div_iff_mul_le hr).1 h1
  exact this
theorem root_most (n r : Nat) (h : r * r ≤ n) (hn : n ≤ 9223372036854775807) : r ≤ 3037000499 := by
  have : r < 3037000500 := sq_lt (by omega)
  omega
theorem newton_quot (n r : Nat) (_ : 0 < r) (h : n < (r + 1) * (r + 1)) : n / r ≤ r + 2 := by
  have e : (r + 1) * (r + 1) = r * (r + 2) + 1 := by simp only [Nat.add_mul, Nat.mul_add]; omega
  exact Nat.div_le_of_le_mul (by omega)
theorem newton_pos (n r : Nat) (hn : 1 ≤ n) (hr : 0 < r) : 1 ≤ (r + n / r) / 2 := by
  by_cases e : r = 1
  · subst e; simp; omega
  · have : 2 ≤ r + n / r := by have := Nat.zero_le (n / r); omega
    omega
theorem bitLenAux_above : ∀ f x, x < 2 ^ f → x < 2 ^ Lib.bitLenAux f x
  | 0, x, h => h
  | f + 1, x, h => by
    unfold Lib.bitLenAux
    by_cases e : x = 0
    · subst e; simp
    · rw [if_neg e, Nat.add_comm, Nat.pow_succ]
      have := bitLenAux_above f (x / 2) (by rw [Nat.pow_succ] at h; omega)
      omega
/-- The power of two from which Newton's steps fall. -/
theorem newton_start (n : Nat) (h : n < 2 ^ 64) : n < 2 ^ ((Lib.bitLen n + 1) / 2) * 2 ^ ((Lib.bitLen n + 1) / 2) := by
  have h1 : n < 2 ^ Lib.bitLen n := bitLenAux_above 64 n h
  rw [← Nat.pow_add]
  exact Nat.lt_of_lt_of_le h1 (Nat.pow_le_pow_right (by omega) (by omega))
theorem rootN_pos (n : Nat) (h : 1 ≤ n) : 1 ≤ rootN n := by
  have := (rootN_spec n).2
  rcases Nat.eq_zero_or_pos (rootN n) with e | e
  · rw [e] at this; omega
  · exact e

/-! ### numbers in bytes -/
def fixL : Nat → Nat → List UInt8
  | 0, _ => []
  | w + 1, n => UInt8.ofNat (n % 256) :: fixL w (n / 256)
def unfL : List UInt8 → Nat
  | [] => 0
  | c :: l => c.toNat + 256 * unfL l
theorem fixL_length : ∀ w n, (fixL w n).length = w
  | 0, _ => rfl
  | w + 1, n => by simp [fixL, fixL_length w]
theorem unfL_fixL : ∀ w n, n < 256 ^ w → unfL (fixL w n) = n
  | 0, n, h => by simp at h; subst h; rfl
  | w + 1, n, h => by
    have e : n / 256 < 256 ^ w := by rw [Nat.pow_succ] at h; exact Nat.div_lt_of_lt_mul (by omega)
    simp only [fixL, unfL, unfL_fixL w _ e, UInt8.toNat_ofNat']
    omega
theorem unfL_lt : ∀ l : List UInt8, unfL l < 256 ^ l.length
  | [] => by decide
  | c :: l => by
    have h := unfL_lt l
    have hc := c.toNat_lt
    simp only [unfL, List.length_cons, Nat.pow_succ]
    omega
theorem unfL_snoc : ∀ (l : List UInt8) (c : UInt8), unfL (l ++ [c]) = unfL l + 256 ^ l.length * c.toNat
  | [], c => by simp [unfL]
  | d :: l, c => by
    simp only [List.cons_append, unfL, unfL_snoc l c, List.length_cons, Nat.pow_succ]
    rw [Nat.mul_add, ← Nat.mul_assoc, Nat.mul_comm 256 (256 ^ l.length)]; omega

theorem fixL_get : ∀ w n i (h : i < (fixL w n).length), (fixL w n)[i] = UInt8.ofNat (n / 256 ^ i % 256)
  | 0, _, i, h => by simp [fixL] at h
  | w + 1, n, 0, _ => by simp [fixL]
  | w + 1, n, i + 1, h => by
    simp only [fixL, List.getElem_cons_succ]
    rw [fixL_get w (n / 256) i, Nat.div_div_eq_div_mul, Nat.pow_succ, Nat.mul_comm 256]
theorem pow_256 (k : Nat) : 2 ^ (8 * k) = 256 ^ k := by rw [Nat.pow_mul]
theorem unfL_or (l : List UInt8) (c : UInt8) (h : l.length < 8) :
    bits .or .u64 (unfL l : Int) (IntKind.u64.wrap (IntKind.u64.wrap (c.toNat : Int) * 2 ^ (8 * l.length))) = (unfL (l ++ [c]) : Int) := by
  have hc := c.toNat_lt
  have hl := unfL_lt l
  have hp : 256 ^ l.length * 256 ≤ 18446744073709551616 := by
    rw [← Nat.pow_succ]; exact Nat.pow_le_pow_right (n := 256) (by decide) (by omega : l.length + 1 ≤ 8)
  have hm : 256 ^ l.length * c.toNat ≤ 256 ^ l.length * 255 := Nat.mul_le_mul_left _ (by omega)
  have e1 : IntKind.u64.wrap (c.toNat : Int) = (c.toNat : Int) := IntWalk.u64_in _ (by omega)
  have e2 : (c.toNat : Int) * 2 ^ (8 * l.length) = ((256 ^ l.length * c.toNat : Nat) : Int) := by
    rw [Int.natCast_mul, ← pow_256, Int.mul_comm]; simp
  rw [e1, e2, IntWalk.u64_in _ (by omega), u64_or_nat _ _ (by omega) (by omega), unfL_snoc, ← pow_256, Nat.or_comm]
  rw [← pow_256] at hl
  rw [← Nat.two_pow_add_eq_or_of_lt hl, Nat.add_comm]

/-! ### the check sum -/
def nStep (c : Nat) : Nat := (c / 2) ^^^ (c % 2 * 3988292384)
def nAt : Nat → Nat → Nat
  | 0, c => c
  | k + 1, c => nAt k (nStep c)
theorem nAt_succ : ∀ k c, nAt (k + 1) c = nStep (nAt k c)
  | 0, _ => rfl
  | k + 1, c => nAt_succ k (nStep c)
theorem nStep_lt (c : Nat) (h : c < 4294967296) : nStep c < 4294967296 := by
  unfold nStep
  have e32 : (2 : Nat) ^ 32 = 4294967296 := by decide
  have h1 : c / 2 < 2 ^ 32 := by omega
  have h2 : c % 2 * 3988292384 < 2 ^ 32 := by omega
  have := Nat.xor_lt_two_pow h1 h2
  omega
theorem xor_mod2 (a b : Nat) : (a ^^^ b) % 2 = (a % 2) ^^^ (b % 2) := by
  have := @Nat.xor_mod_two_pow a b 1
  simpa using this
theorem xor_cancel {a b c : Nat} (h : a ^^^ c = b ^^^ c) : a = b := by
  have := congrArg (· ^^^ c) h
  simpa [Nat.xor_assoc] using this
theorem nAt_lt : ∀ k c, c < 4294967296 → nAt k c < 4294967296
  | 0, _, h => h
  | k + 1, c, h => nAt_lt k _ (nStep_lt c h)
theorem nStep_xor (a b : Nat) : nStep (a ^^^ b) = nStep a ^^^ nStep b := by
  have h1 : (a ^^^ b) / 2 = a / 2 ^^^ b / 2 := Nat.xor_div_two
  have h2 : (a ^^^ b) % 2 * 3988292384 = (a % 2 * 3988292384) ^^^ (b % 2 * 3988292384) := by
    rw [xor_mod2]
    rcases Nat.mod_two_eq_zero_or_one a with e | e <;> rcases Nat.mod_two_eq_zero_or_one b with f | f <;> simp [e, f]
  unfold nStep
  rw [h1, h2]
  ac_rfl
theorem nAt_xor : ∀ k a b, nAt k (a ^^^ b) = nAt k a ^^^ nAt k b
  | 0, _, _ => rfl
  | k + 1, a, b => by simp only [nAt, nStep_xor, nAt_xor k]
/-- What k bits do to a sum hangs on these bits alone: the rest is shifted. -/
theorem nAt_low : ∀ k c, nAt k c = c / 2 ^ k ^^^ nAt k (c % 2 ^ k)
  | 0, c => by simp [nAt, Nat.mod_one]
  | k + 1, c => by
    have e1 : c / 2 / 2 ^ k = c / 2 ^ (k + 1) := by rw [Nat.div_div_eq_div_mul, Nat.pow_succ, Nat.mul_comm]
    have e2 : c % 2 ^ (k + 1) / 2 = c / 2 % 2 ^ k := by rw [Nat.pow_succ, Nat.mul_comm, Nat.mod_mul_right_div_self]
    have e3 : c % 2 ^ (k + 1) % 2 = c % 2 := Nat.mod_mod_of_dvd _ ⟨2 ^ k, by rw [Nat.pow_succ, Nat.mul_comm]⟩
    have h1 : nAt (k + 1) c = nAt k (c / 2) ^^^ nAt k (c % 2 * 3988292384) := by
      show nAt k (nStep c) = _
      unfold nStep; rw [nAt_xor]
    have h2 : nAt (k + 1) (c % 2 ^ (k + 1)) = nAt k (c / 2 % 2 ^ k) ^^^ nAt k (c % 2 * 3988292384) := by
      show nAt k (nStep _) = _
      unfold nStep; rw [nAt_xor, e2, e3]
    rw [h1, h2, nAt_low k (c / 2), e1]
    ac_rfl
theorem nStep_inj (a b : Nat) (ha : a < 4294967296) (hb : b < 4294967296) (h : nStep a = nStep b) : a = b := by
  unfold nStep at h
  have key : ∀ x y : Nat, x < 2147483648 → y < 2147483648 → x ^^^ 3988292384 ≠ y := by
    intro x y hx hy e
    have : x ^^^ y = 3988292384 := by rw [← e, ← Nat.xor_assoc, Nat.xor_self, Nat.zero_xor]
    have : x ^^^ y < 2 ^ 31 := Nat.xor_lt_two_pow hx hy
    omega
  rcases Nat.mod_two_eq_zero_or_one a with e | e <;> rcases Nat.mod_two_eq_zero_or_one b with f | f <;> rw [e, f] at h
  · simp at h; omega
  · simp at h; exact absurd h.symm (key _ _ (by omega) (by omega))
  · simp at h; exact absurd h (key _ _ (by omega) (by omega))
  · have := xor_cancel h; omega
theorem nAt_inj : ∀ k a b, a < 4294967296 → b < 4294967296 → nAt k a = nAt k b → a = b
  | 0, _, _, _, _, h => h
  | k + 1, a, b, ha, hb, h => nStep_inj a b ha hb (nAt_inj k _ _ (nStep_lt a ha) (nStep_lt b hb) h)
/-- The sum over the first k bytes, not yet turned at the end. -/
def byN (s : ByteArray) (k : Nat) : Nat := if h : k < s.size then (s[k]'h).toNat else 0
theorem byN_lt (s : ByteArray) (k : Nat) : byN s k < 256 := by
  unfold byN; split
  · exact UInt8.toNat_lt _
  · omega
theorem byN_get (s : ByteArray) (k : Nat) (h : k < s.size) : ((s[k]'h).toNat : Int) = (byN s k : Int) := by unfold byN; rw [dif_pos h]
def sumN (s : ByteArray) : Nat → Nat
  | 0 => 4294967295
  | k + 1 => nAt 8 (sumN s k ^^^ byN s k)
theorem xor_byte_lt (c b : Nat) (hc : c < 4294967296) (hb : b < 256) : c ^^^ b < 4294967296 := by
  have e32 : (2 : Nat) ^ 32 = 4294967296 := by decide
  have := Nat.xor_lt_two_pow (n := 32) (x := c) (y := b) (by omega) (by omega)
  omega
theorem sumN_lt (s : ByteArray) : ∀ k, sumN s k < 4294967296
  | 0 => by unfold sumN; omega
  | k + 1 => nAt_lt 8 _ (xor_byte_lt _ _ (sumN_lt s k) (byN_lt s k))
theorem nAt_add : ∀ i j c, nAt (i + j) c = nAt i (nAt j c)
  | _, 0, _ => rfl
  | i, j + 1, c => nAt_add i j (nStep c)
/-- The step in the walk's own form. -/
def cStep (c : Int) : Int := bits .xor .u32 (c / 2) (IntKind.u32.wrap (bits .and .u32 c 1 * 3988292384))
def cAt (i : Int) : Nat → Int
  | 0 => i
  | k + 1 => cStep (cAt i k)
theorem and_one (c : Nat) : c &&& 1 = c % 2 := Nat.and_two_pow_sub_one_eq_mod c 1
theorem and_fifteen (c : Nat) : c &&& 15 = c % 16 := Nat.and_two_pow_sub_one_eq_mod c 4
theorem cStep_nat (c : Nat) (h : c < 4294967296) : cStep (c : Int) = (nStep c : Int) := by
  unfold cStep nStep
  have e1 : bits .and .u32 (c : Int) 1 = ((c % 2 : Nat) : Int) := by
    have := u32_and_nat c 1 h (by decide); rw [and_one] at this; exact this
  have e2 : IntKind.u32.wrap (((c % 2 : Nat) : Int) * 3988292384) = ((c % 2 * 3988292384 : Nat) : Int) := by
    rw [IntWalk.u32_in _ (by omega)]; omega
  have e3 : (c : Int) / 2 = ((c / 2 : Nat) : Int) := by omega
  rw [e1, e2, e3]
  exact u32_xor_nat _ _ (by omega) (by omega)
theorem cAt_nat (c : Nat) (h : c < 4294967296) : ∀ k, cAt (c : Int) k = (nAt k c : Int)
  | 0 => rfl
  | k + 1 => by rw [nAt_succ]; show cStep (cAt _ k) = _; rw [cAt_nat c h k, cStep_nat _ (nAt_lt k c h)]
/-- Four steps at once, out of the table's row. -/
theorem four_steps (x : Nat) (h : x < 4294967296) : bits .xor .u32 ((x : Int) / 16) (cAt ((x % 16 : Nat) : Int) 4) = (nAt 4 x : Int) := by
  rw [cAt_nat _ (by omega), nAt_low 4 x]
  have e3 : (x : Int) / 16 = ((x / 2 ^ 4 : Nat) : Int) := by
    have : (2 : Nat) ^ 4 = 16 := by decide
    omega
  rw [e3]
  have hp : (2 : Nat) ^ 4 = 16 := by decide
  exact u32_xor_nat _ _ (by omega) (nAt_lt 4 _ (by omega))
theorem and15 (x : Nat) (h : x < 4294967296) : bits .and .u32 (x : Int) 15 = ((x % 16 : Nat) : Int) := by
  have := u32_and_nat x 15 h (by decide); rw [and_fifteen] at this; exact this
def crcN (s : ByteArray) : Nat := sumN s s.size ^^^ 4294967295
theorem crc_max (s : ByteArray) : bits .xor .u32 IntKind.u32.max (sumN s s.size : Int) = (crcN s : Int) := by
  have e : IntKind.u32.max = ((4294967295 : Nat) : Int) := by decide
  rw [e, u32_xor_nat _ _ (by decide) (sumN_lt s _), Nat.xor_comm]; rfl
theorem crc_right (s : ByteArray) : bits .xor .u32 (sumN s s.size : Int) 4294967295 = (crcN s : Int) := by
  have := u32_xor_nat (sumN s s.size) 4294967295 (sumN_lt s _) (by decide)
  exact this
theorem crcN_lt (s : ByteArray) : crcN s < 4294967296 := by
  have e32 : (2 : Nat) ^ 32 = 4294967296 := by decide
  have h := sumN_lt s s.size
  have := Nat.xor_lt_two_pow (n := 32) (x := sumN s s.size) (y := 4294967295) (by omega) (by omega)
  unfold crcN; omega
/-- Two texts that part in one byte have other sums. -/
theorem sumN_same (s t : ByteArray) : ∀ k, (∀ i, i < k → byN s i = byN t i) → sumN s k = sumN t k
  | 0, _ => rfl
  | k + 1, h => by
    show nAt 8 _ = nAt 8 _
    rw [sumN_same s t k (fun i hi => h i (by omega)), h k (by omega)]
theorem sumN_other (s t : ByteArray) (j : Nat) (hj : byN s j ≠ byN t j) (hs : ∀ i, i ≠ j → byN s i = byN t i) : ∀ k, j < k → sumN s k ≠ sumN t k
  | 0, h => by omega
  | k + 1, h => by
    intro e
    have e2 := nAt_inj 8 _ _ (xor_byte_lt _ _ (sumN_lt s k) (byN_lt s k)) (xor_byte_lt _ _ (sumN_lt t k) (byN_lt t k)) e
    rcases Nat.lt_or_ge j k with h1 | h1
    · rw [hs k (by omega)] at e2
      exact sumN_other s t j hj hs k h1 (xor_cancel e2)
    · obtain rfl : k = j := by omega
      rw [sumN_same s t k (fun i hi => hs i (by omega)), Nat.xor_comm, Nat.xor_comm (sumN t k)] at e2
      exact hj (xor_cancel e2)

/-! ### the hash -/
def hStep (h c : Int) : Int := IntKind.u64.wrap (bits .xor .u64 h c * 1099511628211)
def hAt (s : ByteArray) : Nat → Int
  | 0 => 14695981039346656037
  | k + 1 => hStep (hAt s k) (byN s k)
theorem hAt_bd (s : ByteArray) : ∀ k, 0 ≤ hAt s k ∧ hAt s k ≤ 18446744073709551615
  | 0 => by unfold hAt; omega
  | _ + 1 => u64_bd _
end Go.Proofs.Ytfgmkdghpdpdkaa
