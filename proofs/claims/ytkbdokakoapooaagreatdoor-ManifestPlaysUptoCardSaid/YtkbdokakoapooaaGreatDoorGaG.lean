/- Texts and their bytes as lists. The plain mathematics of whole numbers (draws, quotients, roots, bytes, check sums): what the walks over package num and over the document's own answers speak of. No condition but those that each theorem names. A log's records in bytes, one behind the other: which bytes a record has, which records any bytes begin with. No program is named here. Conditions: none but those that each theorem names. Digits without a nought ahead, and texts cut at a byte: over plain bytes. No program is named here. Conditions: none but those that each theorem names. Manifests as plain data: which may be, their lines, what is read of lines. No program is named here. Conditions: none but those that each theorem names. What the document reads of a manifest's lines, over plain bytes; one byte of a manifest turned, or one more. No program is named here. Conditions: none but those that each theorem names. Conditions: those that each theorem names. -/
import Derived.Test.YtkbdokakoapooaaGreatDoorProg
import Derived.Lib.Hide
import Derived.Laws.Bits64
import Derived.Laws.BitsAllLaws
import Derived.IntWalk
import Derived.Lib.BitFns
import Derived.RowKit
import Derived.Lib.IndexMore
import Derived.Lib.ItoaNum
import Derived.Lib.AtoiAll
import Derived.Lib.Split
namespace Go.Proofs.YtkbdokakoapooaaGreatDoor
set_option linter.unusedVariables false
open Go
def tx (l : List UInt8) : ByteArray := ⟨l.toArray⟩
theorem tx_list (l : List UInt8) : (tx l).data.toList = l := by simp [tx]
theorem tx_of (s : ByteArray) : tx s.data.toList = s := by cases s; simp [tx]
theorem tx_size (l : List UInt8) : (tx l).size = l.length := by show l.toArray.size = _; simp
theorem ln (s : ByteArray) : s.data.toList.length = s.size := Array.length_toList
theorem by_ext {a b : ByteArray} (h : a.data.toList = b.data.toList) : a = b := by rw [← tx_of a, ← tx_of b, h]
theorem app_list (a b : ByteArray) : (a ++ b).data.toList = a.data.toList ++ b.data.toList := by simp [ByteArray.data_append]
theorem ext_any (s : ByteArray) (a b : Nat) : (s.extract a b).data.toList = (s.data.toList.drop a).take (b - a) := by
  rw [ByteArray.data_extract, Array.toList_extract, List.extract_eq_take_drop]
theorem tx_head (l : List UInt8) (n : Nat) : (tx l).extract 0 n = tx (l.take n) := by
  apply by_ext; rw [ext_any, tx_list, tx_list]; simp
theorem tx_tail (l : List UInt8) (n : Nat) : (tx l).extract n l.length = tx (l.drop n) := by
  apply by_ext; rw [ext_any, tx_list, tx_list]; rw [List.take_of_length_le (by rw [List.length_drop]; omega)]
end Go.Proofs.YtkbdokakoapooaaGreatDoor
namespace Go.Proofs.YtkbdokakoapooaaGreatDoor
open Go.RowKit

/-! ### draws -/
def dN (a : Int) : Int := IntKind.u64.wrap (a + 11400714819323198485)
def dA (x : Int) : Int := IntKind.u64.wrap (bits .xor .u64 x (x / 1073741824) * 13787848793156543929)
def dB (x : Int) : Int := IntKind.u64.wrap (bits .xor .u64 x (x / 134217728) * 10723151780598845931)
def dC (x : Int) : Int := bits .xor .u64 x (x / 2147483648)
def dZ (a : Int) : Int := dC (dB (dA (dN a)))

theorem u64_bd (x : Int) : 0 ≤ IntKind.u64.wrap x ∧ IntKind.u64.wrap x ≤ 18446744073709551615 := by
  rw [IntKind.wrap_u64]; omega
theorem dN_bd (a : Int) : 0 ≤ dN a ∧ dN a ≤ 18446744073709551615 := u64_bd _
theorem dA_bd (a : Int) : 0 ≤ dA a ∧ dA a ≤ 18446744073709551615 := u64_bd _
theorem dB_bd (a : Int) : 0 ≤ dB a ∧ dB a ≤ 18446744073709551615 := u64_bd _
theorem bits_u64_bd (op : BinOp) (x y : Int) : 0 ≤ bits op .u64 x y ∧ bits op .u64 x y ≤ 18446744073709551615 := by
  unfold bits; split <;> first | exact u64_bd _ | (constructor <;> simp)
theorem dC_bd (a : Int) : 0 ≤ dC a ∧ dC a ≤ 18446744073709551615 := bits_u64_bd _ _ _
theorem dZ_bd (a : Int) : 0 ≤ dZ a ∧ dZ a ≤ 18446744073709551615 := dC_bd _

theorem dN_inj (a b : Int) (ha : 0 ≤ a) (ha' : a ≤ 18446744073709551615) (hb : 0 ≤ b) (hb' : b ≤ 18446744073709551615) (h : dN a = dN b) : a = b := by
  unfold dN at h; rw [IntKind.wrap_u64, IntKind.wrap_u64] at h; omega
theorem xor_zero {x y : Nat} (h : x ^^^ y = 0) : x = y := by
  have e : x ^^^ y ^^^ y = 0 ^^^ y := by rw [h]
  simpa [Nat.xor_assoc] using e
theorem xshift_inj (x y s : Nat) (hs : 2 ≤ s) (hp : ∃ k, s = 2 ^ k) (h : x ^^^ x / s = y ^^^ y / s) : x = y := by
  obtain ⟨k, rfl⟩ := hp
  have h1 : x ^^^ y = x / 2 ^ k ^^^ y / 2 ^ k := by
    have e : (x ^^^ x / 2 ^ k) ^^^ (y ^^^ y / 2 ^ k) = 0 := by rw [h]; simp
    have e2 : (x ^^^ y) ^^^ (x / 2 ^ k ^^^ y / 2 ^ k) = 0 := by
      rw [← e]; ac_rfl
    exact xor_zero e2
  have h2 : x / 2 ^ k ^^^ y / 2 ^ k = (x ^^^ y) / 2 ^ k := by
    rw [← Nat.shiftRight_eq_div_pow, ← Nat.shiftRight_eq_div_pow, ← Nat.shiftRight_eq_div_pow, Nat.shiftRight_xor_distrib]
  rw [h2] at h1
  by_cases z : x ^^^ y = 0
  · exact xor_zero z
  · have := Nat.div_lt_self (Nat.pos_of_ne_zero z) (by omega : 1 < 2 ^ k)
    omega
theorem dC_inj (a b : Int) (ha : 0 ≤ a) (ha' : a ≤ 18446744073709551615) (hb : 0 ≤ b) (hb' : b ≤ 18446744073709551615) (h : dC a = dC b) : a = b := by
  obtain ⟨x, rfl⟩ := Int.eq_ofNat_of_zero_le ha
  obtain ⟨y, rfl⟩ := Int.eq_ofNat_of_zero_le hb
  unfold dC at h
  have e1 : bits .xor .u64 (x : Int) ((x : Int) / 2147483648) = ((x ^^^ x / 2147483648 : Nat) : Int) := xorShift_u64 x 2147483648 (by omega)
  have e2 : bits .xor .u64 (y : Int) ((y : Int) / 2147483648) = ((y ^^^ y / 2147483648 : Nat) : Int) := xorShift_u64 y 2147483648 (by omega)
  rw [e1, e2] at h
  exact congrArg Int.ofNat (xshift_inj x y 2147483648 (by decide) ⟨31, rfl⟩ (Int.natCast_inj.1 h))
theorem mix_inj (x y s C D : Nat) (hx : x < 18446744073709551616) (hy : y < 18446744073709551616) (hs : 2 ≤ s) (hp : ∃ k, s = 2 ^ k) (hD : C * D % 18446744073709551616 = 1)
    (h : (x ^^^ x / s) * C % 18446744073709551616 = (y ^^^ y / s) * C % 18446744073709551616) : x = y := by
  apply xshift_inj x y s hs hp
  have bx : x ^^^ x / s < 2 ^ 64 := Nat.xor_lt_two_pow (by omega) (Nat.lt_of_le_of_lt (Nat.div_le_self _ _) (by omega))
  have bY : y ^^^ y / s < 2 ^ 64 := Nat.xor_lt_two_pow (by omega) (Nat.lt_of_le_of_lt (Nat.div_le_self _ _) (by omega))
  generalize x ^^^ x / s = u at *
  generalize y ^^^ y / s = v at *
  have h2 : u * C % 18446744073709551616 * D % 18446744073709551616 = v * C % 18446744073709551616 * D % 18446744073709551616 := by rw [h]
  rw [Nat.mod_mul_mod, Nat.mod_mul_mod, Nat.mul_assoc, Nat.mul_assoc, Nat.mul_mod, hD, Nat.mul_mod v, hD] at h2
  omega
theorem mixA (x : Nat) (hx : x < 18446744073709551616) : IntKind.u64.wrap (bits .xor .u64 (x : Int) ((x : Int) / 1073741824) * 13787848793156543929) = (((x ^^^ x / 1073741824) * 13787848793156543929 % 18446744073709551616 : Nat) : Int) := by
  have := mixStep_u64 x 1073741824 13787848793156543929 hx
  have e1 : ((1073741824 : Nat) : Int) = 1073741824 := rfl
  have e2 : ((13787848793156543929 : Nat) : Int) = 13787848793156543929 := rfl
  rw [e1, e2] at this
  exact this
theorem mixB (x : Nat) (hx : x < 18446744073709551616) : IntKind.u64.wrap (bits .xor .u64 (x : Int) ((x : Int) / 134217728) * 10723151780598845931) = (((x ^^^ x / 134217728) * 10723151780598845931 % 18446744073709551616 : Nat) : Int) := by
  have := mixStep_u64 x 134217728 10723151780598845931 hx
  have e1 : ((134217728 : Nat) : Int) = 134217728 := rfl
  have e2 : ((10723151780598845931 : Nat) : Int) = 10723151780598845931 := rfl
  rw [e1, e2] at this
  exact this
theorem dA_inj (a b : Int) (ha : 0 ≤ a) (ha' : a ≤ 18446744073709551615) (hb : 0 ≤ b) (hb' : b ≤ 18446744073709551615) (h : dA a = dA b) : a = b := by
  obtain ⟨x, rfl⟩ := Int.eq_ofNat_of_zero_le ha
  obtain ⟨y, rfl⟩ := Int.eq_ofNat_of_zero_le hb
  unfold dA at h
  have hx : x < 18446744073709551616 := by omega
  have hy : y < 18446744073709551616 := by omega
  have e1 := mixA x hx
  have e2 := mixA y hy
  rw [e1, e2] at h
  exact congrArg Int.ofNat (mix_inj x y 1073741824 13787848793156543929 10871156337175269513 hx hy (by decide) ⟨30, rfl⟩ (by decide) (Int.natCast_inj.1 h))
theorem dB_inj (a b : Int) (ha : 0 ≤ a) (ha' : a ≤ 18446744073709551615) (hb : 0 ≤ b) (hb' : b ≤ 18446744073709551615) (h : dB a = dB b) : a = b := by
  obtain ⟨x, rfl⟩ := Int.eq_ofNat_of_zero_le ha
  obtain ⟨y, rfl⟩ := Int.eq_ofNat_of_zero_le hb
  unfold dB at h
  have hx : x < 18446744073709551616 := by omega
  have hy : y < 18446744073709551616 := by omega
  have e1 := mixB x hx
  have e2 := mixB y hy
  rw [e1, e2] at h
  exact congrArg Int.ofNat (mix_inj x y 134217728 10723151780598845931 3573116690164977347 hx hy (by decide) ⟨27, rfl⟩ (by decide) (Int.natCast_inj.1 h))
theorem dZ_inj (a b : Int) (ha : 0 ≤ a) (ha' : a ≤ 18446744073709551615) (hb : 0 ≤ b) (hb' : b ≤ 18446744073709551615) (h : dZ a = dZ b) : a = b :=
  dN_inj a b ha ha' hb hb' (dA_inj _ _ (dN_bd _).1 (dN_bd _).2 (dN_bd _).1 (dN_bd _).2 (dB_inj _ _ (dA_bd _).1 (dA_bd _).2 (dA_bd _).1 (dA_bd _).2 (dC_inj _ _ (dB_bd _).1 (dB_bd _).2 (dB_bd _).1 (dB_bd _).2 h)))

/-! ### quotients -/
theorem fdiv_same (a b : Int) (h : a.tmod b = 0) : a.fdiv b = a.tdiv b := by
  rw [Int.fdiv_eq_tdiv, if_pos (Int.dvd_of_tmod_eq_zero h)]; omega
theorem fdiv_part (a b : Int) (hb : b ≠ 0) (h : a.tmod b ≠ 0) : a.fdiv b = a.tdiv b - if (a < 0) ↔ (b < 0) then 0 else 1 := by
  have hd : ¬ b ∣ a := fun hd => h (Int.tmod_eq_zero_of_dvd hd)
  rw [Int.fdiv_eq_tdiv, if_neg hd]
  by_cases ha : 0 ≤ a <;> by_cases hb' : 0 ≤ b
  · rw [if_pos ha, if_pos hb', if_pos (by omega)]
  · rw [if_pos ha, if_neg hb', if_neg (by omega)]
  · rw [if_neg ha, if_pos hb', if_neg (by omega), Int.sign_eq_one_of_pos (by omega)]
  · rw [if_neg ha, if_neg hb', if_pos (by omega), Int.sign_eq_neg_one_of_neg (by omega)]; omega
theorem fdiv_left_pos (a b : Int) (hb : 0 < b) : 0 ≤ a - a.fdiv b * b ∧ a - a.fdiv b * b < b := by
  have h1 := Int.fdiv_mul_add_fmod a b
  have h2 := Int.fmod_lt_of_pos a hb
  have h3 := Int.fmod_nonneg_of_pos a hb
  omega
theorem fdiv_left_neg (a b : Int) (hb : b < 0) : a - a.fdiv b * b ≤ 0 ∧ b < a - a.fdiv b * b := by
  have h1 := Int.fdiv_mul_add_fmod (-a) (-b)
  have h2 := Int.fmod_lt_of_pos (-a) (by omega : 0 < -b)
  have h3 := Int.fmod_nonneg_of_pos (-a) (by omega : 0 < -b)
  rw [Int.neg_fdiv_neg, Int.mul_neg] at h1
  omega
theorem tdiv_bd (a b : Int) (ha : -9223372036854775808 ≤ a) (ha' : a ≤ 9223372036854775807) (h : ¬ (a = -9223372036854775808 ∧ b = -1)) :
    -9223372036854775808 ≤ a.tdiv b ∧ a.tdiv b ≤ 9223372036854775807 := by
  have h1 := Int.natAbs_tdiv a b
  have h2 : a.natAbs.div b.natAbs ≤ a.natAbs := Nat.div_le_self _ _
  by_cases hm : a = -9223372036854775808
  · subst hm
    have hb : b ≠ -1 := fun e => h ⟨rfl, e⟩
    by_cases b1 : b = 1
    · subst b1; simp
    · by_cases b0 : b = 0
      · subst b0; simp
      · have h3 : (Int.natAbs (-9223372036854775808)).div b.natAbs ≤ (Int.natAbs (-9223372036854775808)).div 2 := Nat.div_le_div_left (by omega) (by omega)
        have h4 : (Int.natAbs (-9223372036854775808)).div 2 = 4611686018427387904 := by decide
        omega
  · omega
/-- Where a quotient of whole numbers, not 0, meets its product again, nothing was cut off. -/
theorem mul_back (a b : Int) (hb : b ≠ 0) : (a * b).tdiv b = a := Int.mul_tdiv_cancel _ hb
theorem wrap64_bd (x : Int) : -9223372036854775808 ≤ wrap64 x ∧ wrap64 x ≤ 9223372036854775807 := by unfold wrap64; omega
theorem wrap64_near (x : Int) : ∃ k : Int, wrap64 x = x + 18446744073709551616 * k := by
  refine ⟨-((x + 9223372036854775808) / 18446744073709551616), ?_⟩; unfold wrap64; omega
theorem mul_over_back (a b : Int) (hb0 : b ≠ 0) (hb : -9223372036854775808 ≤ b) (hb' : b ≤ 9223372036854775807)
    (hn : ¬ (a = -9223372036854775808 ∧ b = -1)) (h : ¬ (-9223372036854775808 ≤ a * b ∧ a * b ≤ 9223372036854775807)) : wrap64 ((wrap64 (a * b)).tdiv b) ≠ a := by
  intro e
  have hp := wrap64_bd (a * b)
  obtain ⟨k, hk⟩ := wrap64_near (a * b)
  obtain ⟨p, hpe⟩ : ∃ p, wrap64 (a * b) = p := ⟨_, rfl⟩
  rw [hpe] at e hp hk
  clear hpe
  by_cases hm : p = -9223372036854775808 ∧ b = -1
  · obtain ⟨rfl, rfl⟩ := hm
    apply hn
    refine ⟨?_, rfl⟩
    have e2 : (-9223372036854775808 : Int).tdiv (-1) = 9223372036854775808 := by simp
    rw [e2] at e; unfold wrap64 at e; omega
  · have ht := tdiv_bd p b hp.1 hp.2 hm
    have hw : wrap64 (p.tdiv b) = p.tdiv b := by unfold wrap64; omega
    rw [hw] at e
    have h1 := Int.mul_tdiv_add_tmod p b
    rw [e, Int.mul_comm] at h1
    have h2 : (p.tmod b).natAbs < b.natAbs := by
      rw [Int.natAbs_tmod]; exact Nat.mod_lt _ (by omega)
    have : k = 0 := by omega
    subst this
    omega

/-! ### roots -/
def rootN : Nat → Nat
  | 0 => 0
  | n + 1 => if (rootN n + 1) * (rootN n + 1) ≤ n + 1 then rootN n + 1 else rootN n
theorem rootN_spec : ∀ n, rootN n * rootN n ≤ n ∧ n < (rootN n + 1) * (rootN n + 1)
  | 0 => ⟨Nat.le_refl _, by decide⟩
  | n + 1 => by
    obtain ⟨h1, h2⟩ := rootN_spec n
    unfold rootN
    split
    · rename_i h
      refine ⟨h, ?_⟩
      have e : (rootN n + 1 + 1) * (rootN n + 1 + 1) = (rootN n + 1) * (rootN n + 1) + 2 * rootN n + 3 := by
        generalize rootN n = r; rw [Nat.mul_add, Nat.add_mul, Nat.add_mul]; omega
      omega
    · omega
theorem sq_lt {a b : Nat} (h : a * a < b * b) : a < b := by
  rcases Nat.lt_or_ge a b with h1 | h1
  · exact h1
  · have := Nat.mul_le_mul h1 h1; omega
theorem rootN_is (n r : Nat) (h1 : r * r ≤ n) (h2 : n < (r + 1) * (r + 1)) : r = rootN n := by
  obtain ⟨h3, h4⟩ := rootN_spec n
  have a := sq_lt (Nat.lt_of_le_of_lt h1 h4)
  have b := sq_lt (Nat.lt_of_le_of_lt h3 h2)
  omega
theorem four_le (x y : Nat) : 4 * (x * y) ≤ (x + y) * (x + y) := by
  rcases Nat.le_total x y with h | h
  · obtain ⟨d, rfl⟩ := Nat.exists_eq_add_of_le h
    have : (x + (x + d)) * (x + (x + d)) = 4 * (x * (x + d)) + d * d := by
      simp only [Nat.mul_add, Nat.add_mul]; rw [Nat.mul_comm d x]; omega
    omega
  · obtain ⟨d, rfl⟩ := Nat.exists_eq_add_of_le h
    have : (y + d + y) * (y + d + y) = 4 * ((y + d) * y) + d * d := by
      simp only [Nat.mul_add, Nat.add_mul]; rw [Nat.mul_comm d y]; omega
    omega
/-- A step of Newton's stays at the root or above it. -/
theorem newton_above (n r : Nat) (hr : 0 < r) : n < ((r + n / r) / 2 + 1) * ((r + n / r) / 2 + 1) := by
  have h1 : n < r * (n / r + 1) := Nat.lt_mul_div_succ n hr
  have h2 := four_le r (n / r + 1)
  have h3 : r + (n / r + 1) ≤ 2 * ((r + n / r) / 2 + 1) := by omega
  have h4 := Nat.mul_le_mul h3 h3
  have e : 2 * ((r + n / r) / 2 + 1) * (2 * ((r + n / r) / 2 + 1)) = 4 * (((r + n / r) / 2 + 1) * ((r + n / r) / 2 + 1)) := by
    generalize (r + n / r) / 2 + 1 = z; rw [Nat.mul_mul_mul_comm]
  omega
theorem newton_stands (n r : Nat) (hr : 0 < r) (h : r ≤ (r + n / r) / 2) : r * r ≤ n := by
  have h1 : r ≤ n / r := by omega
  have := (Nat.le_div_iff_mul_le hr).1 h1
  exact this
theorem root_most (n r : Nat) (h : r * r ≤ n) (hn : n ≤ 9223372036854775807) : r ≤ 3037000499 := by
  have : r < 3037000500 := sq_lt (by omega)
  omega
theorem newton_quot (n r : Nat) (_ : 0 < r) (h : n < (r + 1) * (r + 1)) : n / r ≤ r + 2 := by
  have e : (r + 1) * (r + 1) = r * (r + 2) + 1 := by simp only [Nat.add_mul, Nat.mul_add]; omega
  exact Nat.div_le_of_le_mul (by omega)
theorem newton_pos (n r : Nat) (hn : 1 ≤ n) (hr : 0 < r) : 1 ≤ (r + n / r) / 2 := by
  by_cases e : r = 1
  · subst e; simp; omega
  · have : 2 ≤ r + n / r := by have := Nat.zero_le (n / r); omega
    omega
theorem bitLenAux_above : ∀ f x, x < 2 ^ f → x < 2 ^ Lib.bitLenAux f x
  | 0, x, h => h
  | f + 1, x, h => by
    unfold Lib.bitLenAux
    by_cases e : x = 0
    · subst e; simp
    · rw [if_neg e, Nat.add_comm, Nat.pow_succ]
      have := bitLenAux_above f (x / 2) (by rw [Nat.pow_succ] at h; omega)
      omega
/-- The power of two from which Newton's steps fall. -/
theorem newton_start (n : Nat) (h : n < 2 ^ 64) : n < 2 ^ ((Lib.bitLen n + 1) / 2) * 2 ^ ((Lib.bitLen n + 1) / 2) := by
  have h1 : n < 2 ^ Lib.bitLen n := bitLenAux_above 64 n h
  rw [← Nat.pow_add]
  exact Nat.lt_of_lt_of_le h1 (Nat.pow_le_pow_right (by omega) (by omega))
theorem rootN_pos (n : Nat) (h : 1 ≤ n) : 1 ≤ rootN n := by
  have := (rootN_spec n).2
  rcases Nat.eq_zero_or_pos (rootN n) with e | e
  · rw [e] at this; omega
  · exact e

/-! ### numbers in bytes -/
def fixL : Nat → Nat → List UInt8
  | 0, _ => []
  | w + 1, n => UInt8.ofNat (n % 256) :: fixL w (n / 256)
def unfL : List UInt8 → Nat
  | [] => 0
  | c :: l => c.toNat + 256 * unfL l
theorem fixL_length : ∀ w n, (fixL w n).length = w
  | 0, _ => rfl
  | w + 1, n => by simp [fixL, fixL_length w]
theorem unfL_fixL : ∀ w n, n < 256 ^ w → unfL (fixL w n) = n
  | 0, n, h => by simp at h; subst h; rfl
  | w + 1, n, h => by
    have e : n / 256 < 256 ^ w := by rw [Nat.pow_succ] at h; exact Nat.div_lt_of_lt_mul (by omega)
    simp only [fixL, unfL, unfL_fixL w _ e, UInt8.toNat_ofNat']
    omega
theorem unfL_lt : ∀ l : List UInt8, unfL l < 256 ^ l.length
  | [] => by decide
  | c :: l => by
    have h := unfL_lt l
    have hc := c.toNat_lt
    simp only [unfL, List.length_cons, Nat.pow_succ]
    omega
theorem unfL_snoc : ∀ (l : List UInt8) (c : UInt8), unfL (l ++ [c]) = unfL l + 256 ^ l.length * c.toNat
  | [], c => by simp [unfL]
  | d :: l, c => by
    simp only [List.cons_append, unfL, unfL_snoc l c, List.length_cons, Nat.pow_succ]
    rw [Nat.mul_add, ← Nat.mul_assoc, Nat.mul_comm 256 (256 ^ l.length)]; omega

theorem fixL_get : ∀ w n i (h : i < (fixL w n).length), (fixL w n)[i] = UInt8.ofNat (n / 256 ^ i % 256)
  | 0, _, i, h => by simp [fixL] at h
  | w + 1, n, 0, _ => by simp [fixL]
  | w + 1, n, i + 1, h => by
    simp only [fixL, List.getElem_cons_succ]
    rw [fixL_get w (n / 256) i, Nat.div_div_eq_div_mul, Nat.pow_succ, Nat.mul_comm 256]
theorem pow_256 (k : Nat) : 2 ^ (8 * k) = 256 ^ k := by rw [Nat.pow_mul]
theorem unfL_or (l : List UInt8) (c : UInt8) (h : l.length < 8) :
    bits .or .u64 (unfL l : Int) (IntKind.u64.wrap (IntKind.u64.wrap (c.toNat : Int) * 2 ^ (8 * l.length))) = (unfL (l ++ [c]) : Int) := by
  have hc := c.toNat_lt
  have hl := unfL_lt l
  have hp : 256 ^ l.length * 256 ≤ 18446744073709551616 := by
    rw [← Nat.pow_succ]; exact Nat.pow_le_pow_right (n := 256) (by decide) (by omega : l.length + 1 ≤ 8)
  have hm : 256 ^ l.length * c.toNat ≤ 256 ^ l.length * 255 := Nat.mul_le_mul_left _ (by omega)
  have e1 : IntKind.u64.wrap (c.toNat : Int) = (c.toNat : Int) := IntWalk.u64_in _ (by omega)
  have e2 : (c.toNat : Int) * 2 ^ (8 * l.length) = ((256 ^ l.length * c.toNat : Nat) : Int) := by
    rw [Int.natCast_mul, ← pow_256, Int.mul_comm]; simp
  rw [e1, e2, IntWalk.u64_in _ (by omega), u64_or_nat _ _ (by omega) (by omega), unfL_snoc, ← pow_256, Nat.or_comm]
  rw [← pow_256] at hl
  rw [← Nat.two_pow_add_eq_or_of_lt hl, Nat.add_comm]

/-! ### the check sum -/
def nStep (c : Nat) : Nat := (c / 2) ^^^ (c % 2 * 3988292384)
def nAt : Nat → Nat → Nat
  | 0, c => c
  | k + 1, c => nAt k (nStep c)
theorem nAt_succ : ∀ k c, nAt (k + 1) c = nStep (nAt k c)
  | 0, _ => rfl
  | k + 1, c => nAt_succ k (nStep c)
theorem nStep_lt (c : Nat) (h : c < 4294967296) : nStep c < 4294967296 := by
  unfold nStep
  have e32 : (2 : Nat) ^ 32 = 4294967296 := by decide
  have h1 : c / 2 < 2 ^ 32 := by omega
  have h2 : c % 2 * 3988292384 < 2 ^ 32 := by omega
  have := Nat.xor_lt_two_pow h1 h2
  omega
theorem xor_mod2 (a b : Nat) : (a ^^^ b) % 2 = (a % 2) ^^^ (b % 2) := by
  have := @Nat.xor_mod_two_pow a b 1
  simpa using this
theorem xor_cancel {a b c : Nat} (h : a ^^^ c = b ^^^ c) : a = b := by
  have := congrArg (· ^^^ c) h
  simpa [Nat.xor_assoc] using this
theorem nAt_lt : ∀ k c, c < 4294967296 → nAt k c < 4294967296
  | 0, _, h => h
  | k + 1, c, h => nAt_lt k _ (nStep_lt c h)
theorem nStep_xor (a b : Nat) : nStep (a ^^^ b) = nStep a ^^^ nStep b := by
  have h1 : (a ^^^ b) / 2 = a / 2 ^^^ b / 2 := Nat.xor_div_two
  have h2 : (a ^^^ b) % 2 * 3988292384 = (a % 2 * 3988292384) ^^^ (b % 2 * 3988292384) := by
    rw [xor_mod2]
    rcases Nat.mod_two_eq_zero_or_one a with e | e <;> rcases Nat.mod_two_eq_zero_or_one b with f | f <;> simp [e, f]
  unfold nStep
  rw [h1, h2]
  ac_rfl
theorem nAt_xor : ∀ k a b, nAt k (a ^^^ b) = nAt k a ^^^ nAt k b
  | 0, _, _ => rfl
  | k + 1, a, b => by simp only [nAt, nStep_xor, nAt_xor k]
/-- What k bits do to a sum hangs on these bits alone: the rest is shifted. -/
theorem nAt_low : ∀ k c, nAt k c = c / 2 ^ k ^^^ nAt k (c % 2 ^ k)
  | 0, c => by simp [nAt, Nat.mod_one]
  | k + 1, c => by
    have e1 : c / 2 / 2 ^ k = c / 2 ^ (k + 1) := by rw [Nat.div_div_eq_div_mul, Nat.pow_succ, Nat.mul_comm]
    have e2 : c % 2 ^ (k + 1) / 2 = c / 2 % 2 ^ k := by rw [Nat.pow_succ, Nat.mul_comm, Nat.mod_mul_right_div_self]
    have e3 : c % 2 ^ (k + 1) % 2 = c % 2 := Nat.mod_mod_of_dvd _ ⟨2 ^ k, by rw [Nat.pow_succ, Nat.mul_comm]⟩
    have h1 : nAt (k + 1) c = nAt k (c / 2) ^^^ nAt k (c % 2 * 3988292384) := by
      show nAt k (nStep c) = _
      unfold nStep; rw [nAt_xor]
    have h2 : nAt (k + 1) (c % 2 ^ (k + 1)) = nAt k (c / 2 % 2 ^ k) ^^^ nAt k (c % 2 * 3988292384) := by
      show nAt k (nStep _) = _
      unfold nStep; rw [nAt_xor, e2, e3]
    rw [h1, h2, nAt_low k (c / 2), e1]
    ac_rfl
theorem nStep_inj (a b : Nat) (ha : a < 4294967296) (hb : b < 4294967296) (h : nStep a = nStep b) : a = b := by
  unfold nStep at h
  have key : ∀ x y : Nat, x < 2147483648 → y < 2147483648 → x ^^^ 3988292384 ≠ y := by
    intro x y hx hy e
    have : x ^^^ y = 3988292384 := by rw [← e, ← Nat.xor_assoc, Nat.xor_self, Nat.zero_xor]
    have : x ^^^ y < 2 ^ 31 := Nat.xor_lt_two_pow hx hy
    omega
  rcases Nat.mod_two_eq_zero_or_one a with e | e <;> rcases Nat.mod_two_eq_zero_or_one b with f | f <;> rw [e, f] at h
  · simp at h; omega
  · simp at h; exact absurd h.symm (key _ _ (by omega) (by omega))
  · simp at h; exact absurd h (key _ _ (by omega) (by omega))
  · have := xor_cancel h; omega
theorem nAt_inj : ∀ k a b, a < 4294967296 → b < 4294967296 → nAt k a = nAt k b → a = b
  | 0, _, _, _, _, h => h
  | k + 1, a, b, ha, hb, h => nStep_inj a b ha hb (nAt_inj k _ _ (nStep_lt a ha) (nStep_lt b hb) h)
/-- The sum over the first k bytes, not yet turned at the end. -/
def byN (s : ByteArray) (k : Nat) : Nat := if h : k < s.size then (s[k]'h).toNat else 0
theorem byN_lt (s : ByteArray) (k : Nat) : byN s k < 256 := by
  unfold byN; split
  · exact UInt8.toNat_lt _
  · omega
theorem byN_get (s : ByteArray) (k : Nat) (h : k < s.size) : ((s[k]'h).toNat : Int) = (byN s k : Int) := by unfold byN; rw [dif_pos h]
def sumN (s : ByteArray) : Nat → Nat
  | 0 => 4294967295
  | k + 1 => nAt 8 (sumN s k ^^^ byN s k)
theorem xor_byte_lt (c b : Nat) (hc : c < 4294967296) (hb : b < 256) : c ^^^ b < 4294967296 := by
  have e32 : (2 : Nat) ^ 32 = 4294967296 := by decide
  have := Nat.xor_lt_two_pow (n := 32) (x := c) (y := b) (by omega) (by omega)
  omega
theorem sumN_lt (s : ByteArray) : ∀ k, sumN s k < 4294967296
  | 0 => by unfold sumN; omega
  | k + 1 => nAt_lt 8 _ (xor_byte_lt _ _ (sumN_lt s k) (byN_lt s k))
theorem nAt_add : ∀ i j c, nAt (i + j) c = nAt i (nAt j c)
  | _, 0, _ => rfl
  | i, j + 1, c => nAt_add i j (nStep c)
/-- The step in the walk's own form. -/
def cStep (c : Int) : Int := bits .xor .u32 (c / 2) (IntKind.u32.wrap (bits .and .u32 c 1 * 3988292384))
def cAt (i : Int) : Nat → Int
  | 0 => i
  | k + 1 => cStep (cAt i k)
theorem and_one (c : Nat) : c &&& 1 = c % 2 := Nat.and_two_pow_sub_one_eq_mod c 1
theorem and_fifteen (c : Nat) : c &&& 15 = c % 16 := Nat.and_two_pow_sub_one_eq_mod c 4
theorem cStep_nat (c : Nat) (h : c < 4294967296) : cStep (c : Int) = (nStep c : Int) := by
  unfold cStep nStep
  have e1 : bits .and .u32 (c : Int) 1 = ((c % 2 : Nat) : Int) := by
    have := u32_and_nat c 1 h (by decide); rw [and_one] at this; exact this
  have e2 : IntKind.u32.wrap (((c % 2 : Nat) : Int) * 3988292384) = ((c % 2 * 3988292384 : Nat) : Int) := by
    rw [IntWalk.u32_in _ (by omega)]; omega
  have e3 : (c : Int) / 2 = ((c / 2 : Nat) : Int) := by omega
  rw [e1, e2, e3]
  exact u32_xor_nat _ _ (by omega) (by omega)
theorem cAt_nat (c : Nat) (h : c < 4294967296) : ∀ k, cAt (c : Int) k = (nAt k c : Int)
  | 0 => rfl
  | k + 1 => by rw [nAt_succ]; show cStep (cAt _ k) = _; rw [cAt_nat c h k, cStep_nat _ (nAt_lt k c h)]
/-- Four steps at once, out of the table's row. -/
theorem four_steps (x : Nat) (h : x < 4294967296) : bits .xor .u32 ((x : Int) / 16) (cAt ((x % 16 : Nat) : Int) 4) = (nAt 4 x : Int) := by
  rw [cAt_nat _ (by omega), nAt_low 4 x]
  have e3 : (x : Int) / 16 = ((x / 2 ^ 4 : Nat) : Int) := by
    have : (2 : Nat) ^ 4 = 16 := by decide
    omega
  rw [e3]
  have hp : (2 : Nat) ^ 4 = 16 := by decide
  exact u32_xor_nat _ _ (by omega) (nAt_lt 4 _ (by omega))
theorem and15 (x : Nat) (h : x < 4294967296) : bits .and .u32 (x : Int) 15 = ((x % 16 : Nat) : Int) := by
  have := u32_and_nat x 15 h (by decide); rw [and_fifteen] at this; exact this
def crcN (s : ByteArray) : Nat := sumN s s.size ^^^ 4294967295
theorem crc_max (s : ByteArray) : bits .xor .u32 IntKind.u32.max (sumN s s.size : Int) = (crcN s : Int) := by
  have e : IntKind.u32.max = ((4294967295 : Nat) : Int) := by decide
  rw [e, u32_xor_nat _ _ (by decide) (sumN_lt s _), Nat.xor_comm]; rfl
theorem crc_right (s : ByteArray) : bits .xor .u32 (sumN s s.size : Int) 4294967295 = (crcN s : Int) := by
  have := u32_xor_nat (sumN s s.size) 4294967295 (sumN_lt s _) (by decide)
  exact this
theorem crcN_lt (s : ByteArray) : crcN s < 4294967296 := by
  have e32 : (2 : Nat) ^ 32 = 4294967296 := by decide
  have h := sumN_lt s s.size
  have := Nat.xor_lt_two_pow (n := 32) (x := sumN s s.size) (y := 4294967295) (by omega) (by omega)
  unfold crcN; omega
/-- Two texts that part in one byte have other sums. -/
theorem sumN_same (s t : ByteArray) : ∀ k, (∀ i, i < k → byN s i = byN t i) → sumN s k = sumN t k
  | 0, _ => rfl
  | k + 1, h => by
    show nAt 8 _ = nAt 8 _
    rw [sumN_same s t k (fun i hi => h i (by omega)), h k (by omega)]
theorem sumN_other (s t : ByteArray) (j : Nat) (hj : byN s j ≠ byN t j) (hs : ∀ i, i ≠ j → byN s i = byN t i) : ∀ k, j < k → sumN s k ≠ sumN t k
  | 0, h => by omega
  | k + 1, h => by
    intro e
    have e2 := nAt_inj 8 _ _ (xor_byte_lt _ _ (sumN_lt s k) (byN_lt s k)) (xor_byte_lt _ _ (sumN_lt t k) (byN_lt t k)) e
    rcases Nat.lt_or_ge j k with h1 | h1
    · rw [hs k (by omega)] at e2
      exact sumN_other s t j hj hs k h1 (xor_cancel e2)
    · obtain rfl : k = j := by omega
      rw [sumN_same s t k (fun i hi => hs i (by omega)), Nat.xor_comm, Nat.xor_comm (sumN t k)] at e2
      exact hj (xor_cancel e2)

/-! ### the hash -/
def hStep (h c : Int) : Int := IntKind.u64.wrap (bits .xor .u64 h c * 1099511628211)
def hAt (s : ByteArray) : Nat → Int
  | 0 => 14695981039346656037
  | k + 1 => hStep (hAt s k) (byN s k)
theorem hAt_bd (s : ByteArray) : ∀ k, 0 ≤ hAt s k ∧ hAt s k ≤ 18446744073709551615
  | 0 => by unfold hAt; omega
  | _ + 1 => u64_bd _
end Go.Proofs.YtkbdokakoapooaaGreatDoor
namespace Go.Proofs.YtkbdokakoapooaaGreatDoor
set_option linter.unusedVariables false
open Go
namespace Wl
theorem fixL_inj {w a b : Nat} (ha : a < 256 ^ w) (hb : b < 256 ^ w) (h : fixL w a = fixL w b) : a = b := by
  rw [← unfL_fixL w a ha, h, unfL_fixL w b hb]
/-! ### the check sum of a list -/
def crcL (l : List UInt8) : Nat := crcN ⟨l.toArray⟩
theorem crcL_of (s : ByteArray) : crcL s.data.toList = crcN s := rfl
theorem crcL_lt (l : List UInt8) : crcL l < 4294967296 := crcN_lt _
theorem byN_list (l : List UInt8) (i : Nat) : byN ⟨l.toArray⟩ i = (l.getD i 0).toNat := by
  unfold byN
  by_cases h : i < l.length
  · rw [dif_pos (show i < (ByteArray.mk l.toArray).size from (show i < l.toArray.size by simpa using h))]
    rw [List.getD_eq_getElem?_getD, List.getElem?_eq_getElem h]
    rfl
  · rw [dif_neg (show ¬ i < (ByteArray.mk l.toArray).size from (show ¬ i < l.toArray.size by simpa using h))]
    rw [List.getD_eq_getElem?_getD, List.getElem?_eq_none (by omega)]
    rfl
theorem crcL_set (l : List UInt8) (j : Nat) (x : UInt8) (hj : j < l.length) (hx : l[j]? ≠ some x) : crcL (l.set j x) ≠ crcL l := by
  intro e
  unfold crcL crcN at e
  have e2 := xor_cancel e
  have hz : (ByteArray.mk (l.set j x).toArray).size = (ByteArray.mk l.toArray).size := by
    show (l.set j x).toArray.size = l.toArray.size
    simp
  rw [hz] at e2
  refine sumN_other _ _ j ?_ ?_ _ (show j < (ByteArray.mk l.toArray).size from (show j < l.toArray.size by simpa using hj)) e2
  · rw [byN_list, byN_list]
    simp only [List.getD_eq_getElem?_getD, List.getElem?_set_self hj, List.getElem?_eq_getElem hj, Option.getD_some]
    intro c
    apply hx
    rw [List.getElem?_eq_getElem hj]
    exact congrArg some (UInt8.toNat_inj.1 c).symm
  · intro i hi
    rw [byN_list, byN_list]
    simp only [List.getD_eq_getElem?_getD, List.getElem?_set_ne (Ne.symm hi)]
def sum4 (l : List UInt8) : List UInt8 := fixL 4 (crcL l)
theorem sum4_len (l : List UInt8) : (sum4 l).length = 4 := fixL_length _ _
theorem sum4_set (l : List UInt8) (j : Nat) (x : UInt8) (hj : j < l.length) (hx : l[j]? ≠ some x) : sum4 (l.set j x) ≠ sum4 l := fun e =>
  crcL_set l j x hj hx (fixL_inj (w := 4) (crcL_lt _) (crcL_lt _) e)
/-! ### frames -/
def headL (q n : Nat) : List UInt8 := fixL 4 n ++ fixL 8 q
def frameL (q : Nat) (b : List UInt8) : List UInt8 := headL q b.length ++ sum4 (headL q b.length) ++ b ++ sum4 (fixL 8 q ++ b)
theorem headL_len (q n : Nat) : (headL q n).length = 12 := by simp [headL, fixL_length]
theorem frameL_len (q : Nat) (b : List UInt8) : (frameL q b).length = 20 + b.length := by
  simp only [frameL, List.length_append, headL_len, sum4_len]; omega
inductive One where
  | torn
  | bad
  | ok (q : Nat) (b : List UInt8)
def lenOf (s : List UInt8) : Nat := unfL (s.take 4)
def seqOf (s : List UInt8) : Nat := unfL ((s.drop 4).take 8)
def bodyOf (s : List UInt8) : List UInt8 := (s.drop 16).take (lenOf s)
def headOk (s : List UInt8) : Bool := decide (sum4 (s.take 12) = (s.drop 12).take 4) && decide (lenOf s ≤ 16777216) && decide (1 ≤ seqOf s) && decide (seqOf s ≤ 4503599627370496)
def bodyOk (s : List UInt8) : Bool := decide (sum4 ((s.drop 4).take 8 ++ bodyOf s) = (s.drop (16 + lenOf s)).take 4)
def recOf (s : List UInt8) : One :=
  if s.length < 16 then .torn else if headOk s = false then .bad else if s.length < 20 + lenOf s then .torn else if bodyOk s = false then .bad else .ok (seqOf s) (bodyOf s)
theorem one_short {s : List UInt8} (h : s.length < 16) : recOf s = .torn := by unfold recOf; rw [if_pos h]
theorem one_head {s : List UInt8} (h : ¬ s.length < 16) (h1 : headOk s = false) : recOf s = .bad := by unfold recOf; rw [if_neg h, if_pos h1]
theorem one_part {s : List UInt8} (h : ¬ s.length < 16) (h1 : headOk s = true) (h2 : s.length < 20 + lenOf s) : recOf s = .torn := by
  unfold recOf; rw [if_neg h, if_neg (by rw [h1]; simp), if_pos h2]
theorem one_body {s : List UInt8} (h : ¬ s.length < 16) (h1 : headOk s = true) (h2 : ¬ s.length < 20 + lenOf s) (h3 : bodyOk s = false) : recOf s = .bad := by
  unfold recOf; rw [if_neg h, if_neg (by rw [h1]; simp), if_neg h2, if_pos h3]
theorem one_yes {s : List UInt8} (h : ¬ s.length < 16) (h1 : headOk s = true) (h2 : ¬ s.length < 20 + lenOf s) (h3 : bodyOk s = true) : recOf s = .ok (seqOf s) (bodyOf s) := by
  unfold recOf; rw [if_neg h, if_neg (by rw [h1]; simp), if_neg h2, if_neg (by rw [h3]; simp)]
theorem lenOf_lt (s : List UInt8) (h : ¬ s.length < 16) : lenOf s < 4294967296 := by
  have h1 := unfL_lt (s.take 4)
  rw [show (s.take 4).length = 4 by simp; omega] at h1
  exact h1
theorem seqOf_lt (s : List UInt8) (h : ¬ s.length < 16) : seqOf s < 18446744073709551616 := by
  have h1 := unfL_lt ((s.drop 4).take 8)
  rw [show ((s.drop 4).take 8).length = 8 by simp; omega] at h1
  exact h1
theorem bodyOf_len {s : List UInt8} (h : ¬ s.length < 20 + lenOf s) : (bodyOf s).length = lenOf s := by
  simp [bodyOf]; omega
theorem one_ok {s : List UInt8} {q : Nat} {b : List UInt8} (h : recOf s = .ok q b) : 20 + b.length ≤ s.length ∧ 1 ≤ q ∧ q ≤ 4503599627370496 ∧ b.length ≤ 16777216 := by
  by_cases h1 : s.length < 16
  · rw [one_short h1] at h; cases h
  · cases h2 : headOk s with
    | false => rw [one_head h1 h2] at h; cases h
    | true =>
      by_cases h3 : s.length < 20 + lenOf s
      · rw [one_part h1 h2 h3] at h; cases h
      · cases h4 : bodyOk s with
        | false => rw [one_body h1 h2 h3 h4] at h; cases h
        | true =>
          rw [one_yes h1 h2 h3 h4] at h
          injection h with e1 e2
          subst e1 e2
          have hl := bodyOf_len h3
          simp only [headOk, Bool.and_eq_true, decide_eq_true_eq] at h2
          omega
/-! ### the records of any bytes -/
structure Sc where
  recs : List (Nat × List UInt8)
  size : Nat
  err : Nat
def Sc.more (r : Sc) (q : Nat) (b : List UInt8) : Sc := ⟨(q, b) :: r.recs, 20 + b.length + r.size, r.err⟩
/-- The records with which s begins, when p was the number of the one ahead (0: there is none). -/
def scan (p : Nat) (s : List UInt8) : Sc :=
  if he : s = [] then ⟨[], 0, 0⟩ else
  match h : recOf s with
  | .torn => ⟨[], 0, 91⟩
  | .bad => ⟨[], 0, 90⟩
  | .ok q b => if p ≠ 0 ∧ q ≠ p + 1 then ⟨[], 0, 90⟩ else (scan q (s.drop (20 + b.length))).more q b
termination_by s.length
decreasing_by
  have := List.length_pos_iff.2 he
  simp only [List.length_drop]; omega
theorem scan_nil (p : Nat) : scan p [] = ⟨[], 0, 0⟩ := by rw [scan]; simp
theorem scan_torn {p : Nat} {s : List UInt8} (h0 : s ≠ []) (h : recOf s = .torn) : scan p s = ⟨[], 0, 91⟩ := by
  rw [scan, dif_neg h0]
  split
  · rfl
  · rename_i e; rw [h] at e; cases e
  · rename_i e; rw [h] at e; cases e
theorem scan_bad {p : Nat} {s : List UInt8} (h0 : s ≠ []) (h : recOf s = .bad) : scan p s = ⟨[], 0, 90⟩ := by
  rw [scan, dif_neg h0]
  split
  · rename_i e; rw [h] at e; cases e
  · rfl
  · rename_i e; rw [h] at e; cases e
theorem scan_step {p q : Nat} {s b : List UInt8} (h0 : s ≠ []) (h : recOf s = .ok q b) : scan p s = if p ≠ 0 ∧ q ≠ p + 1 then ⟨[], 0, 90⟩ else (scan q (s.drop (20 + b.length))).more q b := by
  rw [scan, dif_neg h0]
  split
  · rename_i e; rw [h] at e; cases e
  · rename_i e; rw [h] at e; cases e
  · rename_i q' b' e; rw [h] at e; injection e with e1 e2; subst e1 e2; rfl
theorem scan_off {p q : Nat} {s b : List UInt8} (h0 : s ≠ []) (h : recOf s = .ok q b) (hp : p ≠ 0 ∧ q ≠ p + 1) : scan p s = ⟨[], 0, 90⟩ := by rw [scan_step h0 h, if_pos hp]
theorem scan_next {p q : Nat} {s b : List UInt8} (h0 : s ≠ []) (h : recOf s = .ok q b) (hp : ¬ (p ≠ 0 ∧ q ≠ p + 1)) : scan p s = (scan q (s.drop (20 + b.length))).more q b := by rw [scan_step h0 h, if_neg hp]
theorem scan_size : ∀ (n p : Nat) (s : List UInt8), s.length ≤ n → (scan p s).size ≤ s.length ∧ (scan p s).recs.length * 20 ≤ (scan p s).size := by
  intro n
  induction n with
  | zero =>
    intro p s hs
    obtain rfl := List.eq_nil_of_length_eq_zero (Nat.le_zero.1 hs)
    rw [scan_nil]; simp
  | succ n ih =>
    intro p s hs
    by_cases h0 : s = []
    · subst h0; rw [scan_nil]; simp
    · cases h : recOf s with
      | torn => rw [scan_torn h0 h]; simp
      | bad => rw [scan_bad h0 h]; simp
      | ok q b =>
        by_cases hp : p ≠ 0 ∧ q ≠ p + 1
        · rw [scan_off h0 h hp]; simp
        · rw [scan_next h0 h hp]
          obtain ⟨h1, _⟩ := one_ok h
          obtain ⟨h2, h3⟩ := ih q (s.drop (20 + b.length)) (by simp; omega)
          simp only [Sc.more, List.length_cons]
          simp only [List.length_drop] at h2
          omega
/-! ### a frame is read as it was -/
theorem take_app {α} {a b : List α} {n : Nat} (h : a.length = n) : (a ++ b).take n = a := by subst h; simp
theorem drop_app {α} {a b : List α} {n : Nat} (h : a.length = n) : (a ++ b).drop n = b := by subst h; simp
/-- The parts of bytes that begin with a head, a sum of it, a body and its sum. -/
theorem parts (l q h b c t : List UInt8) (h1 : l.length = 4) (h2 : q.length = 8) (h3 : h.length = 4) (h4 : c.length = 4) :
    (l ++ q ++ h ++ b ++ c ++ t).take 4 = l ∧ ((l ++ q ++ h ++ b ++ c ++ t).drop 4).take 8 = q ∧ (l ++ q ++ h ++ b ++ c ++ t).take 12 = l ++ q ∧ ((l ++ q ++ h ++ b ++ c ++ t).drop 12).take 4 = h ∧
    ((l ++ q ++ h ++ b ++ c ++ t).drop 16).take b.length = b ∧ ((l ++ q ++ h ++ b ++ c ++ t).drop (16 + b.length)).take 4 = c ∧ (l ++ q ++ h ++ b ++ c ++ t).drop (20 + b.length) = t ∧ (l ++ q ++ h ++ b ++ c ++ t).length = 20 + b.length + t.length := by
  refine ⟨?_, ?_, ?_, ?_, ?_, ?_, ?_, ?_⟩
  · simp only [List.append_assoc]; exact take_app h1
  · simp only [List.append_assoc]; rw [drop_app h1]; exact take_app h2
  · rw [show l ++ q ++ h ++ b ++ c ++ t = (l ++ q) ++ (h ++ (b ++ (c ++ t))) by simp]; exact take_app (by simp [h1, h2])
  · rw [show l ++ q ++ h ++ b ++ c ++ t = (l ++ q) ++ (h ++ (b ++ (c ++ t))) by simp, drop_app (by simp [h1, h2])]; exact take_app h3
  · rw [show l ++ q ++ h ++ b ++ c ++ t = (l ++ q ++ h) ++ (b ++ (c ++ t)) by simp, drop_app (by simp [h1, h2, h3])]; exact take_app rfl
  · rw [show l ++ q ++ h ++ b ++ c ++ t = (l ++ q ++ h ++ b) ++ (c ++ t) by simp, drop_app (by simp [h1, h2, h3]; omega)]; exact take_app h4
  · exact drop_app (by simp [h1, h2, h3, h4]; omega)
  · simp [h1, h2, h3, h4]; omega
theorem one_of_parts (l q h b c t : List UInt8) (h1 : l.length = 4) (h2 : q.length = 8) (h3 : h.length = 4) (h4 : c.length = 4) (hn : unfL l = b.length) (hn' : b.length ≤ 16777216) (hq : 1 ≤ unfL q) (hq' : unfL q ≤ 4503599627370496) :
    recOf (l ++ q ++ h ++ b ++ c ++ t) = if sum4 (l ++ q) ≠ h then .bad else if sum4 (q ++ b) ≠ c then .bad else .ok (unfL q) b := by
  obtain ⟨p1, p2, p3, p4, p5, p6, _, p8⟩ := parts l q h b c t h1 h2 h3 h4
  generalize l ++ q ++ h ++ b ++ c ++ t = s at *
  have el : lenOf s = b.length := by unfold lenOf; rw [p1, hn]
  have eq : seqOf s = unfL q := by unfold seqOf; rw [p2]
  have eb : bodyOf s = b := by unfold bodyOf; rw [el, p5]
  have e16 : ¬ s.length < 16 := by omega
  have hh : headOk s = decide (sum4 (l ++ q) = h) := by
    unfold headOk
    rw [p3, p4, el, eq, decide_eq_true hn', decide_eq_true hq, decide_eq_true hq']
    simp
  have hb : bodyOk s = decide (sum4 (q ++ b) = c) := by
    unfold bodyOk
    rw [p2, eb, el, p6]
  by_cases c1 : sum4 (l ++ q) = h
  · rw [if_neg (by simpa using c1)]
    by_cases c2 : sum4 (q ++ b) = c
    · rw [if_neg (by simpa using c2), one_yes e16 (by rw [hh]; simpa using c1) (by omega) (by rw [hb]; simpa using c2), eq, eb]
    · rw [if_pos c2, one_body e16 (by rw [hh]; simpa using c1) (by omega) (by rw [hb]; simpa using c2)]
  · rw [if_pos c1, one_head e16 (by rw [hh]; simpa using c1)]
theorem one_frame (q : Nat) (b t : List UInt8) (hn : b.length ≤ 16777216) (hq : 1 ≤ q) (hq' : q ≤ 4503599627370496) : recOf (frameL q b ++ t) = .ok q b := by
  have e := one_of_parts (fixL 4 b.length) (fixL 8 q) (sum4 (headL q b.length)) b (sum4 (fixL 8 q ++ b)) t (fixL_length _ _) (fixL_length _ _) (sum4_len _) (sum4_len _) (unfL_fixL 4 _ (by omega)) hn
    (by rw [unfL_fixL 8 q (by omega)]; exact hq) (by rw [unfL_fixL 8 q (by omega)]; exact hq')
  rw [if_neg (by simp [headL]), if_neg (by simp), unfL_fixL 8 q (by omega)] at e
  exact e
theorem frame_drop (q : Nat) (b t : List UInt8) : (frameL q b ++ t).drop (20 + b.length) = t := drop_app (frameL_len q b)
theorem frame_ne (q : Nat) (b t : List UInt8) : frameL q b ++ t ≠ [] := by
  intro e
  have := congrArg List.length e
  simp [frameL_len] at this
/-- Cut off anywhere a frame is torn. -/
theorem one_cut (q : Nat) (b : List UInt8) (hn : b.length ≤ 16777216) (hq : 1 ≤ q) (hq' : q ≤ 4503599627370496) (k : Nat) (hk : k < 20 + b.length) : recOf ((frameL q b).take k) = .torn := by
  have hl : ((frameL q b).take k).length = k := by rw [List.length_take, frameL_len]; omega
  by_cases h16 : k < 16
  · exact one_short (by omega)
  · have hy := one_frame q b [] hn hq hq'
    rw [List.append_nil] at hy
    have e1 : ∀ m, m ≤ k → ((frameL q b).take k).take m = (frameL q b).take m := fun m hm => by rw [List.take_take, Nat.min_eq_left hm]
    have e2 : ∀ i m, i + m ≤ k → (((frameL q b).take k).drop i).take m = ((frameL q b).drop i).take m := fun i m hm => by
      rw [List.drop_take, List.take_take, Nat.min_eq_left (by omega)]
    have a1 : lenOf ((frameL q b).take k) = lenOf (frameL q b) := by unfold lenOf; rw [e1 4 (by omega)]
    have a2 : seqOf ((frameL q b).take k) = seqOf (frameL q b) := by unfold seqOf; rw [e2 4 8 (by omega)]
    have a3 : headOk ((frameL q b).take k) = headOk (frameL q b) := by unfold headOk; rw [a1, a2, e1 12 (by omega), e2 12 4 (by omega)]
    have hf16 : ¬ (frameL q b).length < 16 := by rw [frameL_len]; omega
    have hlen : lenOf (frameL q b) = b.length := by
      obtain ⟨p1, _⟩ := parts (fixL 4 b.length) (fixL 8 q) (sum4 (headL q b.length)) b (sum4 (fixL 8 q ++ b)) [] (fixL_length _ _) (fixL_length _ _) (sum4_len _) (sum4_len _)
      rw [List.append_nil] at p1
      have p1' : (frameL q b).take 4 = fixL 4 b.length := p1
      unfold lenOf
      rw [p1', unfL_fixL 4 _ (by omega)]
    have hh : headOk (frameL q b) = true := by
      cases h : headOk (frameL q b) with
      | true => rfl
      | false => rw [one_head hf16 h] at hy; cases hy
    exact one_part (by omega) (by rw [a3]; exact hh) (by rw [a1, hlen]; omega)
/-- With one byte turned a frame is none, whatever stands behind it. -/
theorem one_spoilt (q : Nat) (b t : List UInt8) (hn : b.length ≤ 16777216) (hq : 1 ≤ q) (hq' : q ≤ 4503599627370496) (j : Nat) (x : UInt8) (hj : j < 20 + b.length) (hx : (frameL q b)[j]? ≠ some x) :
    recOf ((frameL q b).set j x ++ t) = .bad := by
  have hlx : ((frameL q b).set j x ++ t).length = 20 + b.length + t.length := by simp [frameL_len]
  have h16 : ¬ ((frameL q b).set j x ++ t).length < 16 := by omega
  have hF : frameL q b = headL q b.length ++ (sum4 (headL q b.length) ++ (b ++ sum4 (fixL 8 q ++ b))) := by simp [frameL]
  by_cases h12 : j < 12
  · -- in the head
    have e : (frameL q b).set j x ++ t = ((headL q b.length).set j x) ++ (sum4 (headL q b.length) ++ (b ++ sum4 (fixL 8 q ++ b) ++ t)) := by
      rw [hF, List.set_append_left _ _ (by rw [headL_len]; exact h12)]; simp
    have hx' : (headL q b.length)[j]? ≠ some x := by
      rw [hF, List.getElem?_append_left (by rw [headL_len]; exact h12)] at hx; exact hx
    refine one_head h16 ?_
    unfold headOk
    have hl : ((headL q b.length).set j x).length = 12 := by rw [List.length_set, headL_len]
    rw [e, take_app hl, drop_app hl, take_app (sum4_len _), decide_eq_false (sum4_set _ j x (by rw [headL_len]; exact h12) hx')]
    rfl
  · by_cases h12b : j < 16
    · -- in the head's sum
      have e : (frameL q b).set j x ++ t = headL q b.length ++ ((sum4 (headL q b.length)).set (j - 12) x ++ (b ++ sum4 (fixL 8 q ++ b) ++ t)) := by
        rw [hF, List.set_append_right _ _ (by rw [headL_len]; omega), headL_len, List.set_append_left _ _ (by rw [sum4_len]; omega)]; simp
      have hx' : (sum4 (headL q b.length))[j - 12]? ≠ some x := by
        rw [hF, List.getElem?_append_right (by rw [headL_len]; omega), headL_len, List.getElem?_append_left (by rw [sum4_len]; omega)] at hx; exact hx
      refine one_head h16 ?_
      unfold headOk
      have hl : ((sum4 (headL q b.length)).set (j - 12) x).length = 4 := by rw [List.length_set, sum4_len]
      rw [e, take_app (headL_len _ _), drop_app (headL_len _ _), take_app hl, decide_eq_false]
      · rfl
      · intro c
        apply hx'
        rw [c, List.getElem?_set_self (by rw [sum4_len]; omega)]
    · have hbad : ∀ (b' c' : List UInt8), b'.length = b.length → c'.length = 4 → sum4 (fixL 8 q ++ b') ≠ c' → recOf (fixL 4 b.length ++ fixL 8 q ++ sum4 (headL q b.length) ++ b' ++ c' ++ t) = .bad := by
        intro b' c' hb' hc' hs
        rw [one_of_parts _ _ _ b' c' t (fixL_length _ _) (fixL_length _ _) (sum4_len _) hc' (by rw [hb']; exact unfL_fixL 4 _ (by omega)) (by omega) (by rw [unfL_fixL 8 q (by omega)]; exact hq) (by rw [unfL_fixL 8 q (by omega)]; exact hq')]
        rw [if_neg (by simp [headL]), if_pos hs]
      have h1 : ((headL q b.length) ++ sum4 (headL q b.length)).length = 16 := by simp [headL_len, sum4_len]
      have hF2 : frameL q b = (headL q b.length ++ sum4 (headL q b.length)) ++ (b ++ sum4 (fixL 8 q ++ b)) := by simp [frameL]
      by_cases hbd : j < 16 + b.length
      · -- in the body
        have e : (frameL q b).set j x ++ t = fixL 4 b.length ++ fixL 8 q ++ sum4 (headL q b.length) ++ b.set (j - 16) x ++ sum4 (fixL 8 q ++ b) ++ t := by
          rw [hF2, List.set_append_right _ _ (by rw [h1]; omega), h1, List.set_append_left _ _ (by omega)]; simp [headL]
        have hx' : (fixL 8 q ++ b)[8 + (j - 16)]? ≠ some x := by
          rw [hF2, List.getElem?_append_right (by rw [h1]; omega), h1, List.getElem?_append_left (by omega)] at hx
          rw [List.getElem?_append_right (by rw [fixL_length]; omega), fixL_length, Nat.add_sub_cancel_left]
          exact hx
        rw [e]
        refine hbad _ _ (by simp) (sum4_len _) ?_
        have es : fixL 8 q ++ b.set (j - 16) x = (fixL 8 q ++ b).set (8 + (j - 16)) x := by
          rw [List.set_append_right _ _ (by rw [fixL_length]; omega), fixL_length, Nat.add_sub_cancel_left]
        rw [es]
        exact sum4_set _ _ x (by simp [fixL_length]; omega) hx'
      · -- in the body's sum
        have h2 : ((headL q b.length) ++ sum4 (headL q b.length) ++ b).length = 16 + b.length := by simp [headL_len, sum4_len]; omega
        have hF3 : frameL q b = (headL q b.length ++ sum4 (headL q b.length) ++ b) ++ sum4 (fixL 8 q ++ b) := by simp [frameL]
        have e : (frameL q b).set j x ++ t = fixL 4 b.length ++ fixL 8 q ++ sum4 (headL q b.length) ++ b ++ (sum4 (fixL 8 q ++ b)).set (j - (16 + b.length)) x ++ t := by
          rw [hF3, List.set_append_right _ _ (by rw [h2]; omega), h2]; simp [headL]
        have hx' : (sum4 (fixL 8 q ++ b))[j - (16 + b.length)]? ≠ some x := by
          rw [hF3, List.getElem?_append_right (by rw [h2]; omega), h2] at hx; exact hx
        rw [e]
        refine hbad _ _ rfl (by rw [List.length_set, sum4_len]) ?_
        intro c
        apply hx'
        rw [c, List.getElem?_set_self (by rw [sum4_len]; omega)]
/-! ### records one behind the other -/
def frames : Nat → List (List UInt8) → List UInt8
  | _, [] => []
  | q, b :: r => frameL q b ++ frames (q + 1) r
def numbered : Nat → List (List UInt8) → List (Nat × List UInt8)
  | _, [] => []
  | q, b :: r => (q, b) :: numbered (q + 1) r
theorem frames_add (q : Nat) (a c : List (List UInt8)) : frames q (a ++ c) = frames q a ++ frames (q + a.length) c := by
  induction a generalizing q with
  | nil => rfl
  | cons x r ih => simp only [List.cons_append, frames, ih, List.append_assoc, List.length_cons]; rw [show q + 1 + r.length = q + (r.length + 1) by omega]
theorem numbered_len (q : Nat) (l : List (List UInt8)) : (numbered q l).length = l.length := by
  induction l generalizing q with
  | nil => rfl
  | cons x r ih => simp [numbered, ih]
theorem numbered_get (q : Nat) (l : List (List UInt8)) (i : Nat) (h : i < l.length) : (numbered q l)[i]? = some (q + i, l[i]) := by
  induction l generalizing q i with
  | nil => simp at h
  | cons x r ih =>
    cases i with
    | zero => rfl
    | succ i =>
      have := ih (q + 1) i (by simpa using h)
      simp only [numbered, List.getElem?_cons_succ, List.getElem_cons_succ]
      rw [this, show q + 1 + i = q + (i + 1) by omega]
def lastQ (p q : Nat) (n : Nat) : Nat := if n = 0 then p else q + n - 1
/-- Frames in their order, and then anything. -/
theorem scan_frames (bs : List (List UInt8)) (t : List UInt8) (hb : ∀ b ∈ bs, b.length ≤ 16777216) : ∀ (p q : Nat), 1 ≤ q → q + bs.length ≤ 4503599627370497 → (p = 0 ∨ q = p + 1) →
    scan p (frames q bs ++ t) = ⟨numbered q bs ++ (scan (lastQ p q bs.length) t).recs, (frames q bs).length + (scan (lastQ p q bs.length) t).size, (scan (lastQ p q bs.length) t).err⟩ := by
  induction bs with
  | nil => intro p q _ _ _; simp [frames, numbered, lastQ]
  | cons b r ih =>
    intro p q hq hq' hp
    rw [List.length_cons] at hq'
    have hy := one_frame q b (frames (q + 1) r ++ t) (hb b (by simp)) hq (by omega)
    have h2 := ih (fun x hx => hb x (by simp [hx])) q (q + 1) (by omega) (by omega) (.inr rfl)
    have hne := frame_ne q b (frames (q + 1) r ++ t)
    have hl : lastQ q (q + 1) r.length = lastQ p q (r.length + 1) := by
      unfold lastQ
      rw [if_neg (show ¬ r.length + 1 = 0 by omega)]
      split <;> omega
    simp only [frames, List.append_assoc, List.length_cons]
    rw [scan_next hne hy (by omega), frame_drop, h2, hl]
    simp only [Sc.more, numbered, List.cons_append, List.length_append, frameL_len, Nat.add_assoc]
/-- Frames cut off anywhere: all that are whole. -/
theorem scan_cut (bs : List (List UInt8)) (b : List UInt8) (p q k : Nat) (hb : ∀ b ∈ bs, b.length ≤ 16777216) (hb1 : b.length ≤ 16777216) (hq : 1 ≤ q) (hq' : q + bs.length ≤ 4503599627370496) (hp : p = 0 ∨ q = p + 1) (hk : k < 20 + b.length) :
    scan p (frames q bs ++ (frameL (q + bs.length) b).take k) = ⟨numbered q bs, (frames q bs).length, if k = 0 then 0 else 91⟩ := by
  rw [scan_frames bs _ hb p q hq (by omega) hp]
  by_cases h0 : k = 0
  · subst h0
    rw [List.take_zero, scan_nil]; simp
  · have hne : (frameL (q + bs.length) b).take k ≠ [] := by
      intro e
      have := congrArg List.length e
      rw [List.length_take, frameL_len] at this
      simp at this; omega
    rw [scan_torn hne (one_cut _ b hb1 (by omega) hq' k hk), if_neg h0]; simp
end Wl
end Go.Proofs.YtkbdokakoapooaaGreatDoor
namespace Go.Proofs.YtkbdokakoapooaaGreatDoor
set_option linter.unusedVariables false
open Go
namespace Mf
abbrev Bs := List UInt8
def digB (c : UInt8) : Bool := 48 ≤ c && c ≤ 57
theorem index_cons (b : UInt8) (l sub : Bs) : Lib.index (b :: l) sub = if sub.isPrefixOf (b :: l) then 0 else if Lib.index l sub == -1 then -1 else Lib.index l sub + 1 := by rw [Lib.index]
theorem ofNat8 (n : Nat) (h : n < 256) : (UInt8.ofNat n).toNat = n := by rw [UInt8.toNat_ofNat']; omega
/-! ### where a text begins within another one -/
theorem index_past (c : UInt8) (sub : Bs) : ∀ (x t : Bs), c ∉ x → Lib.index (x ++ t) (c :: sub) = if Lib.index t (c :: sub) = -1 then -1 else Lib.index t (c :: sub) + x.length
  | [], t, _ => by simp
  | b :: x, t, h => by
    have hb : c ≠ b := fun e => h (by simp [e])
    have hx : c ∉ x := fun e => h (by simp [e])
    have ih := index_past c sub x t hx
    have hge := Lib.index_ge t (c :: sub)
    rw [List.cons_append, index_cons]
    have hp : (c :: sub).isPrefixOf (b :: (x ++ t)) = false := by simp [List.isPrefixOf, hb]
    rw [hp, ih]
    by_cases h1 : Lib.index t (c :: sub) = -1
    · rw [if_pos h1, if_pos h1]; simp
    · rw [if_neg h1, if_neg h1]
      have h2 : ((Lib.index t (c :: sub) + (x.length : Int)) == -1) = false := by rw [beq_eq_false_iff_ne]; omega
      rw [h2]
      simp only [List.length_cons, Bool.false_eq_true, if_false]
      omega
theorem index_here (sub t : Bs) : Lib.index (sub ++ t) sub = 0 := by
  cases h : sub ++ t with
  | nil =>
    have : sub = [] := (List.append_eq_nil_iff.1 h).1
    subst this
    rfl
  | cons b l =>
    rw [index_cons]
    have : sub.isPrefixOf (b :: l) = true := by rw [← h, List.isPrefixOf_iff_prefix]; exact List.prefix_append _ _
    rw [this]; rfl
theorem index_at (c : UInt8) (x t : Bs) (h : c ∉ x) : Lib.index (x ++ c :: t) [c] = (x.length : Int) := by
  have h0 := index_here [c] t
  rw [show [c] ++ t = c :: t from rfl] at h0
  rw [index_past c [] x _ h, h0]; simp
theorem cut_at (c : UInt8) (x t : Bs) (h : c ∉ x) : Lib.cut (x ++ c :: t) [c] = (x, t, true) := by
  have hi := index_at c x t h
  unfold Lib.cut
  rw [hi, if_pos (by omega)]
  simp only [Int.toNat_natCast, List.take_left, Prod.mk.injEq, and_true, true_and]
  rw [show x ++ c :: t = (x ++ [c]) ++ t by simp, show x.length + [c].length = (x ++ [c]).length by simp]
  exact List.drop_left
theorem index_none (c : UInt8) (x : Bs) (h : c ∉ x) : Lib.index x [c] = -1 := by
  have := index_past c [] x [] h
  rw [List.append_nil] at this
  rw [this]
  have h0 : Lib.index [] [c] = -1 := by unfold Lib.index; simp
  rw [h0, if_pos rfl]
theorem cut_none (c : UInt8) (x : Bs) (h : c ∉ x) : Lib.cut x [c] = (x, [], false) := by
  unfold Lib.cut
  rw [index_none c x h, if_neg (by omega)]
/-! ### lines cut off one by one -/
def joinL (L : List Bs) : Bs := L.flatMap (· ++ [10])
theorem joinL_cons (x : Bs) (L : List Bs) : joinL (x :: L) = x ++ 10 :: joinL L := by simp [joinL]
theorem splitK_hit (c : UInt8) (x t : Bs) (k : Nat) (h : c ∉ x) : Lib.splitK [c] 0 (k + 1) (x ++ c :: t) = x :: Lib.splitK [c] 0 k t := by
  have hi := index_at c x t h
  rw [Lib.splitK]
  have hne : (Lib.index (x ++ c :: t) [c] == -1) = false := by rw [hi, beq_eq_false_iff_ne]; omega
  rw [hne]
  simp only [Bool.false_eq_true, if_false, hi, Int.toNat_natCast, Nat.add_zero, List.take_left]
  rw [show x ++ c :: t = (x ++ [c]) ++ t by simp, show x.length + [c].length = (x ++ [c]).length by simp, List.drop_left]
theorem splitK_lines : ∀ (L : List Bs) (t : Bs) (k : Nat), (∀ x ∈ L, (10 : UInt8) ∉ x) → Lib.splitK [10] 0 (L.length + k) (joinL L ++ t) = L ++ Lib.splitK [10] 0 k t
  | [], t, k, _ => by simp [joinL]
  | x :: L, t, k, h => by
    rw [joinL_cons, List.append_assoc, List.cons_append, show (x :: L).length + k = (L.length + k) + 1 by simp; omega, splitK_hit 10 x _ _ (h x (by simp)), splitK_lines L t k (fun y hy => h y (by simp [hy]))]
    rfl
/-! ### numbers in digits -/
theorem digB_iff (b : UInt8) : digB b = true ↔ 48 ≤ b.toNat ∧ b.toNat ≤ 57 := by
  simp [digB, UInt8.le_iff_toNat_le]
theorem dec_all (u : Nat) : (Lib.decDigits u).all digB = true ∧ Lib.decDigits u ≠ [] := by
  induction u using Nat.strongRecOn with
  | _ u ih =>
    rw [Lib.decDigits]
    split
    · rename_i h
      refine ⟨?_, by simp⟩
      have e : (UInt8.ofNat (48 + u)).toNat = 48 + u := ofNat8 _ (by omega)
      simp [digB, UInt8.le_iff_toNat_le]
      omega
    · rename_i h
      refine ⟨?_, by simp⟩
      have e : (UInt8.ofNat (48 + u % 10)).toNat = 48 + u % 10 := ofNat8 _ (by omega)
      rw [List.all_append, (ih (u / 10) (by omega)).1]
      simp [digB, UInt8.le_iff_toNat_le]
      omega
theorem dec_head (u : Nat) (h : 1 ≤ u) : (Lib.decDigits u).head? ≠ some 48 := by
  induction u using Nat.strongRecOn with
  | _ u ih =>
    rw [Lib.decDigits]
    split
    · rename_i h1
      intro e
      have e2 : UInt8.ofNat (48 + u) = 48 := by simpa using e
      have := congrArg UInt8.toNat e2
      rw [ofNat8 _ (by omega)] at this
      have h48 : (48 : UInt8).toNat = 48 := rfl
      omega
    · rename_i h1
      have := ih (u / 10) (by omega) (by omega)
      cases hd : Lib.decDigits (u / 10) with
      | nil => exact absurd hd (dec_all _).2
      | cons a l => rw [hd] at this; simpa using this
theorem dec_one (u : Nat) (h : u < 10) : (Lib.decDigits u).length = 1 := by rw [Lib.decDigits, dif_pos h]; rfl
theorem dec_len : ∀ (k u : Nat), u < 10 ^ (k + 1) → (Lib.decDigits u).length ≤ k + 1
  | 0, u, h => by rw [dec_one u (by omega)]; omega
  | k + 1, u, h => by
    rw [Lib.decDigits]
    split
    · simp
    · have := dec_len k (u / 10) (by rw [Nat.pow_succ] at h; omega)
      simp; omega
theorem parse_push (b : UInt8) (hb : 48 ≤ b.toNat ∧ b.toNat ≤ 57) : ∀ (l : Bs) (acc v : Nat), Lib.parseUint10 acc l = .ok v → v * 10 + (b.toNat - 48) < 18446744073709551616 → v < 1844674407370955162 → Lib.parseUint10 acc (l ++ [b]) = .ok (v * 10 + (b.toNat - 48))
  | [], acc, v, h, h1, h2 => by
    simp only [Lib.parseUint10] at h
    injection h with h
    subst h
    simp only [List.nil_append, Lib.parseUint10]
    rw [if_pos hb, if_neg (by omega), if_neg (by omega)]
  | c :: l, acc, v, h, h1, h2 => by
    simp only [List.cons_append, Lib.parseUint10] at h ⊢
    split at h
    · rename_i h3
      rw [if_pos h3]
      split at h
      · cases h
      · rename_i h4
        rw [if_neg h4]
        split at h
        · cases h
        · rename_i h5
          rw [if_neg h5]
          exact parse_push b hb l _ v h h1 h2
    · cases h
theorem parse_dec (u : Nat) (hu : u < 1000000000000000000) : Lib.parseUint10 0 (Lib.decDigits u) = .ok u := by
  induction u using Nat.strongRecOn with
  | _ u ih =>
    rw [Lib.decDigits]
    split
    · rename_i h
      have e : (UInt8.ofNat (48 + u)).toNat = 48 + u := ofNat8 _ (by omega)
      have := parse_push (UInt8.ofNat (48 + u)) (by omega) [] 0 0 rfl (by omega) (by omega)
      rw [e] at this
      simpa using this
    · rename_i h
      have e : (UInt8.ofNat (48 + u % 10)).toNat = 48 + u % 10 := ofNat8 _ (by omega)
      have := parse_push (UInt8.ofNat (48 + u % 10)) (by omega) _ 0 _ (ih (u / 10) (by omega) (by omega)) (by omega) (by omega)
      rw [e] at this
      rw [this]
      congr 1
      omega
theorem atoi_dec (u : Nat) (hu : u < 1000000000000000000) : Lib.atoiAll (Lib.decDigits u) = .ok u := by
  have hp := parse_dec u hu
  obtain ⟨ha, hn⟩ := dec_all u
  cases hd : Lib.decDigits u with
  | nil => exact absurd hd hn
  | cons c r =>
    rw [hd] at hp ha
    have hc := (digB_iff c).1 (by simp at ha; exact ha.1)
    unfold Lib.atoiAll
    simp only [show ¬ (c.toNat = 43 ∨ c.toNat = 45) by omega, if_false, Lib.parseMag, List.cons_ne_nil, hp]
    rw [if_neg (by omega), if_neg (by omega), if_neg (by omega)]
theorem itoa_nat (n : Nat) : Lib.itoa (n : Int) = Lib.decDigits n := by unfold Lib.itoa; rw [if_neg (by omega)]; simp
theorem itoa_pos (n : Int) (h : 0 ≤ n) : Lib.itoa n = Lib.decDigits n.toNat := by
  unfold Lib.itoa; rw [if_neg (by omega)]
/-- The number that digits tell. -/
def valD (l : Bs) : Nat := l.foldl (fun a c => a * 10 + (c.toNat - 48)) 0
theorem valD_push (l : Bs) (c : UInt8) : valD (l ++ [c]) = valD l * 10 + (c.toNat - 48) := by simp [valD]
theorem valD_dec (n : Nat) : valD (Lib.decDigits n) = n := by
  induction n using Nat.strongRecOn with
  | _ u ih =>
    rw [Lib.decDigits]
    split
    · rename_i h
      have e : (UInt8.ofNat (48 + u)).toNat = 48 + u := ofNat8 _ (by omega)
      show 0 * 10 + ((UInt8.ofNat (48 + u)).toNat - 48) = u
      omega
    · rename_i h
      have e : (UInt8.ofNat (48 + u % 10)).toNat = 48 + u % 10 := ofNat8 _ (by omega)
      rw [valD_push, ih (u / 10) (by omega), e]
      omega
theorem dig_back (c : UInt8) (h : digB c = true) : UInt8.ofNat (48 + (c.toNat - 48)) = c := by
  have h1 := (digB_iff c).1 h
  apply UInt8.toNat_inj.1
  rw [ofNat8 _ (by omega)]
  omega
theorem dec_val (k : Nat) : ∀ (l : Bs), l.length = k + 1 → l.all digB = true → (k = 0 ∨ l.head? ≠ some 48) → Lib.decDigits (valD l) = l ∧ (l.head? ≠ some 48 → 1 ≤ valD l) := by
  induction k with
  | zero =>
    intro l hl ha _
    match l, hl with
    | [c], _ =>
      have hc : digB c = true := by simpa using ha
      have h1 := (digB_iff c).1 hc
      have hv : valD [c] = c.toNat - 48 := by show 0 * 10 + (c.toNat - 48) = _; omega
      rw [hv]
      refine ⟨?_, fun h => ?_⟩
      · rw [Lib.decDigits, dif_pos (by omega), dig_back c hc]
      · have : c ≠ 48 := fun e => h (by simp [e])
        have : c.toNat ≠ 48 := fun e => this (UInt8.toNat_inj.1 e)
        omega
  | succ k ih =>
    intro l hl ha hh
    obtain ⟨r, c, rfl⟩ : ∃ r c, l = r ++ [c] := by
      rcases List.eq_nil_or_concat l with h | ⟨r, c, h⟩
      · rw [h] at hl; cases hl
      · exact ⟨r, c, by rw [h]; simp⟩
    have hrl : r.length = k + 1 := by simp at hl; omega
    rw [List.all_append, Bool.and_eq_true] at ha
    have hc : digB c = true := by simpa using ha.2
    have hhd : r.head? ≠ some 48 := by
      rcases hh with h | h
      · omega
      · cases r with
        | nil => cases hrl
        | cons a r => simpa using h
    obtain ⟨i1, i2⟩ := ih r hrl ha.1 (.inr hhd)
    have i3 := i2 hhd
    have h1 := (digB_iff c).1 hc
    rw [valD_push]
    refine ⟨?_, fun _ => by omega⟩
    rw [Lib.decDigits, dif_neg (by omega), show (valD r * 10 + (c.toNat - 48)) / 10 = valD r by omega, show (valD r * 10 + (c.toNat - 48)) % 10 = c.toNat - 48 by omega, i1, dig_back c hc]
/-- What the document takes for a number's digits. -/
def numR (s : Bs) : Int := if s = [] ∨ 16 < s.length ∨ (1 < s.length ∧ s.head? = some 48) ∨ s.all digB = false ∨ 4503599627370496 < valD s then -1 else (valD s : Int)
theorem numR_dec (n : Nat) (h : n ≤ 4503599627370496) : numR (Lib.decDigits n) = n := by
  obtain ⟨ha, hn⟩ := dec_all n
  have hl := dec_len 15 n (by omega)
  unfold numR
  rw [valD_dec, if_neg]
  rintro (h1 | h1 | ⟨h1, h2⟩ | h1 | h1)
  · exact hn h1
  · omega
  · rcases Nat.lt_or_ge n 1 with c | c
    · have : n = 0 := by omega
      subst this
      rw [dec_one 0 (by omega)] at h1
      omega
    · exact dec_head n c h2
  · rw [ha] at h1; cases h1
  · omega
theorem numR_of {s : Bs} (h : 0 ≤ numR s) : s = Lib.decDigits (numR s).toNat ∧ numR s ≤ 4503599627370496 := by
  unfold numR at h ⊢
  split at h
  · omega
  · rename_i hc
    rw [if_neg hc]
    simp only [not_or] at hc
    obtain ⟨h1, h2, h3, h4, h5⟩ := hc
    refine ⟨?_, by omega⟩
    rw [Int.toNat_natCast]
    cases hs : s with
    | nil => exact absurd hs h1
    | cons a r =>
      rw [hs] at h3 h4
      have ha : (a :: r).all digB = true := by cases hh : (a :: r).all digB <;> simp_all
      refine ((dec_val r.length (a :: r) (by simp) ha ?_).1).symm
      rcases Nat.lt_or_ge 0 r.length with c | c
      · refine .inr fun e => h3 ⟨by simp; omega, e⟩
      · exact .inl (by omega)
/-- What the program's number answers. -/
def numS (s : Bs) : Int := match Lib.atoiAll s with | .ok v => v | .range => Lib.atoiSat s | _ => 0
theorem numS_dec (n : Nat) (h : n < 1000000000000000000) : numS (Lib.decDigits n) = n := by unfold numS; rw [atoi_dec n h]
theorem no_dig {c : UInt8} {l : Bs} (h : l.all digB = true) (hc : digB c = false) : c ∉ l := fun hm => by
  have := List.all_eq_true.1 h c hm
  rw [hc] at this; cases this
end Mf
end Go.Proofs.YtkbdokakoapooaaGreatDoor
namespace Go.Proofs.YtkbdokakoapooaaGreatDoor
set_option linter.unusedVariables false
open Go
namespace Mf
abbrev bl (s : ByteArray) : Bs := s.data.toList
structure Mn where
  segs : List ByteArray
  log : ByteArray
  next : Int
  seq : Int
def Mn.zero : Mn := ⟨[], ⟨#[]⟩, 0, 0⟩
/-- A file's name, below a number. -/
def isNm (next : Int) : Bs → Bool
  | [] => false
  | c :: d => (c == 115 || c == 108) && (decide (1 ≤ numR d) && decide (numR d < next))
/-- The program's test. -/
def isNmP (next : Int) : Bs → Bool
  | [] => false
  | c :: d => (c == 115 || c == 108) && (decide (1 ≤ numS d) && (decide (numS d < next) && (Lib.itoa (numS d) == d)))
theorem nm_prog (next : Int) (h : next ≤ 4503599627370496) (s : Bs) : isNmP next s = isNm next s := by
  cases s with
  | nil => rfl
  | cons c d =>
    unfold isNmP isNm
    show (_ && _) = (_ && _)
    generalize (c == 115 || c == 108) = g
    refine congrArg (g && ·) ?_
    rw [Bool.eq_iff_iff]
    simp only [Bool.and_eq_true, decide_eq_true_eq, beq_iff_eq]
    constructor
    · rintro ⟨h1, h2, h3⟩
      rw [itoa_pos _ (by omega)] at h3
      have := numR_dec (numS d).toNat (by omega)
      rw [h3] at this
      omega
    · rintro ⟨h1, h2⟩
      obtain ⟨h3, h4⟩ := numR_of (s := d) (by omega)
      obtain ⟨n, hn⟩ := Int.eq_ofNat_of_zero_le (show 0 ≤ numR d by omega)
      rw [hn] at h1 h2 h3 h4
      rw [Int.toNat_natCast] at h3
      have h5 := numS_dec n (by omega)
      rw [h3, h5]
      exact ⟨h1, h2, itoa_nat n⟩
def may (m : Mn) : Bool :=
  decide (1 ≤ m.next) && (decide (m.next ≤ 4503599627370496) && (decide (0 ≤ m.seq) && (decide (m.seq ≤ 4503599627370496) && (decide (m.segs.length ≤ 1024) && (isNm m.next (bl m.log) && (m.segs.all (fun s => isNm m.next (bl s)) && decide (bl m.log ∉ m.segs.map bl ∧ (m.segs.map bl).Nodup)))))))
theorem may_iff (m : Mn) : may m = true ↔ 1 ≤ m.next ∧ m.next ≤ 4503599627370496 ∧ 0 ≤ m.seq ∧ m.seq ≤ 4503599627370496 ∧ m.segs.length ≤ 1024 ∧ isNm m.next (bl m.log) = true ∧ (∀ s ∈ m.segs, isNm m.next (bl s) = true) ∧ bl m.log ∉ m.segs.map bl ∧ (m.segs.map bl).Nodup := by
  unfold may
  simp only [Bool.and_eq_true, decide_eq_true_eq, List.all_eq_true]
/-! ### the lines -/
def wLode : Bs := [108, 111, 100, 101, 115, 116, 97, 114]
def wNext : Bs := [110, 101, 120, 116]
def wSeq : Bs := [115, 101, 113]
def wLog : Bs := [108, 111, 103]
def wSeg : Bs := [115, 101, 103, 109, 101, 110, 116]
def wSum : Bs := [115, 117, 109]
/-- A line without its end. -/
def ln0 (w t : Bs) : Bs := w ++ 32 :: t
def lineB (w t : Bs) : Bs := w ++ 32 :: (t ++ [10])
theorem lineB_eq (w t : Bs) : lineB w t = ln0 w t ++ [10] := by simp [lineB, ln0]
def heads (m : Mn) : List Bs := [ln0 wLode [49], ln0 wNext (Lib.itoa m.next), ln0 wSeq (Lib.itoa m.seq), ln0 wLog (bl m.log)]
def linesOf (m : Mn) : List Bs := heads m ++ m.segs.map fun s => ln0 wSeg (bl s)
def bodyB (m : Mn) : Bs := joinL (linesOf m)
def tailB (b : Bs) : Bs := lineB wSum (Lib.decDigits (Wl.crcL b))
def encB (m : Mn) : Bs := bodyB m ++ tailB (bodyB m)
theorem joinL_app (A B : List Bs) : joinL (A ++ B) = joinL A ++ joinL B := by simp [joinL]
theorem body_eq (m : Mn) : bodyB m = lineB wLode [49] ++ (lineB wNext (Lib.itoa m.next) ++ (lineB wSeq (Lib.itoa m.seq) ++ (lineB wLog (bl m.log) ++ m.segs.flatMap fun s => lineB wSeg (bl s)))) := by
  unfold bodyB linesOf heads
  rw [joinL_app]
  simp [joinL, lineB_eq, List.flatMap_map]
theorem nm_parts {next : Int} {s : Bs} (h : isNm next s = true) : ∃ c n, s = c :: Lib.decDigits n ∧ (c = 115 ∨ c = 108) ∧ 1 ≤ n ∧ (n : Int) < next ∧ n ≤ 4503599627370496 := by
  cases s with
  | nil => cases h
  | cons c d =>
    unfold isNm at h
    simp only [Bool.and_eq_true, decide_eq_true_eq, Bool.or_eq_true, beq_iff_eq] at h
    obtain ⟨h1, h2, h3⟩ := h
    obtain ⟨h4, h5⟩ := numR_of (s := d) (by omega)
    exact ⟨c, (numR d).toNat, by rw [← h4], h1, by omega, by omega, by omega⟩
theorem nm_no {next : Int} {s : Bs} (h : isNm next s = true) {c : UInt8} (h1 : c ≠ 115) (h2 : c ≠ 108) (h3 : digB c = false) : c ∉ s := by
  obtain ⟨a, n, rfl, ha, _⟩ := nm_parts h
  rw [List.mem_cons, not_or]
  refine ⟨fun e => ?_, no_dig (dec_all n).1 h3⟩
  rcases ha with rfl | rfl
  · exact h1 e
  · exact h2 e
theorem ln0_no {w t : Bs} (hw : (10 : UInt8) ∉ w) (ht : (10 : UInt8) ∉ t) : (10 : UInt8) ∉ ln0 w t := by
  unfold ln0
  rw [List.mem_append, List.mem_cons]
  rintro (h | h | h)
  · exact hw h
  · revert h; decide
  · exact ht h
theorem itoa_no {n : Int} (h : 0 ≤ n) {c : UInt8} (hc : digB c = false) : c ∉ Lib.itoa n := by rw [itoa_pos n h]; exact no_dig (dec_all _).1 hc
theorem lines_no {m : Mn} (h : may m = true) : ∀ x ∈ linesOf m, (10 : UInt8) ∉ x := by
  obtain ⟨h1, h2, h3, h4, h5, h6, h7, _⟩ := (may_iff m).1 h
  intro x hx
  unfold linesOf heads at hx
  simp only [List.mem_append, List.mem_cons, List.not_mem_nil, or_false, List.mem_map] at hx
  rcases hx with (rfl | rfl | rfl | rfl) | ⟨s, hs, rfl⟩
  · exact ln0_no (by decide) (by decide)
  · exact ln0_no (by decide) (itoa_no (by omega) (by decide))
  · exact ln0_no (by decide) (itoa_no h3 (by decide))
  · exact ln0_no (by decide) (nm_no h6 (by decide) (by decide) (by decide))
  · exact ln0_no (by decide) (nm_no (h7 s hs) (by decide) (by decide) (by decide))
/-! ### what the program reads -/
def stepR (m : Mn) (p : Bs) : Mn :=
  if (Lib.cut p [32]).1 = wNext then { m with next := numS (Lib.cut p [32]).2.1 }
  else if (Lib.cut p [32]).1 = wSeq then { m with seq := numS (Lib.cut p [32]).2.1 }
  else if (Lib.cut p [32]).1 = wLog then { m with log := ⟨(Lib.cut p [32]).2.1.toArray⟩ }
  else if (Lib.cut p [32]).1 = wSeg then { m with segs := m.segs ++ [⟨(Lib.cut p [32]).2.1.toArray⟩] }
  else m
def piecesB (s : ByteArray) : List ByteArray := Lib.splitB ⟨#[10]⟩ 0 (min 1029 (s.size + 1) - 1) s
def rd (s : ByteArray) : Mn := (piecesB s).foldl (fun m p => stepR m (bl p)) Mn.zero
theorem rd_list (s : ByteArray) : rd s = (Lib.splitK [10] 0 (min 1029 (s.size + 1) - 1) (bl s)).foldl stepR Mn.zero := by
  have h := Lib.splitB_data ⟨#[10]⟩ 0 (min 1029 (s.size + 1) - 1) s
  have e : (⟨#[10]⟩ : ByteArray).data.toList = [10] := rfl
  rw [e] at h
  rw [show bl s = s.data.toList from rfl, ← h, List.foldl_map]
  rfl
theorem cut_ln0 {w : Bs} (t : Bs) (h : (32 : UInt8) ∉ w) : Lib.cut (ln0 w t) [32] = (w, t, true) := cut_at 32 w t h
theorem mk_bl (s : ByteArray) : (⟨(bl s).toArray⟩ : ByteArray) = s := by cases s; simp [bl]
theorem step_none {p : Bs} (h1 : (Lib.cut p [32]).1 ≠ wNext) (h2 : (Lib.cut p [32]).1 ≠ wSeq) (h3 : (Lib.cut p [32]).1 ≠ wLog) (h4 : (Lib.cut p [32]).1 ≠ wSeg) (m : Mn) : stepR m p = m := by
  unfold stepR; rw [if_neg h1, if_neg h2, if_neg h3, if_neg h4]
theorem step_lode (m : Mn) (t : Bs) : stepR m (ln0 wLode t) = m := by
  refine step_none ?_ ?_ ?_ ?_ m <;> (rw [cut_ln0 t (by decide)]; dsimp only; decide)
theorem step_sum (m : Mn) (t : Bs) : stepR m (ln0 wSum t) = m := by
  refine step_none ?_ ?_ ?_ ?_ m <;> (rw [cut_ln0 t (by decide)]; dsimp only; decide)
theorem step_nil (m : Mn) : stepR m [] = m := by
  have : Lib.cut ([] : Bs) [32] = ([], [], false) := cut_none 32 [] (by simp)
  refine step_none ?_ ?_ ?_ ?_ m <;> (rw [this]; dsimp only; decide)
theorem step_next (m : Mn) (t : Bs) : stepR m (ln0 wNext t) = { m with next := numS t } := by
  unfold stepR; rw [cut_ln0 t (by decide)]; dsimp only; rw [if_pos rfl]
theorem step_seq (m : Mn) (t : Bs) : stepR m (ln0 wSeq t) = { m with seq := numS t } := by
  unfold stepR; rw [cut_ln0 t (by decide)]; dsimp only; rw [if_neg (by decide), if_pos rfl]
theorem step_log (m : Mn) (t : Bs) : stepR m (ln0 wLog t) = { m with log := ⟨t.toArray⟩ } := by
  unfold stepR; rw [cut_ln0 t (by decide)]; dsimp only; rw [if_neg (by decide), if_neg (by decide), if_pos rfl]
theorem step_seg (m : Mn) (t : Bs) : stepR m (ln0 wSeg t) = { m with segs := m.segs ++ [⟨t.toArray⟩] } := by
  unfold stepR; rw [cut_ln0 t (by decide)]; dsimp only; rw [if_neg (by decide), if_neg (by decide), if_neg (by decide), if_pos rfl]
theorem fold_segs : ∀ (L : List ByteArray) (m : Mn), (L.map fun s => ln0 wSeg (bl s)).foldl stepR m = { m with segs := m.segs ++ L }
  | [], m => by simp
  | s :: L, m => by
    rw [List.map_cons, List.foldl_cons, step_seg, fold_segs L]
    simp
theorem fold_heads (m : Mn) (h1 : 0 ≤ m.next) (h2 : m.next ≤ 4503599627370496) (h3 : 0 ≤ m.seq) (h4 : m.seq ≤ 4503599627370496) : (heads m).foldl stepR Mn.zero = ⟨[], m.log, m.next, m.seq⟩ := by
  unfold heads
  simp only [List.foldl_cons, List.foldl_nil]
  rw [step_lode, step_next, step_seq, step_log, mk_bl]
  obtain ⟨a, ha⟩ := Int.eq_ofNat_of_zero_le h1
  obtain ⟨b, hb⟩ := Int.eq_ofNat_of_zero_le h3
  rw [ha, hb, itoa_nat, itoa_nat, numS_dec a (by omega), numS_dec b (by omega)]
  rfl
/-- The tail of any lines, cut on: nothing more is read of it. -/
theorem fold_tail (k : Nat) (b : Bs) (m : Mn) : (Lib.splitK [10] 0 k (tailB b)).foldl stepR m = m := by
  have hno : (10 : UInt8) ∉ ln0 wSum (Lib.decDigits (Wl.crcL b)) := ln0_no (by decide) (no_dig (dec_all _).1 (by decide))
  have he : tailB b = ln0 wSum (Lib.decDigits (Wl.crcL b)) ++ 10 :: [] := by unfold tailB; rw [lineB_eq]
  cases k with
  | zero =>
    show [tailB b].foldl stepR m = m
    have : tailB b = ln0 wSum (Lib.decDigits (Wl.crcL b) ++ [10]) := rfl
    rw [this, List.foldl_cons, step_sum]; rfl
  | succ k =>
    rw [he, splitK_hit 10 _ _ _ hno, List.foldl_cons, step_sum]
    cases k with
    | zero =>
      show [([] : Bs)].foldl stepR m = m
      rw [List.foldl_cons, step_nil]; rfl
    | succ k =>
      have h0 : Lib.index ([] : Bs) [10] = -1 := index_none 10 [] (by simp)
      rw [Lib.splitK, h0]
      show [([] : Bs)].foldl stepR m = m
      rw [List.foldl_cons, step_nil]; rfl
theorem joinL_len (L : List Bs) : L.length ≤ (joinL L).length := by
  induction L with
  | nil => simp
  | cons x L ih => rw [joinL_cons]; simp; omega
theorem enc_len (m : Mn) : (linesOf m).length ≤ (encB m).length := by
  have := joinL_len (linesOf m)
  unfold encB bodyB
  simp; omega
/-- What a manifest that may be is written as is read as it was. -/
theorem rd_enc {m : Mn} (h : may m = true) (s : ByteArray) (hs : bl s = encB m) : rd s = m := by
  obtain ⟨h1, h2, h3, h4, h5, h6, h7, _⟩ := (may_iff m).1 h
  have hz : s.size = (encB m).length := by rw [← hs]; exact (Array.length_toList).symm
  have hl := enc_len m
  have hn : (linesOf m).length = 4 + m.segs.length := by simp [linesOf, heads]; omega
  rw [rd_list, hs]
  obtain ⟨k, hk⟩ : ∃ k, min 1029 (s.size + 1) - 1 = (linesOf m).length + k := ⟨min 1029 (s.size + 1) - 1 - (linesOf m).length, by omega⟩
  rw [hk]
  unfold encB bodyB
  rw [splitK_lines (linesOf m) _ k (lines_no h), List.foldl_append, fold_tail]
  unfold linesOf
  rw [List.foldl_append, fold_heads m (by omega) h2 h3 h4, fold_segs]
  simp
/-- The manifest whose bytes a text is. -/
def dec (s : ByteArray) : Option Mn := if may (rd s) = true ∧ encB (rd s) = bl s then some (rd s) else none
theorem dec_some {s : ByteArray} {m : Mn} : dec s = some m ↔ may m = true ∧ encB m = bl s := by
  unfold dec
  constructor
  · intro h
    split at h
    · rename_i hc
      injection h with h
      subst h
      exact hc
    · cases h
  · rintro ⟨h1, h2⟩
    have := rd_enc h1 s h2.symm
    rw [this, if_pos ⟨h1, h2⟩]
theorem dec_of (s : ByteArray) (y : Mn) (b : Bool) (hb : ∀ m, may m = true → encB m = bl s → y = m ∧ b = true) : (if b = true ∧ may y = true ∧ encB y = bl s then some y else none) = dec s := by
  split
  · rename_i h
    exact (dec_some.2 ⟨h.2.1, h.2.2⟩).symm
  · rename_i h
    cases hd : dec s with
    | none => rfl
    | some m =>
      obtain ⟨h1, h2⟩ := dec_some.1 hd
      obtain ⟨h3, h4⟩ := hb m h1 h2
      rw [h3, h4] at h
      exact absurd ⟨rfl, h1, h2⟩ h
end Mf
end Go.Proofs.YtkbdokakoapooaaGreatDoor
namespace Go.Proofs.YtkbdokakoapooaaGreatDoor
set_option linter.unusedVariables false
open Go
namespace Mf
/-! ### what the document reads -/
/-- The words behind a beginning, up to the line's end, what follows, whether it is one. -/
def wordR (s b : Bs) : Bs × Bs × Bool := if b.isPrefixOf s = true ∧ (10 : UInt8) ∈ s.drop b.length then ((Lib.cut (s.drop b.length) [10]).1, (Lib.cut (s.drop b.length) [10]).2.1, true) else ([], s, false)
theorem wordR_hit (b t r : Bs) (h : (10 : UInt8) ∉ t) : wordR (b ++ (t ++ 10 :: r)) b = (t, r, true) := by
  unfold wordR
  rw [List.drop_left, if_pos ⟨by rw [List.isPrefixOf_iff_prefix]; exact List.prefix_append _ _, by simp⟩, cut_at 10 t r h]
theorem wordR_miss {s b : Bs} (h : b.isPrefixOf s = false) : wordR s b = ([], s, false) := by
  unfold wordR
  rw [if_neg]
  rintro ⟨h1, _⟩
  rw [h] at h1; cases h1
def bLode : Bs := [108, 111, 100, 101, 115, 116, 97, 114, 32, 49]
def bNext : Bs := [110, 101, 120, 116, 32]
def bSeq : Bs := [115, 101, 113, 32]
def bLog : Bs := [108, 111, 103, 32]
def bSeg : Bs := [115, 101, 103, 109, 101, 110, 116, 32]
/-- The segments' names, and whether each line was one; at most n of them. -/
def segsR : Nat → Bs → List ByteArray
  | 0, _ => []
  | n + 1, t => if (wordR t bSeg).2.2 = true then ⟨(wordR t bSeg).1.toArray⟩ :: segsR n (wordR t bSeg).2.1 else []
def t1 (s : Bs) : Bs := (wordR s bLode).2.1
def t2 (s : Bs) : Bs := (wordR (t1 s) bNext).2.1
def t3 (s : Bs) : Bs := (wordR (t2 s) bSeq).2.1
def t4 (s : Bs) : Bs := (wordR (t3 s) bLog).2.1
def rdR (n : Nat) (s : Bs) : Mn := ⟨segsR n (t4 s), ⟨(wordR (t3 s) bLog).1.toArray⟩, numR (wordR (t1 s) bNext).1, numR (wordR (t2 s) bSeq).1⟩
def flR (s : Bs) : Bool := (wordR s bLode).2.2 && ((wordR (t1 s) bNext).2.2 && ((wordR (t2 s) bSeq).2.2 && (wordR (t3 s) bLog).2.2))
theorem wordR_len (s b : Bs) (h : (wordR s b).2.2 = true) : (wordR s b).2.1.length < s.length := by
  unfold wordR at h ⊢
  split
  · rename_i hc
    obtain ⟨x, t, hx, hn⟩ : ∃ x t, s.drop b.length = x ++ 10 :: t ∧ (10 : UInt8) ∉ x := by
      have : ∀ (l : Bs), (10 : UInt8) ∈ l → ∃ x t, l = x ++ 10 :: t ∧ (10 : UInt8) ∉ x := by
        intro l
        induction l with
        | nil => intro h; cases h
        | cons a l ih =>
          intro hm
          by_cases ha : a = 10
          · exact ⟨[], l, by rw [ha]; rfl, by simp⟩
          · rcases List.mem_cons.1 hm with e | e
            · exact absurd e.symm ha
            · obtain ⟨x, t, h1, h2⟩ := ih e
              refine ⟨a :: x, t, by rw [h1]; rfl, ?_⟩
              rw [List.mem_cons, not_or]
              exact ⟨fun e => ha e.symm, h2⟩
      exact this _ hc.2
    rw [hx, cut_at 10 x t hn]
    have h1 := congrArg List.length hx
    simp at h1
    show t.length < s.length
    omega
  · rename_i hc
    rw [if_neg hc] at h
    cases h
theorem segs_tail (n : Nat) (b : Bs) : segsR n (tailB b) = [] := by
  cases n with
  | zero => rfl
  | succ n =>
    have hp : bSeg.isPrefixOf (tailB b) = false := by
      unfold tailB lineB wSum bSeg
      rfl
    rw [segsR, wordR_miss hp]
    rfl
theorem segs_read : ∀ (L : List ByteArray) (n : Nat) (b : Bs), L.length ≤ n → (∀ s ∈ L, (10 : UInt8) ∉ bl s) → segsR n ((L.flatMap fun s => lineB wSeg (bl s)) ++ tailB b) = L
  | [], n, b, _, _ => segs_tail n b
  | s :: L, 0, b, h, _ => by cases h
  | s :: L, n + 1, b, h, hn => by
    have e : ((s :: L).flatMap fun s => lineB wSeg (bl s)) ++ tailB b = bSeg ++ (bl s ++ 10 :: ((L.flatMap fun s => lineB wSeg (bl s)) ++ tailB b)) := by
      rw [List.flatMap_cons]
      unfold lineB wSeg bSeg
      simp
    rw [e, segsR, wordR_hit bSeg (bl s) _ (hn s (by simp))]
    simp only [if_true]
    rw [segs_read L n b (by simp at h; exact h) (fun y hy => hn y (by simp [hy])), mk_bl]
theorem rdR_enc {m : Mn} (h : may m = true) (n : Nat) (hn : m.segs.length ≤ n) : rdR n (encB m) = m ∧ flR (encB m) = true := by
  obtain ⟨h1, h2, h3, h4, h5, h6, h7, _⟩ := (may_iff m).1 h
  obtain ⟨a, ha⟩ := Int.eq_ofNat_of_zero_le (show 0 ≤ m.next by omega)
  obtain ⟨b, hb⟩ := Int.eq_ofNat_of_zero_le h3
  obtain ⟨T, hT⟩ : ∃ T, T = (m.segs.flatMap fun s => lineB wSeg (bl s)) ++ tailB (bodyB m) := ⟨_, rfl⟩
  have e : encB m = bLode ++ (([] : Bs) ++ 10 :: (bNext ++ (Lib.itoa m.next ++ 10 :: (bSeq ++ (Lib.itoa m.seq ++ 10 :: (bLog ++ (bl m.log ++ 10 :: T))))))) := by
    unfold encB
    conv => lhs; arg 1; rw [body_eq]
    rw [hT]
    unfold lineB wLode wNext wSeq wLog bLode bNext bSeq bLog
    simp
  have q1 := wordR_hit bLode [] (bNext ++ (Lib.itoa m.next ++ 10 :: (bSeq ++ (Lib.itoa m.seq ++ 10 :: (bLog ++ (bl m.log ++ 10 :: T)))))) (by simp)
  have q2 := wordR_hit bNext (Lib.itoa m.next) (bSeq ++ (Lib.itoa m.seq ++ 10 :: (bLog ++ (bl m.log ++ 10 :: T)))) (itoa_no (by omega) (by decide))
  have q3 := wordR_hit bSeq (Lib.itoa m.seq) (bLog ++ (bl m.log ++ 10 :: T)) (itoa_no h3 (by decide))
  have q4 := wordR_hit bLog (bl m.log) T (nm_no h6 (by decide) (by decide) (by decide))
  rw [← e] at q1
  have hsg := segs_read m.segs n (bodyB m) hn (fun s hs => nm_no (h7 s hs) (by decide) (by decide) (by decide))
  rw [← hT] at hsg
  refine ⟨?_, ?_⟩
  · unfold rdR t4 t3 t2 t1
    rw [q1, q2, q3, q4, hsg, mk_bl, ha, hb, itoa_nat, itoa_nat, numR_dec a (by omega), numR_dec b (by omega), ← ha, ← hb]
  · unfold flR t3 t2 t1
    rw [q1, q2, q3, q4]
    rfl
/-- What the document's Decode answers. -/
def decR (n : Nat) (s : ByteArray) : Option Mn := if flR (bl s) = true ∧ may (rdR n (bl s)) = true ∧ encB (rdR n (bl s)) = bl s then some (rdR n (bl s)) else none
theorem decR_eq (n : Nat) (s : ByteArray) (hn : s.size ≤ n) : decR n s = dec s := by
  unfold decR
  refine dec_of s _ _ fun m h1 h2 => ?_
  have hl := enc_len m
  have h3 : (linesOf m).length = 4 + m.segs.length := by simp [linesOf, heads]; omega
  have hz : s.size = (encB m).length := by rw [h2]; exact (Array.length_toList).symm
  rw [← h2]
  exact ⟨(rdR_enc h1 n (by omega)).1, (rdR_enc h1 n (by omega)).2⟩
/-! ### one byte turned -/
theorem tail_form (b : Bs) : ∃ D : Bs, tailB b = [115, 117, 109, 32] ++ (D ++ [10]) ∧ D.all digB = true ∧ D ≠ [] ∧ D = Lib.decDigits (Wl.crcL b) :=
  ⟨Lib.decDigits (Wl.crcL b), rfl, (dec_all _).1, (dec_all _).2, rfl⟩
theorem body_end (m : Mn) : ∃ p, bodyB m = p ++ [10] := by
  unfold bodyB
  have : linesOf m ≠ [] := by simp [linesOf, heads]
  obtain ⟨r, c, hr⟩ : ∃ r c, linesOf m = r ++ [c] := by
    rcases List.eq_nil_or_concat (linesOf m) with h | ⟨r, c, h⟩
    · exact absurd h this
    · exact ⟨r, c, by rw [h]; simp⟩
  exact ⟨joinL r ++ c, by rw [hr, joinL_app]; simp [joinL]⟩
theorem dig_at {D : Bs} (h : D.all digB = true) {i : Nat} {c : UInt8} (hc : D[i]? = some c) : 48 ≤ c.toNat ∧ c.toNat ≤ 57 := (digB_iff c).1 (List.all_eq_true.1 h c (List.mem_of_getElem? hc))
/-- Two texts of the form, of which the second one's last line begins further ahead, differ at two places. -/
theorem two_apart (p q D E : Bs) (hD : D.all digB = true) (hE : E.all digB = true) (hD0 : D ≠ []) (hE0 : E ≠ []) (hlen : ((p ++ [10]) ++ ([115, 117, 109, 32] ++ (D ++ [10]))).length = ((q ++ [10]) ++ ([115, 117, 109, 32] ++ (E ++ [10]))).length) (hlt : q.length < p.length)
    (i : Nat) (hsame : ∀ j, j ≠ i → ((p ++ [10]) ++ ([115, 117, 109, 32] ++ (D ++ [10])))[j]? = ((q ++ [10]) ++ ([115, 117, 109, 32] ++ (E ++ [10])))[j]?) : False := by
  have hl : p.length + D.length = q.length + E.length := by simp at hlen; omega
  have hDl : 1 ≤ D.length := by cases D with | nil => exact absurd rfl hD0 | cons a l => simp
  have gp : ∀ k, ((p ++ [10]) ++ ([115, 117, 109, 32] ++ (D ++ [10])))[p.length + k]? = ([10, 115, 117, 109, 32] ++ (D ++ [10]))[k]? := fun k => by
    rw [show (p ++ [10]) ++ ([115, 117, 109, 32] ++ (D ++ [10])) = p ++ ([10, 115, 117, 109, 32] ++ (D ++ [10])) by simp, List.getElem?_append_right (by omega), show p.length + k - p.length = k by omega]
  have gq : ∀ k, ((q ++ [10]) ++ ([115, 117, 109, 32] ++ (E ++ [10])))[q.length + k]? = ([10, 115, 117, 109, 32] ++ (E ++ [10]))[k]? := fun k => by
    rw [show (q ++ [10]) ++ ([115, 117, 109, 32] ++ (E ++ [10])) = q ++ ([10, 115, 117, 109, 32] ++ (E ++ [10])) by simp, List.getElem?_append_right (by omega), show q.length + k - q.length = k by omega]
  obtain ⟨d, hd⟩ : ∃ d, p.length = q.length + (d + 1) := ⟨p.length - q.length - 1, by omega⟩
  have hEl : D.length + (d + 1) = E.length := by omega
  have both : ∀ k, q.length + (d + 1) + k ≠ i → ([10, 115, 117, 109, 32] ++ (D ++ [10]))[k]? = ([10, 115, 117, 109, 32] ++ (E ++ [10]))[d + 1 + k]? := fun k hk => by
    have h1 := gp k
    have h2 := gq (d + 1 + k)
    rw [hd] at h1
    rw [show q.length + (d + 1 + k) = q.length + (d + 1) + k by omega] at h2
    rw [← h1, ← h2]
    exact hsame _ hk
  have digE : ∀ k, 5 ≤ d + 1 + k → k ≤ 4 → ∃ c, ([10, 115, 117, 109, 32] ++ (E ++ [10]))[d + 1 + k]? = some c ∧ 48 ≤ c.toNat ∧ c.toNat ≤ 57 := fun k h5 h4 => by
    rw [List.getElem?_append_right (by simp; omega), List.getElem?_append_left (by simp; omega)]
    have hlt : d + 1 + k - [10, 115, 117, 109, 32].length < E.length := by simp; omega
    refine ⟨E[d + 1 + k - [10, 115, 117, 109, 32].length], List.getElem?_eq_getElem hlt, ?_⟩
    exact dig_at hE (List.getElem?_eq_getElem hlt)
  -- at place k of the first one's line end and word, unlike what the second one has there
  have un : ∀ k, k = 0 ∨ k = 1 → ([10, 115, 117, 109, 32] ++ (D ++ [10]))[k]? ≠ ([10, 115, 117, 109, 32] ++ (E ++ [10]))[d + 1 + k]? := by
    intro k hk
    by_cases h5 : 5 ≤ d + 1 + k
    · obtain ⟨c, hc, h1, h2⟩ := digE k h5 (by omega)
      rw [hc]
      intro e
      rcases hk with rfl | rfl
      · have : c = 10 := by simpa using e.symm
        subst this; exact absurd h1 (by decide)
      · have : c = 115 := by simpa using e.symm
        subst this; exact absurd h2 (by decide)
    · have hd4 : d = 0 ∨ d = 1 ∨ d = 2 ∨ d = 3 := by omega
      rcases hk with rfl | rfl <;> rcases hd4 with rfl | rfl | rfl | rfl <;> simp <;> omega
  rcases Nat.lt_or_ge i (q.length + (d + 1) + 1) with hi | hi
  · exact un 1 (.inr rfl) (both 1 (by omega))
  · exact un 0 (.inl rfl) (both 0 (by omega))
theorem one_turned (m n : Mn) (c : Nat) (x : UInt8) (hc : c < (encB m).length) (hx : (encB m)[c]? ≠ some x) : encB n ≠ (encB m).set c x := by
  intro e
  obtain ⟨p, hp⟩ := body_end m
  obtain ⟨q, hq⟩ := body_end n
  obtain ⟨D, tD, aD, nD, eD⟩ := tail_form (bodyB m)
  obtain ⟨E, tE, aE, nE, eE⟩ := tail_form (bodyB n)
  have hm : encB m = (p ++ [10]) ++ ([115, 117, 109, 32] ++ (D ++ [10])) := by unfold encB; rw [tD, hp]
  have hn : encB n = (q ++ [10]) ++ ([115, 117, 109, 32] ++ (E ++ [10])) := by unfold encB; rw [tE, hq]
  have hlen : (encB n).length = (encB m).length := by rw [e]; simp
  have hsame : ∀ j, j ≠ c → (encB m)[j]? = (encB n)[j]? := fun j hj => by rw [e, List.getElem?_set_ne (Ne.symm hj)]
  rcases Nat.lt_trichotomy q.length p.length with h | h | h
  · exact two_apart p q D E aD aE nD nE (by rw [← hm, ← hn, hlen]) h c (fun j hj => by rw [← hm, ← hn]; exact hsame j hj)
  · have hdl : D.length = E.length := by
      rw [hm, hn] at hlen; simp at hlen; omega
    have hbl : (bodyB m).length = (bodyB n).length := by rw [hp, hq]; simp [h]
    have f1 : encB m = bodyB m ++ tailB (bodyB m) := rfl
    have f2 : encB n = bodyB n ++ tailB (bodyB n) := rfl
    by_cases hcb : c < (bodyB m).length
    · rw [f1, List.set_append_left _ _ hcb, f2] at e
      obtain ⟨e1, e2⟩ := List.append_inj e (by simp [hbl])
      have hne : (bodyB m)[c]? ≠ some x := by rw [f1, List.getElem?_append_left hcb] at hx; exact hx
      have := Wl.crcL_set (bodyB m) c x hcb hne
      rw [← e1] at this
      rw [tE, tD] at e2
      have e3 := List.append_cancel_left e2
      have e4 : E = D := List.append_cancel_right e3
      apply this
      rw [← valD_dec (Wl.crcL (bodyB n)), ← eE, e4, eD, valD_dec]
    · rw [f1, List.set_append_right _ _ (by omega), f2] at e
      obtain ⟨e1, e2⟩ := List.append_inj e hbl.symm
      rw [e1] at e2
      rw [f1, List.getElem?_append_right (by omega)] at hx
      apply hx
      rw [f1] at hc
      rw [e2, List.getElem?_set_self (by rw [List.length_append] at hc; omega)]
  · exact two_apart q p E D aE aD nE nD (by rw [← hm, ← hn, hlen]) h c (fun j hj => by rw [← hm, ← hn]; exact (hsame j hj).symm)
theorem one_more (m n : Mn) : encB n ≠ encB m ++ [10] := by
  intro e
  obtain ⟨D, tD, aD, nD, _⟩ := tail_form (bodyB m)
  obtain ⟨E, tE, aE, nE, _⟩ := tail_form (bodyB n)
  unfold encB at e
  rw [tD, tE, show bodyB n ++ ([115, 117, 109, 32] ++ (E ++ [10])) = (bodyB n ++ ([115, 117, 109, 32] ++ E)) ++ [10] by simp] at e
  have e1 := List.append_cancel_right e
  have hl := congrArg List.getLast? e1
  rw [show bodyB n ++ ([115, 117, 109, 32] ++ E) = (bodyB n ++ [115, 117, 109, 32]) ++ E by simp, show bodyB m ++ ([115, 117, 109, 32] ++ (D ++ [10])) = (bodyB m ++ ([115, 117, 109, 32] ++ D)) ++ [10] by simp] at hl
  have hr : ((bodyB m ++ ([115, 117, 109, 32] ++ D)) ++ [10]).getLast? = some 10 := List.getLast?_concat
  rw [hr, List.getLast?_append] at hl
  cases hE : E.getLast? with
  | none => rw [List.getLast?_eq_none_iff] at hE; exact nE hE
  | some y =>
    rw [hE] at hl
    have hy : y = 10 := by simpa using hl
    have := (digB_iff y).1 (List.all_eq_true.1 aE y (List.mem_of_getLast? hE))
    subst hy
    exact absurd this.1 (by decide)
end Mf
end Go.Proofs.YtkbdokakoapooaaGreatDoor
