/- Small bytes read: the program's readSmall and the document's small. Conditions: those that each theorem names. -/
import Derived.Test.YtbfaoelgbfhjdaaIdN
namespace Go.Proofs.Ytbfaoelgbfhjdaa
set_option linter.unusedVariables false
open Go Go.RowKit Ids
namespace Ids
def smV (l : List UInt8) : Nat × Nat := (smR 8 l).getD (0, 0)
theorem smV_at {l : List UInt8} {i : Nat} (h8 : i ≤ 8) (hi : i ≤ l.length) (hb : ∀ j (h : j < l.length), j < i → 128 ≤ (l[j]).toNat) : smV l = ((smR (8 - i) (l.drop i)).map fun p => (acc l i + 128 ^ i * p.1, p.2 + i)).getD (0, 0) := by
  have h := smR_at i (8 - i) l hi hb
  rw [show 8 - i + i = 8 by omega] at h
  unfold smV
  rw [h]
theorem smV_end {l : List UInt8} {i : Nat} (h : i = 8 ∨ i = l.length) (h8 : i ≤ 8) (hi : i ≤ l.length) (hb : ∀ j (h : j < l.length), j < i → 128 ≤ (l[j]).toNat) : smV l = (0, 0) := by
  rw [smV_at h8 hi hb]
  rcases h with rfl | rfl
  · simp [smR]
  · rw [List.drop_length]
    cases 8 - l.length <;> rfl
theorem smV_stop {l : List UInt8} {i : Nat} {c : UInt8} (h8 : i < 8) (hc : l[i]? = some c) (hb : ∀ j (h : j < l.length), j < i → 128 ≤ (l[j]).toNat) (h : c.toNat < 128) :
    smV l = if c.toNat = 0 then (0, 0) else (acc l i + c.toNat * 128 ^ i, i + 1) := by
  have hlt : i < l.length := by
    rcases Nat.lt_or_ge i l.length with d | d
    · exact d
    · rw [List.getElem?_eq_none d] at hc; cases hc
  rw [smV_at (by omega) (by omega) hb, List.drop_eq_getElem_cons hlt, show 8 - i = (7 - i) + 1 by omega]
  rw [List.getElem?_eq_getElem hlt] at hc
  injection hc with hc
  rw [hc, smR, if_pos h]
  by_cases h0 : c.toNat = 0
  · rw [if_pos h0, if_pos h0]; rfl
  · rw [if_neg h0, if_neg h0]
    simp only [Option.map_some, Option.getD_some]
    rw [Nat.mul_comm (128 ^ i), Nat.add_comm 1 i]
theorem acc_next {l : List UInt8} {i : Nat} {c : UInt8} (hc : l[i]? = some c) : acc l (i + 1) = acc l i + c.toNat % 128 * 128 ^ i := by
  rw [acc, hc]; rfl
end Ids
theorem i64_or_nat (a b : Nat) (ha : a < 9223372036854775808) (hb : b < 9223372036854775808) : bits .or .i64 (a : Int) (b : Int) = ((a ||| b : Nat) : Int) := by
  have hx : a ||| b < 2 ^ 63 := Nat.or_lt_two_pow (by omega) (by omega)
  show IntKind.i64.wrap ((BitVec.ofInt 64 (a : Int) ||| BitVec.ofInt 64 (b : Int)).toNat : Int) = _
  rw [BitVec.toNat_or, ofInt_u64 a (by omega), ofInt_u64 b (by omega), IntKind.wrap_i64]
  omega
theorem pow_128 (k : Nat) : 2 ^ (7 * k) = 128 ^ k := by rw [Nat.pow_mul]
theorem pow128_le {k : Nat} (hk : k < 8) : 128 ^ k * 128 ≤ 72057594037927936 := by
  rw [← Nat.pow_succ]; exact Nat.pow_le_pow_right (n := 128) (by decide) (by omega : k + 1 ≤ 8)
theorem sm_or (A k : Nat) (c : UInt8) (hA : A < 128 ^ k) (hk : k < 8) :
    bits .or .i64 (A : Int) (wrap64 (wrap64 (bits .andNot .u8 (c.toNat : Int) 128) * 2 ^ (7 * k))) = ((A + c.toNat % 128 * 128 ^ k : Nat) : Int) := by
  have hc := c.toNat_lt
  have h1 := u8_andNot_nat c.toNat 128 (by omega) (by omega)
  have h2 : ∀ x, x < 256 → x &&& (255 - 128) = x % 128 := by decide +kernel
  rw [h2 _ (by omega)] at h1
  have h1' : bits .andNot .u8 (c.toNat : Int) 128 = ((c.toNat % 128 : Nat) : Int) := h1
  have hp := pow128_le hk
  have hm : c.toNat % 128 * 128 ^ k ≤ 127 * 128 ^ k := Nat.mul_le_mul_right _ (by omega)
  have e2 : ((c.toNat % 128 : Nat) : Int) * 2 ^ (7 * k) = ((c.toNat % 128 * 128 ^ k : Nat) : Int) := by
    rw [Int.natCast_mul, ← pow_128]; simp
  rw [h1', wrapI ((c.toNat % 128 : Nat) : Int) (by omega), e2, wrapI _ (by omega), i64_or_nat _ _ (by omega) (by omega), ← pow_128]
  rw [← pow_128] at hA
  have h3 := Nat.two_pow_add_eq_or_of_lt hA (c.toNat % 128)
  rw [Nat.or_comm, Nat.mul_comm, ← h3, Nat.add_comm]
theorem sm_mul (A k : Nat) (c : UInt8) (hA : A < 128 ^ k) (hk : k < 8) : wrap64 ((A : Int) + wrap64 ((c.toNat : Int) % 128 * 128 ^ k)) = ((A + c.toNat % 128 * 128 ^ k : Nat) : Int) := by
  have hp := pow128_le hk
  have hm : c.toNat % 128 * 128 ^ k ≤ 127 * 128 ^ k := Nat.mul_le_mul_right _ (by omega)
  have e2 : (c.toNat : Int) % 128 * 128 ^ k = ((c.toNat % 128 * 128 ^ k : Nat) : Int) := by simp
  rw [e2, wrapI ((c.toNat % 128 * 128 ^ k : Nat) : Int) (by omega), wrapI _ (by omega)]
  omega
theorem sm_unit {k : Nat} (hk : k < 8) : wrap64 ((128 : Int) ^ k * 128) = ((128 ^ (k + 1) : Nat) : Int) := by
  have hp := pow128_le hk
  have e2 : (128 : Int) ^ k * 128 = ((128 ^ k * 128 : Nat) : Int) := by simp
  rw [e2, wrapI _ (by omega), Nat.pow_succ]
theorem ret2N {a b c d : Int} (h : b = a) (h' : d = c) : Ending.returned (.tuple #[.int .i64 a, .int .i64 c]) = .returned (.tuple #[.int .i64 b, .int .i64 d]) := by rw [h, h']
set_option maxHeartbeats 1000000 in
set_option maxRecDepth 100000 in
theorem readSmall_any (s : ByteArray) (w : World) (hs : s.size ≤ 140737488351232) :
    Calls Try.prog 50 #[.string s] w fun e w' => e = .returned (.tuple #[.int .i64 (smV s.data.toList).1, .int .i64 (smV s.data.toList).2]) ∧ w' = w := by
  have hl : s.data.toList.length = s.size := by simp
  obtain ⟨M, hM⟩ : ∃ M, M = min s.size 8 := ⟨_, rfl⟩
  have hm : min (s.size : Int) 8 = (M : Int) := by omega
  have HM := Lib.hid hM
  have HL := Lib.hid hl
  have HS := Lib.hid hs
  clear hM hl hs
  go_enter Try.func50, Try.ntmps50
  go_wp2
  go_loop [4, 9] (fun n i => ∃ k : Nat, k ≤ M ∧ i = .int .i64 k ∧ n = .int .i64 (acc s.data.toList k : Nat) ∧ Hid (∀ j (h : j < s.data.toList.length), j < k → 128 ≤ (s.data.toList[j]).toNat)) (fun _ i => M - (intOf i).toNat)
  case atStart => exact ⟨0, Nat.zero_le _, rfl, rfl, Lib.hid (fun _ _ h => absurd h (Nat.not_lt_zero _))⟩
  case round =>
    obtain ⟨k, hk, rfl, rfl, HA⟩ := hrel
    by_cases hlt : k < M
    · have hlt1 : k < s.size := by have := HM.out; omega
      have hlt2 : (k : Int) < (M : Int) := by omega
      have hk8 : k < 8 := by have := HM.out; omega
      have hx : s.data.toList[k]? = some s[k] := by rw [List.getElem?_eq_getElem (by simpa using hlt1)]; rfl
      have HOR := Lib.hid (sm_or (acc s.data.toList k) k (s[k]) (acc_lt _ _) hk8)
      have HNX := Lib.hid (acc_next hx)
      by_cases hc : (s[k]).toNat < 128
      · have HV := Lib.hid (smV_stop hk8 hx HA.out hc)
        have hc' : ¬ (128 : Int) ≤ ((s[k]).toNat : Int) := by omega
        by_cases h0 : (s[k]).toNat = 0
        · have HV' : Hid (smV s.data.toList = (0, 0)) := Lib.hid (by rw [HV.out, if_pos h0])
          have h0' : (((s[k]).toNat : Int) == 0) = true := by simp [h0]
          have h0'' : ((s[k]).toNat : Int) = 0 := by omega
          clear HV HNX HOR HA hx h0 hc
          go_wp2_with fail
          go_ret2
          exact ⟨ret2N (by rw [HV'.out]; rfl) (by rw [HV'.out]; rfl), rfl⟩
        · have HV' : Hid (smV s.data.toList = (acc s.data.toList k + (s[k]).toNat % 128 * 128 ^ k, k + 1)) := Lib.hid (by rw [HV.out, if_neg h0, Nat.mod_eq_of_lt hc])
          have h0' : (((s[k]).toNat : Int) == 0) = false := by simp; omega
          clear HV HNX HA hx h0 hc
          go_wp2_with fail
          go_ret2
          exact ⟨ret2N (by rw [HV'.out]; exact HOR.out.symm) (by rw [HV'.out]; rfl), rfl⟩
      · have HA2 : Hid (∀ j (h : j < s.data.toList.length), j < k + 1 → 128 ≤ (s.data.toList[j]).toNat) := Lib.hid (by
          intro j hj hjk
          rcases Nat.lt_or_ge j k with d | d
          · exact HA.out j hj d
          · obtain rfl : j = k := by omega
            rw [List.getElem?_eq_getElem hj] at hx
            injection hx with hx
            rw [hx]; omega)
        have hc' : (128 : Int) ≤ ((s[k]).toNat : Int) := by omega
        have hMM : Hid (M ≤ maxLen) := Lib.hid (by have := HM.out; unfold maxLen; omega)
        clear hx hc HA
        go_wp2_with fail
        go_round
        case rel => exact ⟨k + 1, by omega, congrArg _ (by omega), congrArg _ (by rw [HNX.out]; exact HOR.out), HA2⟩
        case measure => exact int_less hlt
    · obtain rfl : k = M := by omega
      have HV : Hid (smV s.data.toList = (0, 0)) := Lib.hid (smV_end (i := k) (by have := HM.out; have := HL.out; omega) (by have := HM.out; omega) (by have := HM.out; have := HL.out; omega) HA.out)
      clear HA
      go_wp2_with fail
      go_ret2
      exact ⟨ret2N (by rw [HV.out]; rfl) (by rw [HV.out]; rfl), rfl⟩
set_option maxHeartbeats 1000000 in
set_option maxRecDepth 100000 in
theorem smallRef_any (s : ByteArray) (w : World) (hs : s.size ≤ 140737488351232) :
    Calls Try.prog 45 #[.string s] w fun e w' => e = .returned (.tuple #[.int .i64 (smV s.data.toList).1, .int .i64 (smV s.data.toList).2]) ∧ w' = w := by
  have hl : s.data.toList.length = s.size := by simp
  have HL := Lib.hid hl
  have HS := Lib.hid hs
  clear hl hs
  go_enter Try.func45, Try.ntmps45
  go_wp2
  go_loop [4, 5, 6] (fun n u i => ∃ k : Nat, (k ≤ s.size ∧ k ≤ 8) ∧ i = .int .i64 k ∧ n = .int .i64 (acc s.data.toList k : Nat) ∧ u = .int .i64 (128 ^ k : Nat) ∧ Hid (∀ j (h : j < s.data.toList.length), j < k → 128 ≤ (s.data.toList[j]).toNat)) (fun _ _ i => s.size - (intOf i).toNat)
  case atStart => exact ⟨0, by omega, rfl, rfl, rfl, Lib.hid (fun _ _ h => absurd h (Nat.not_lt_zero _))⟩
  case round =>
    obtain ⟨k, hk, rfl, rfl, rfl, HA⟩ := hrel
    have HK := Lib.hid hk
    clear hk
    by_cases hlt : k < s.size ∧ k < 8
    · obtain ⟨hlt1, hk8⟩ := hlt
      have hlt2 : (k : Int) < (s.size : Int) := by omega
      have hlt3 : (k : Int) < 8 := by omega
      have hx : s.data.toList[k]? = some s[k] := by rw [List.getElem?_eq_getElem (by simpa using hlt1)]; rfl
      have HOR := Lib.hid (sm_mul (acc s.data.toList k) k (s[k]) (acc_lt _ _) hk8)
      have HUN := Lib.hid (sm_unit hk8)
      have HNX := Lib.hid (acc_next hx)
      by_cases hc : (s[k]).toNat < 128
      · have HV := Lib.hid (smV_stop hk8 hx HA.out hc)
        have hc' : ((s[k]).toNat : Int) < 128 := by omega
        by_cases h0 : (s[k]).toNat = 0
        · have HV' : Hid (smV s.data.toList = (0, 0)) := Lib.hid (by rw [HV.out, if_pos h0])
          have h0'' : ((s[k]).toNat : Int) = 0 := by omega
          clear HV HNX HOR HA hx h0 hc
          go_wp2_with fail
          go_ret2
          exact ⟨ret2N (by rw [HV'.out]; rfl) (by rw [HV'.out]; rfl), rfl⟩
        · have HV' : Hid (smV s.data.toList = (acc s.data.toList k + (s[k]).toNat % 128 * 128 ^ k, k + 1)) := Lib.hid (by rw [HV.out, if_neg h0, Nat.mod_eq_of_lt hc])
          have h0' : (((s[k]).toNat : Int) == 0) = false := by simp; omega
          clear HV HNX HA hx h0 hc
          go_wp2_with fail
          go_ret2
          exact ⟨ret2N (by rw [HV'.out]; exact HOR.out.symm) (by rw [HV'.out]; rfl), rfl⟩
      · have HA2 : Hid (∀ j (h : j < s.data.toList.length), j < k + 1 → 128 ≤ (s.data.toList[j]).toNat) := Lib.hid (by
          intro j hj hjk
          rcases Nat.lt_or_ge j k with d | d
          · exact HA.out j hj d
          · obtain rfl : j = k := by omega
            rw [List.getElem?_eq_getElem hj] at hx
            injection hx with hx
            rw [hx]; omega)
        have hc' : ¬ ((s[k]).toNat : Int) < 128 := by omega
        clear hx hc HA
        go_wp2_with fail
        go_round
        case rel => exact ⟨k + 1, by omega, congrArg _ (by omega), congrArg _ (by rw [HNX.out]; exact HOR.out), congrArg _ HUN.out, HA2⟩
        case measure => exact int_less hlt1
    · have HV : Hid (smV s.data.toList = (0, 0)) := Lib.hid (smV_end (i := k) (by have := HK.out; have := HL.out; omega) (by have := HK.out; omega) (by have := HK.out; have := HL.out; omega) HA.out)
      clear HA
      by_cases h1 : k < s.size
      · have hlt2 : (k : Int) < (s.size : Int) := by omega
        have hlt3 : ¬ (k : Int) < 8 := by omega
        go_wp2_with fail
        go_ret2
        exact ⟨ret2N (by rw [HV.out]; rfl) (by rw [HV.out]; rfl), rfl⟩
      · have hlt2 : ¬ (k : Int) < (s.size : Int) := by omega
        go_wp2_with fail
        go_ret2
        exact ⟨ret2N (by rw [HV.out]; rfl) (by rw [HV.out]; rfl), rfl⟩
end Go.Proofs.Ytbfaoelgbfhjdaa
