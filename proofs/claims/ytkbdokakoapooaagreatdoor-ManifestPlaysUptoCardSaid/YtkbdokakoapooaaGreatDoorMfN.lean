/- The document's number and name of a manifest. Conditions: those that each theorem names. -/
import Derived.Test.YtkbdokakoapooaaGreatDoorMfI
namespace Go.Proofs.YtkbdokakoapooaaGreatDoor
set_option linter.unusedVariables false
open Go Go.RowKit Go.Shelf Go.Sort
namespace Mf
theorem numR_none {s : Bs} (h : s = [] ∨ 16 < s.length ∨ (1 < s.length ∧ s.head? = some 48) ∨ s.all digB = false ∨ 4503599627370496 < valD s) : numR s = -1 := by unfold numR; rw [if_pos h]
theorem numR_some {s : Bs} (h0 : s ≠ []) (h1 : s.length ≤ 16) (h2 : ¬ (1 < s.length ∧ s.head? = some 48)) (h3 : s.all digB = true) (h4 : valD s ≤ 4503599627370496) : numR s = valD s := by
  unfold numR; rw [if_neg]
  rintro (h | h | h | h | h)
  · exact h0 h
  · omega
  · exact h2 h
  · rw [h3] at h; cases h
  · omega
set_option maxHeartbeats 2000000 in
set_option maxRecDepth 100000 in
theorem rnumber_any (s : ByteArray) (w : World) (hs : s.size ≤ 16777215) :
    Calls Tryz.prog 116 #[.string s] w fun e w' => e = .returned (.int .i64 (numR (bl s))) ∧ w' = w := by
  obtain ⟨R, hR⟩ : ∃ R, R = numR (bl s) := ⟨_, rfl⟩
  rw [← hR]
  have HR := Lib.hid hR
  have HL := Lib.hid (bl_len s)
  clear hR
  cases hb : bl s with
  | nil =>
    obtain rfl : s = ⟨#[]⟩ := by_ext hb
    have HV : Hid (R = -1) := Lib.hid (by rw [HR.out]; exact numR_none (.inl rfl))
    clear hs hb
    go_enter Tryz.func116, Tryz.ntmps116
    go_wp2_with fail
    go_ret
    rw [HV.out]
    exact ⟨rfl, rfl⟩
  | cons c0 d =>
    obtain ⟨hp, hc, he⟩ := text_head hb
    have hne : s.toList.isEmpty = false := by rw [Go.ByteArray.toList_eq, show s.data.toList = bl s from rfl, hb]; rfl
    have hsz : (s.size : Int) ≤ 9223372036854775807 := by omega
    obtain ⟨c1, hc1⟩ : ∃ c1 : UInt8, s[0] = c1 := ⟨_, rfl⟩
    have hcc : c1 = c0 := by rw [← hc1]; exact hc hp
    subst hcc
    have HBN : Hid (bl s ≠ []) := Lib.hid (by rw [hb]; simp)
    have HBH : Hid ((bl s).head? = some c1) := Lib.hid (by rw [hb]; rfl)
    clear he hc hb
    by_cases h16 : (16 : Int) < s.size
    · have HV : Hid (R = -1) := Lib.hid (by rw [HR.out]; exact numR_none (.inr (.inl (by rw [HL.out]; omega))))
      go_enter Tryz.func116, Tryz.ntmps116
      go_wp2_with fail
      go_ret
      rw [HV.out]
      exact ⟨rfl, rfl⟩
    · by_cases h1 : (1 : Int) < s.size ∧ ((c1.toNat : Int) == 48) = true
      · obtain ⟨h1, h48⟩ := h1
        have HV : Hid (R = -1) := Lib.hid (by
          rw [HR.out]
          refine numR_none (.inr (.inr (.inl ⟨by rw [HL.out]; omega, ?_⟩)))
          rw [HBH.out]
          have : c1 = 48 := by
            apply UInt8.toNat_inj.1
            have h2 : (c1.toNat : Int) = 48 := by simpa using h48
            have h3 : (48 : UInt8).toNat = 48 := rfl
            omega
          rw [this])
        go_enter Tryz.func116, Tryz.ntmps116
        go_wp2_with fail
        go_ret
        rw [HV.out]
        exact ⟨rfl, rfl⟩
      · have HN1 : Hid (¬ (1 < (bl s).length ∧ (bl s).head? = some 48)) := Lib.hid (by
          rintro ⟨q1, q2⟩
          rw [HBH.out] at q2
          injection q2 with q2
          exact h1 ⟨by rw [HL.out] at q1; omega, by rw [q2]; rfl⟩)
        have h1' : ¬ (1 : Int) < s.size ∨ ((1 : Int) < s.size ∧ ((c1.toNat : Int) == 48) = false) := by
          by_cases q : (1 : Int) < s.size
          · right
            refine ⟨q, ?_⟩
            cases h : ((c1.toNat : Int) == 48)
            · rfl
            · exact absurd ⟨q, h⟩ h1
          · exact .inl q
        clear h1
        go_enter Tryz.func116, Tryz.ntmps116
        rcases h1' with h1 | ⟨h1, h48⟩
        all_goals
          go_wp2_with fail
          go_loop [3, 4] (fun z i => ∃ k : Nat, k ≤ s.size ∧ i = .int .i64 k ∧ z = .int .i64 (valD ((bl s).take k)) ∧ Hid (((bl s).take k).all digB = true ∧ valD ((bl s).take k) < 10 ^ k)) (fun _ i => s.size - (intOf i).toNat)
          case atStart => exact ⟨0, Nat.zero_le _, rfl, rfl, Lib.hid ⟨by simp, by simp [valD]⟩⟩
          case round =>
            obtain ⟨k, hk, rfl, rfl, HA⟩ := hrel
            have hpw : 10 ^ k ≤ 10 ^ 16 := Nat.pow_le_pow_right (by omega) (by omega)
            have hv : valD ((bl s).take k) < 10000000000000001 := by have := HA.out.2; omega
            by_cases hlt : k < s.size
            · have hx : (bl s)[k]? = some s[k] := Lib.data_getElem? s k hlt
              generalize hc : s[k] = c at hx
              have HX := Lib.hid hx
              clear hx hpw
              by_cases ha : (c.toNat : Int) < 48
              · have HV : Hid (R = -1) := Lib.hid (by
                  rw [HR.out]
                  refine numR_none (.inr (.inr (.inr (.inl ?_))))
                  rw [← Bool.not_eq_true, List.all_eq_true]
                  intro h
                  have := (digB_iff c).1 (h c (List.mem_of_getElem? HX.out))
                  omega)
                go_wp2_with fail
                go_ret
                rw [HV.out]
                exact ⟨rfl, rfl⟩
              by_cases hz : (57 : Int) < (c.toNat : Int)
              · have HV : Hid (R = -1) := Lib.hid (by
                  rw [HR.out]
                  refine numR_none (.inr (.inr (.inr (.inl ?_))))
                  rw [← Bool.not_eq_true, List.all_eq_true]
                  intro h
                  have := (digB_iff c).1 (h c (List.mem_of_getElem? HX.out))
                  omega)
                go_wp2_with fail
                go_ret
                rw [HV.out]
                exact ⟨rfl, rfl⟩
              have HT : Hid ((bl s).take (k + 1) = (bl s).take k ++ [c]) := Lib.hid (by rw [List.take_add_one, HX.out]; rfl)
              have HVN : Hid (valD ((bl s).take (k + 1)) = valD ((bl s).take k) * 10 + (c.toNat - 48)) := Lib.hid (by rw [HT.out, valD_push])
              have HAN : Hid (((bl s).take (k + 1)).all digB = true ∧ valD ((bl s).take (k + 1)) < 10 ^ (k + 1)) := Lib.hid (by
                refine ⟨?_, ?_⟩
                · rw [HT.out, List.all_append, HA.out.1]
                  simp only [List.all_cons, List.all_nil, Bool.and_true, Bool.true_and]
                  exact (digB_iff c).2 (by omega)
                · rw [HVN.out, Nat.pow_succ]
                  have := HA.out.2
                  omega)
              generalize valD ((bl s).take k) = V at *
              have hmul : wrap64 ((V : Int) * 10) = (V : Int) * 10 := by unfold wrap64; omega
              have hsub : IntKind.u8.wrap ((c.toNat : Int) - 48) = (c.toNat : Int) - 48 := by rw [IntKind.wrap_u8]; omega
              have hadd : wrap64 ((V : Int) * 10 + ((c.toNat : Int) - 48)) = ((V * 10 + (c.toNat - 48) : Nat) : Int) := by unfold wrap64; omega
              go_wp2_with fail
              go_round
              case rel =>
                refine ⟨k + 1, by omega, congrArg _ (show (k : Int) + 1 = ((k + 1 : Nat) : Int) by omega), ?_, HAN⟩
                rw [HVN.out]
                first | rfl | exact congrArg _ hadd | (refine congrArg _ ?_; omega)
              case measure =>
                simp only [intOf]; omega
            · obtain rfl : k = s.size := by omega
              have HTA : Hid ((bl s).take s.size = bl s) := Lib.hid (List.take_of_length_le (by rw [HL.out]; exact Nat.le_refl _))
              have HAA := HA.out
              rw [HTA.out] at HAA hv ⊢
              have HAL := Lib.hid HAA.1
              clear HAA HA hpw
              by_cases hbig : (4503599627370496 : Int) < (valD (bl s) : Int)
              · have HV : Hid (R = -1) := Lib.hid (by rw [HR.out]; exact numR_none (.inr (.inr (.inr (.inr (by omega))))))
                go_wp2_with fail
                go_ret
                rw [HV.out]
                exact ⟨rfl, rfl⟩
              · have HV : Hid (R = valD (bl s)) := Lib.hid (by rw [HR.out]; exact numR_some HBN.out (by rw [HL.out]; omega) HN1.out HAL.out (by omega))
                go_wp2_with fail
                go_ret
                rw [HV.out]
                exact ⟨rfl, rfl⟩
set_option maxHeartbeats 2000000 in
set_option maxRecDepth 100000 in
theorem rname_any (s : ByteArray) (next : Int) (w : World) (hs : s.size ≤ 16777215) :
    Calls Tryz.prog 114 #[.string s, .int .i64 next] w fun e w' => e = .returned (.bool (isNm next (bl s))) ∧ w' = w := by
  cases hb : bl s with
  | nil =>
    obtain rfl : s = ⟨#[]⟩ := by_ext hb
    have HV : Hid (isNm next [] = false) := Lib.hid rfl
    clear hs hb
    go_enter Tryz.func114, Tryz.ntmps114
    go_wp2_with fail
    go_ret
    rw [HV.out]
    exact ⟨rfl, rfl⟩
  | cons c d =>
    obtain ⟨hp, hc, he⟩ := text_head hb
    have hne : s.toList.isEmpty = false := by rw [Go.ByteArray.toList_eq, show s.data.toList = bl s from rfl, hb]; rfl
    have hsz : (s.size : Int) ≤ 9223372036854775807 := by omega
    have h1s : (1 : Int) ≤ s.size := by omega
    have hds : (tx d).size ≤ 16777215 := by
      rw [tx_size]
      have := ln s
      rw [show s.data.toList = bl s from rfl, hb] at this
      simp at this; omega
    obtain ⟨c0, hc0⟩ : ∃ c0 : UInt8, s[0] = c0 := ⟨_, rfl⟩
    have hcc : c0 = c := by rw [← hc0]; exact hc hp
    subst hcc
    by_cases hl : c0 = 115 ∨ c0 = 108
    · have HV : Hid (isNm next (c0 :: d) = (decide (1 ≤ numR d) && decide (numR d < next))) := Lib.hid (by
        show (_ && _) = _
        have : (c0 == 115 || c0 == 108) = true := by simpa using hl
        rw [this]; rfl)
      have HN := Lib.hid (fun W => rnumber_any (tx d) W hds)
      rw [show bl (tx d) = d from tx_list d] at HN
      have HE := Lib.hid he
      have hz : ∃ z, z = numR d := ⟨_, rfl⟩
      obtain ⟨z, hz⟩ := hz
      rw [← hz] at HV HN
      rw [HV.out]
      clear hb hs hc he hz HV
      generalize tx d = x at *
      go_enter Tryz.func114, Tryz.ntmps114
      have hl2 : ((c0.toNat : Int) != 115) = false ∨ (((c0.toNat : Int) != 115) = true ∧ ((c0.toNat : Int) != 108) = false) := by
        rcases hl with rfl | rfl
        · exact .inl rfl
        · exact .inr ⟨rfl, rfl⟩
      clear hl
      rcases hl2 with hl2 | ⟨hl2, hl3⟩
      all_goals
        by_cases z1 : (1 : Int) ≤ z
        · by_cases z2 : z < next
          · have hv : true = (decide (1 ≤ z) && decide (z < next)) := by rw [decide_eq_true z1, decide_eq_true z2]; rfl
            have HVV := Lib.hid hv
            clear hv
            go_wp2_with fail
            rw [HE.out]
            refine (HN.out _).mono ?_
            rintro e w1 ⟨rfl, rfl⟩
            go_wp2_with fail
            go_ret
            exact ⟨congrArg (fun b => Ending.returned (Value.bool b)) HVV.out, rfl⟩
          · have hv : decide (z < next) = (decide (1 ≤ z) && decide (z < next)) := by rw [decide_eq_true z1]; rfl
            have HVV := Lib.hid hv
            clear hv
            go_wp2_with fail
            rw [HE.out]
            refine (HN.out _).mono ?_
            rintro e w1 ⟨rfl, rfl⟩
            go_wp2_with fail
            go_ret
            exact ⟨congrArg (fun b => Ending.returned (Value.bool b)) HVV.out, rfl⟩
        · have hv : false = (decide (1 ≤ z) && decide (z < next)) := by rw [decide_eq_false z1]; rfl
          have HVV := Lib.hid hv
          clear hv
          go_wp2_with fail
          rw [HE.out]
          refine (HN.out _).mono ?_
          rintro e w1 ⟨rfl, rfl⟩
          go_wp2_with fail
          go_ret
          exact ⟨congrArg (fun b => Ending.returned (Value.bool b)) HVV.out, rfl⟩
    · have HV : Hid (isNm next (c0 :: d) = false) := Lib.hid (by
        show (_ && _) = _
        have : (c0 == 115 || c0 == 108) = false := by simpa using hl
        rw [this]; rfl)
      have h1 : ((c0.toNat : Int) != 115) = true := by
        rw [bne_iff_ne]; exact fun e => hl (.inl (UInt8.toNat_inj.1 (by have : (115 : UInt8).toNat = 115 := rfl; omega)))
      have h2 : ((c0.toNat : Int) != 108) = true := by
        rw [bne_iff_ne]; exact fun e => hl (.inr (UInt8.toNat_inj.1 (by have : (108 : UInt8).toNat = 108 := rfl; omega)))
      clear hb hs hc he hl hds
      go_enter Tryz.func114, Tryz.ntmps114
      go_wp2_with fail
      go_ret
      rw [HV.out]
      exact ⟨rfl, rfl⟩
end Mf
end Go.Proofs.YtkbdokakoapooaaGreatDoor
