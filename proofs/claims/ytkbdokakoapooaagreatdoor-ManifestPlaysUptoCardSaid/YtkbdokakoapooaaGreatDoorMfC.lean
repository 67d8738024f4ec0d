/- manifest's call isName. Conditions: those that each theorem names. -/
import Derived.Test.YtkbdokakoapooaaGreatDoorMfRow
import Derived.Deep.RegionHeld3
import Derived.Deep.QuietTactic
import Derived.BigQuiet
namespace Go.Proofs.YtkbdokakoapooaaGreatDoor
set_option linter.unusedVariables false
open Go Go.RowKit Go.Shelf Go.Sort
namespace Mf
theorem str_eq (a b : ByteArray) : (a.toList == b.toList) = decide (bl a = bl b) := by
  rw [Go.ByteArray.toList_eq, Go.ByteArray.toList_eq, Bool.eq_iff_iff, decide_eq_true_eq, beq_iff_eq]
theorem text_head {s : ByteArray} {c : UInt8} {d : Bs} (h : bl s = c :: d) : 0 < s.size ∧ (∀ h0, s[0]'h0 = c) ∧ s.extract 1 s.size = tx d := by
  have h1 : s.size = (c :: d).length := by rw [← h]; exact (ln s).symm
  refine ⟨by rw [h1]; simp, fun h0 => ?_, ?_⟩
  · have := Lib.data_getElem? s 0 h0
    rw [show s.data.toList = bl s from rfl, h] at this
    simpa using this.symm
  · apply by_ext
    rw [ext_any, tx_list, show s.data.toList = bl s from rfl, h]
    rw [List.take_of_length_le (by rw [h1]; simp)]
    rfl
theorem drewB {w y : World} (h : RowKit.Below w.heap.size w y) : RowKit.Below w.heap.size w y.drew := below_then h (below_drewN y 1)
set_option maxHeartbeats 2000000 in
set_option maxRecDepth 100000 in
theorem isName_any (s : ByteArray) (next : Int) (w : World) (hs : s.size ≤ 16777215) (hn : next ≤ 9223372036854775807) (G : Gh w) :
    Calls Tryz.prog 102 #[.string s, .int .i64 next] w fun e w' => e = .returned (.bool (isNmP next (bl s))) ∧ Below w.heap.size w w' := by
  cases hb : bl s with
  | nil =>
    obtain rfl : s = ⟨#[]⟩ := by_ext hb
    have HV : Hid (isNmP next [] = false) := Lib.hid rfl
    clear hs hb
    go_enter Tryz.func102, Tryz.ntmps102
    go_wp2_with fail
    go_ret
    rw [HV.out]
    exact ⟨rfl, Below.refl _ _⟩
  | cons c d =>
    obtain ⟨hp, hc, he⟩ := text_head hb
    have hne : s.toList.isEmpty = false := by rw [Go.ByteArray.toList_eq, show s.data.toList = bl s from rfl, hb]; rfl
    have hsz : (s.size : Int) ≤ 9223372036854775807 := by omega
    have h1s : (1 : Int) ≤ s.size := by omega
    have hds : (tx d).size ≤ 16777215 := by
      rw [tx_size]
      have := ln s
      rw [show s.data.toList = bl s from rfl, hb] at this
      simp at this; omega
    obtain ⟨c0, hc0⟩ : ∃ c0 : UInt8, s[0] = c0 := ⟨_, rfl⟩
    have hcc : c0 = c := by rw [← hc0]; exact hc hp
    subst hcc
    by_cases hl : c0 = 115 ∨ c0 = 108
    · have HV : Hid (isNmP next (c0 :: d) = (decide (1 ≤ numS d) && (decide (numS d < next) && (Lib.itoa (numS d) == d)))) := Lib.hid (by
        show (_ && _) = _
        have : (c0 == 115 || c0 == 108) = true := by simpa using hl
        rw [this]; rfl)
      have HN := Lib.hid (fun W (G : Gh W) => number_any (tx d) W hds G)
      rw [show bl (tx d) = d from tx_list d] at HN
      have HI := Lib.hid (fun n h0 h1 W (G : Gh W) => itoa_any n h0 h1 W G)
      have HG := Lib.hid G
      have HE := Lib.hid he
      have hz : ∃ z, z = numS d := ⟨_, rfl⟩
      obtain ⟨z, hz⟩ := hz
      rw [← hz] at HV HN
      rw [HV.out]
      have HTX : Hid (bl (tx d) = d) := Lib.hid (tx_list d)
      clear hb hs hc he hz HV G
      generalize tx d = x at *
      go_enter Tryz.func102, Tryz.ntmps102
      have hl2 : ((c0.toNat : Int) != 115) = false ∨ (((c0.toNat : Int) != 115) = true ∧ ((c0.toNat : Int) != 108) = false) := by
        rcases hl with rfl | rfl
        · exact .inl rfl
        · exact .inr ⟨rfl, rfl⟩
      clear hl
      have HEQ : Hid (((tx (Lib.itoa z)).toList == x.toList) = decide (Lib.itoa z = d)) := Lib.hid (by rw [str_eq, show bl (tx (Lib.itoa z)) = Lib.itoa z from tx_list _, HTX.out])
      have HZM : Hid (z < next → z ≤ 9223372036854775807) := Lib.hid (fun h => by omega)
      rcases hl2 with hl2 | ⟨hl2, hl3⟩
      all_goals
        by_cases z1 : (1 : Int) ≤ z
        · have z1b : decide (1 ≤ z) = true := decide_eq_true z1
          by_cases z2 : z < next
          · have z2b : decide (z < next) = true := decide_eq_true z2
            go_wp2_with fail
            rw [HE.out]
            refine (HN.out _ HG.out).mono ?_
            rintro e w1 ⟨rfl, hb1⟩
            have HB1 := Lib.hid hb1
            clear hb1
            go_wp2_with fail
            have hB : RowKit.Below w1.heap.size w1 w1.drew := drewB (Below.refl _ _)
            have hzz : -9223372036854775808 ≤ z := by omega
            have hzm : z ≤ 9223372036854775807 := HZM.out z2
            have HG1 := Lib.hid (HG.out.below HB1.out)
            have HC : Hid (∀ y, RowKit.Below w1.heap.size w1 y → Calls Tryz.prog 69 #[.int .i64 z] y fun e y' => e = .returned (.string (tx (Lib.itoa z))) ∧ RowKit.Below w1.heap.size w1 y') := Lib.hid (fun y hy => (HI.out z (by omega) hzm y (HG1.out.below hy)).mono (by rintro e y' ⟨rfl, hy'⟩; exact ⟨rfl, below_then hy hy'⟩))
            clear HI
            go_region_held3 (fun y => RowKit.Below w1.heap.size w1 y) (first | assumption | exact drewB (by assumption) | go_keep)
              (first | (go_at_call 69; refine (HC.out _ (by assumption)).mono ?_; rintro e y1 ⟨rfl, hy1⟩))
            go_wp2_with fail
            go_ret
            have hv : ((tx (Lib.itoa z)).toList == (s.extract 1 s.size).toList) = (decide (1 ≤ z) && (decide (z < next) && Lib.itoa z == d)) := by
              rw [HE.out, HEQ.out, z1b, z2b, Bool.eq_iff_iff]; simp
            exact ⟨congrArg (fun b => Ending.returned (Value.bool b)) hv, below_then HB1.out (by assumption)⟩
          · have z2b : decide (z < next) = false := decide_eq_false z2
            go_wp2_with fail
            rw [HE.out]
            refine (HN.out _ HG.out).mono ?_
            rintro e w1 ⟨rfl, hb1⟩
            have HB1 := Lib.hid hb1
            clear hb1
            go_wp2_with fail
            go_quiet (fail)
            go_wp2_with fail
            go_ret
            have hv : false = (decide (1 ≤ z) && (decide (z < next) && Lib.itoa z == d)) := by rw [z1b, z2b]; rfl
            exact ⟨congrArg (fun b => Ending.returned (Value.bool b)) hv, below_then HB1.out (below_drewN _ _)⟩
        · have z1b : decide (1 ≤ z) = false := decide_eq_false z1
          go_wp2_with fail
          rw [HE.out]
          refine (HN.out _ HG.out).mono ?_
          rintro e w1 ⟨rfl, hb1⟩
          have HB1 := Lib.hid hb1
          clear hb1
          go_wp2_with fail
          go_quiet (fail)
          go_wp2_with fail
          go_ret
          have hv : false = (decide (1 ≤ z) && (decide (z < next) && Lib.itoa z == d)) := by rw [z1b]; rfl
          exact ⟨congrArg (fun b => Ending.returned (Value.bool b)) hv, below_then HB1.out (below_drewN _ _)⟩
    · have HV : Hid (isNmP next (c0 :: d) = false) := Lib.hid (by
        show (_ && _) = _
        have : (c0 == 115 || c0 == 108) = false := by simpa using hl
        rw [this]; rfl)
      have h1 : ((c0.toNat : Int) != 115) = true := by
        rw [bne_iff_ne]; exact fun e => hl (.inl (UInt8.toNat_inj.1 (by have : (115 : UInt8).toNat = 115 := rfl; omega)))
      have h2 : ((c0.toNat : Int) != 108) = true := by
        rw [bne_iff_ne]; exact fun e => hl (.inr (UInt8.toNat_inj.1 (by have : (108 : UInt8).toNat = 108 := rfl; omega)))
      clear hb hs hc he hl hds
      go_enter Tryz.func102, Tryz.ntmps102
      go_wp2_with fail
      go_ret
      rw [HV.out]
      exact ⟨rfl, Below.refl _ _⟩
end Mf
end Go.Proofs.YtkbdokakoapooaaGreatDoor
