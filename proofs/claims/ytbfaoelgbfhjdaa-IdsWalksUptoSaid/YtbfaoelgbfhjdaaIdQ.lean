/- The document's own Decode. Conditions: those that each theorem names. -/
import Derived.Test.YtbfaoelgbfhjdaaIdP
namespace Go.Proofs.Ytbfaoelgbfhjdaa
set_option linter.unusedVariables false
open Go Go.RowKit Ids
theorem rd_some {t : List UInt8} {last : Int} {l : List Int} (ht : t ≠ []) (h : rd t last = some l) : l ≠ [] := by
  cases hr : smR 8 t with
  | none => rw [rd_no ht hr] at h; cases h
  | some p =>
    obtain ⟨n, k⟩ := p
    rw [rd_yes hr] at h
    split at h
    · cases h
    · cases hl : rd (t.drop k) (last + n) with
      | none => rw [hl] at h; cases h
      | some l' => rw [hl] at h; simp only [Option.map_some] at h; injection h with h; subst h; simp
set_option maxHeartbeats 4000000 in
set_option maxRecDepth 100000 in
theorem decRef_any (s : ByteArray) (w : World) (hs : s.size ≤ 16777215) :
    Calls Try.prog 29 #[.string s] w (DecP s w) := by
  have hl : s.data.toList.length = s.size := Array.length_toList
  by_cases h4 : s.size < 4
  · have HD : Hid (decB s.data.toList = none) := Lib.hid (by unfold decB; rw [if_pos (by omega)])
    have h4' : (s.size : Int) < 4 := by omega
    clear hl hs
    go_enter Try.func29, Try.ntmps29
    go_wp2_with fail
    go_ret2
    exact DecP.no HD.out (Below.refl _ _)
  · have h4' : ¬ (s.size : Int) < 4 := by omega
    have h4'' : (4 : Int) ≤ (s.size : Int) := by omega
    have hs4 : (s.extract 0 4).size = 4 := by simp; omega
    have CU := Lib.hid (unfixRef_any (s.extract 0 4) w (by omega) (by omega))
    rw [ext_take] at CU
    have hd := decB_eq s.data.toList (by omega)
    have hU := unfL_lt (s.data.toList.take 4)
    rw [show (s.data.toList.take 4).length = 4 by simp; omega] at hU
    have HU : Hid (unfL (s.data.toList.take 4) < 4294967296) := Lib.hid hU
    obtain ⟨N, hN⟩ : ∃ N, N = unfL (s.data.toList.take 4) := ⟨_, rfl⟩
    rw [← hN] at CU hd HU
    have HSS := Lib.hid hs
    have HD := Lib.hid hd
    obtain ⟨S4, hS4⟩ : ∃ S4, S4 = s.extract 4 s.size := ⟨_, rfl⟩
    have HS4 : Hid (S4.data.toList = s.data.toList.drop 4) := Lib.hid (by rw [hS4, ext_drop])
    have HS4z : Hid (S4.size ≤ 16777215) := Lib.hid (by rw [hS4]; simp; omega)
    have HSE := Lib.hid hS4
    clear hl hs hs4 hU hN h4 hd hS4
    go_enter Try.func29, Try.ntmps29
    go_wp2_with (go_at_call 44; refine CU.out.mono ?_; rintro e w2 ⟨rfl, rfl⟩)
    go_loopw [0, 6, 7] (fun x l y wr => ∃ (t : ByteArray) (pre : List Int) (last : Int), x = .string t ∧ y = .int .i64 last ∧ Own wr w.heap.size l pre ∧ Hid (rd (s.data.toList.drop 4) 0 = (rd t.data.toList last).map (pre ++ ·)) ∧ Hid (0 ≤ last ∧ last ≤ 4503599627370496) ∧ Hid (pre.length + t.size ≤ S4.size) ∧ Hid (pre.length ≤ N) ∧ Below w.heap.size w wr) (fun x _ _ _ => strLen x)
    case atStart => exact ⟨s.extract 4 s.size, [], 0, rfl, rfl, own_nil _ _, Lib.hid (by rw [← HSE.out, HS4.out]; simp), Lib.hid (by omega), Lib.hid (by rw [← HSE.out]; simp), Lib.hid (Nat.zero_le _), Below.refl _ _⟩
    case round =>
      obtain ⟨t, pre, last, rfl, rfl, ho, HR, HLB, HSZ, HPN, hb⟩ := hrel
      obtain ⟨pp, pc, hpv⟩ := ho.at.form
      subst hpv
      have HO := Lib.hid ho
      have HB := Lib.hid hb
      clear ho hb
      obtain ⟨wo, rfl⟩ : ∃ wo : World, wo = wr := ⟨_, rfl⟩
      have hwr : IntKind.u64.wrap (pre.length : Int) = (pre.length : Int) := IntWalk.u64_in _ (by have := HSZ.out; have := HS4z.out; omega)
      by_cases hpn : pre.length < N
      · have hpn' : (pre.length : Int) < (N : Int) := by omega
        have CS := Lib.hid (smallRef_any t wo (by have := HSZ.out; have := HS4z.out; omega))
        cases hr : smR 8 t.data.toList with
        | none =>
          rw [smV_none hr] at CS
          have HE : Hid (decB s.data.toList = none) := Lib.hid (by
            rw [HD.out, HR.out]
            by_cases ht : t.data.toList = []
            · rw [ht, rd_nil]
              simp only [Option.map_some, List.append_nil]
              rw [if_neg (by omega)]
            · rw [rd_no ht hr]; rfl)
          clear HR hr
          go_wp2_with (go_at_call 45; refine CS.out.mono ?_; rintro e w2 ⟨rfl, rfl⟩)
          go_ret2
          exact DecP.no HE.out HB.out
        | some p =>
          obtain ⟨n, k⟩ := p
          rw [smV_some hr] at CS
          obtain ⟨i1, i2, i3, i4, i5⟩ := smR_is _ _ _ _ hr
          have hk0 : ((k : Int) == 0) = false := by simp; omega
          have hy := rd_yes (last := last) hr
          have hsub : wrap64 (4503599627370496 - last) = 4503599627370496 - last := wrapI _ (by have := HLB.out; omega)
          by_cases hg : 4503599627370496 - last < (n : Int)
          · rw [if_pos hg] at hy
            have HE : Hid (decB s.data.toList = none) := Lib.hid (by rw [HD.out, HR.out, hy]; rfl)
            have hg' : (4503599627370496 : Int) - last < (n : Int) := hg
            clear HR hr hy i1 i2 i3 i4 i5 hg
            go_wp2_with (go_at_call 45; refine CS.out.mono ?_; rintro e w2 ⟨rfl, rfl⟩)
            go_ret2
            exact DecP.no HE.out HB.out
          · rw [if_neg hg] at hy
            have hg' : ¬ (4503599627370496 : Int) - last < (n : Int) := hg
            have hkl : k ≤ t.size := by
              have h9 : t.data.toList.length = t.size := Array.length_toList
              omega
            obtain ⟨z, hz⟩ : ∃ z, z = last + (n : Int) := ⟨_, rfl⟩
            rw [← hz] at hy
            have hadd : wrap64 (last + (n : Int)) = z := by rw [wrapI _ (by have := HLB.out; omega), hz]
            obtain ⟨v3, w3, hr3, ho3, hb3⟩ := append_one z HO.out (by have := HSZ.out; have := HS4z.out; omega) HB.out.size
            have HO3 := Lib.hid ho3
            have HB3 := Lib.hid (HB.out.trans hb3)
            have HR2 : Hid (rd (s.data.toList.drop 4) 0 = (rd (t.extract k t.size).data.toList z).map ((pre ++ [z]) ++ ·)) := Lib.hid (by
              rw [HR.out, hy, ext_drop, Option.map_map]
              congr 1
              funext l
              simp)
            have HLB2 : Hid (0 ≤ z ∧ z ≤ 4503599627370496) := Lib.hid (by have := HLB.out; omega)
            have HES : Hid ((t.extract k t.size).size = t.size - k) := Lib.hid (by simp)
            have HSZ2 : Hid ((pre ++ [z]).length + (t.extract k t.size).size ≤ S4.size) := Lib.hid (by have := HSZ.out; rw [HES.out]; simp; omega)
            have HPN2 : Hid ((pre ++ [z]).length ≤ N) := Lib.hid (by simp; omega)
            have HME : Hid ((t.extract k t.size).size < t.size) := Lib.hid (by rw [HES.out]; omega)
            have hk1 : (0 : Int) ≤ (k : Int) := by omega
            have hk2 : (k : Int) ≤ (t.size : Int) := by omega
            clear HR hr hy i1 i2 i3 i4 i5 hg ho3 hb3 hz
            go_wp2_with (first
              | (go_at_call 45; refine CS.out.mono ?_; rintro e w2 ⟨rfl, rfl⟩)
              | (at_builtin; refine wpList_append_run rfl _ _ _ _ rfl _ _ _ _ rfl rfl hr3 ?_))
            go_roundw
            case rel => exact ⟨_, _, z, rfl, rfl, HO3.out, HR2, HLB2, HSZ2, HPN2, HB3.out⟩
            case measure => exact HME.out
      · have hpn' : ¬ (pre.length : Int) < (N : Int) := by omega
        by_cases ht : t.data.toList = []
        · have he : t.toList = [] := by rw [toL', ht]
          have HE : Hid (decB s.data.toList = some pre) := Lib.hid (by
            rw [HD.out, HR.out, ht, rd_nil]
            simp only [Option.map_some, List.append_nil]
            rw [if_pos (by have := HPN.out; omega)])
          clear ht HR
          go_wp2_with fail
          go_ret2
          exact DecP.yes HE.out HO.out HB.out
        · have he : t.toList.isEmpty = false := by
            rw [toL']
            cases h : t.data.toList with
            | nil => exact absurd h ht
            | cons _ _ => rfl
          have HE : Hid (decB s.data.toList = none) := Lib.hid (by
            rw [HD.out, HR.out]
            cases hl : rd t.data.toList last with
            | none => rfl
            | some l =>
              have := rd_some ht hl
              have h0 : 1 ≤ l.length := by cases l with | nil => exact absurd rfl this | cons _ _ => simp
              simp only [Option.map_some]
              rw [if_neg (by have := HPN.out; simp; omega)])
          clear ht HR
          go_wp2_with fail
          go_ret2
          exact DecP.no HE.out HB.out
end Go.Proofs.Ytbfaoelgbfhjdaa
