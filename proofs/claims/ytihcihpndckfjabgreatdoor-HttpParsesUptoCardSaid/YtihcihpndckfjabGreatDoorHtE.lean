/- http's calls every, isMethod, isPath. Conditions: those that each theorem names. -/
import Derived.Test.YtihcihpndckfjabGreatDoorHtA
import Derived.Test.YtihcihpndckfjabGreatDoorShelf
namespace Go.Proofs.YtihcihpndckfjabGreatDoor
set_option linter.unusedVariables false
open Go Go.RowKit Go.Shelf Ht
def allS (s : ByteArray) (p : UInt8 → Bool) : Bool := s.data.toList.all p
/-- A function value that tells p of a byte. -/
def Tells (g : Nat) (p : UInt8 → Bool) : Prop := (∀ args w, (callFunc g args).run Tryz.prog w = .ok (.enter g args) w) ∧ ∀ (c : UInt8) (w : World), Calls Tryz.prog g #[.int .u8 c.toNat] w fun e w' => e = .returned (.bool (p c)) ∧ w' = w
theorem wrap_succ {n k : Nat} (h : n ≤ maxLen) (hk : k < n) : wrap64 ((k : Int) + 1) = (k : Int) + 1 := by unfold maxLen at h; unfold wrap64; omega
theorem wrap_succ' {n k : Nat} (h : n ≤ maxLen) (hk : k < n) : wrap64 ((k : Int) + 1) = ((k + 1 : Nat) : Int) := by rw [wrap_succ h hk, Int.natCast_add]; rfl
theorem intOf_less {n k : Nat} (h : k < n) : n - (intOf (.int .i64 ((k + 1 : Nat) : Int))).toNat < n - (intOf (.int .i64 (k : Int))).toNat := by
  simp only [intOf, Int.toNat_natCast]; omega
set_option maxHeartbeats 1000000 in
set_option maxRecDepth 100000 in
theorem every_any (g : Nat) (p : UInt8 → Bool) (hp : Tells g p) (s : ByteArray) (hs : s.size ≤ maxLen) (w : World) :
    Calls Tryz.prog 37 #[.string s, .func (.func g) #[] #[]] w fun e w' => e = .returned (.bool (allS s p)) ∧ w' = w := by
  obtain ⟨hg, hq⟩ := hp
  have HQ := Lib.hid hq
  have HS := Lib.hid hs
  clear hq hs
  go_enter Tryz.func37, Tryz.ntmps37
  go_wp2
  go_loop [8] (fun i => ∃ k : Nat, k ≤ s.size ∧ i = .int .i64 k ∧ Hid ((s.data.toList.take k).all p = true)) (fun i => s.size - (intOf i).toNat)
  case atStart => exact ⟨0, Nat.zero_le _, rfl, Lib.hid (by simp)⟩
  case round =>
    obtain ⟨k, hk, rfl, HA⟩ := hrel
    by_cases hlt : k < s.size
    · have HX := HQ.out s[k]
      have hx : s.data.toList[k]? = some s[k] := Lib.data_getElem? s k hlt
      generalize hc : s[k] = c at HX hx
      have HX2 := Lib.hid HX
      have HXX := Lib.hid hx
      cases hpc : p c with
      | true =>
        rw [hpc] at HX2
        have HN : Hid ((s.data.toList.take (k + 1)).all p = true) := Lib.hid (by
          rw [List.take_add_one, hx, List.all_append, HA.out]; simp [hpc])
        clear HX hx HA
        go_wp2_with fail
        refine (HX2.out w).mono ?_
        rintro e w' ⟨rfl, rfl⟩
        go_wp2_with fail
        go_round
        case rel => exact ⟨k + 1, by omega, congrArg _ (wrap_succ' HS.out hlt), HN⟩
        case measure =>
          rw [wrap_succ' HS.out hlt]
          exact intOf_less hlt
      | false =>
        rw [hpc] at HX2
        have HN : Hid (allS s p = false) := Lib.hid (by
          unfold allS
          rw [← Bool.not_eq_true, List.all_eq_true]
          intro h
          rw [h c (List.mem_of_getElem? hx)] at hpc
          cases hpc)
        clear HX hx HA
        go_wp2_with fail
        refine (HX2.out w).mono ?_
        rintro e w' ⟨rfl, rfl⟩
        go_wp2_with fail
        go_ret
        rw [HN.out]
        exact ⟨rfl, rfl⟩
    · obtain rfl : k = s.size := by omega
      have HE : Hid (allS s p = true) := Lib.hid (by
        have := HA.out
        rw [List.take_of_length_le (Nat.le_of_eq (Lib.size_eq s).symm)] at this; exact this)
      go_wp2
      go_ret
      rw [HE.out]
      exact ⟨rfl, rfl⟩
theorem tells_cap : Tells 38 capB := ⟨enters_of Tryz.func38 (by kernel_rfl) rfl, cap_any⟩
theorem tells_vis : Tells 39 visB := ⟨enters_of Tryz.func39 (by kernel_rfl) rfl, vis_any⟩
theorem tells_dig : Tells 46 digB := ⟨enters_of Tryz.func46 (by kernel_rfl) rfl, dig_any⟩
theorem tells_name : Tells 42 nameB := ⟨enters_of Tryz.func42 (by kernel_rfl) rfl, name_any⟩
theorem first_byte {s : ByteArray} {c : UInt8} {l : List UInt8} (h : s.data.toList = c :: l) : 0 < s.size ∧ ∀ h0, s[0]'h0 = c := by
  have h1 : s.size = (c :: l).length := by rw [← h]; exact Lib.size_eq s
  refine ⟨by rw [h1]; simp, fun h0 => ?_⟩
  have := Lib.data_getElem? s 0 h0
  rw [h] at this
  simpa using this.symm
set_option maxHeartbeats 1000000 in
set_option maxRecDepth 100000 in
theorem method_any (s : ByteArray) (hs : s.size ≤ maxLen) (w : World) :
    Calls Tryz.prog 22 #[.string s] w fun e w' => e = .returned (.bool (methodOk s.data.toList)) ∧ w' = w := by
  have HC := Lib.hid (every_any _ _ tells_cap s hs)
  have hm : methodOk s.data.toList = (decide (s.data.toList ≠ []) && decide (s.size ≤ 16) && allS s capB) := by unfold methodOk allS; rw [← Lib.size_eq]
  rw [hm]
  generalize allS s capB = b at HC
  clear hm
  by_cases h0 : s.data.toList = []
  · have hz : s = ⟨#[]⟩ := by
      apply ByteArray.ext
      have : s.data.toList = #[].toList := by simpa using h0
      exact Array.toList_inj.1 this
    subst hz
    go_enter Tryz.func22, Tryz.ntmps22
    go_wp2_with fail
    go_ret
    exact ⟨rfl, rfl⟩
  · have hd : decide (s.data.toList ≠ []) = true := decide_eq_true h0
    have hn : s.toList.isEmpty = false := by
      rw [Go.ByteArray.toList_eq]
      cases h : s.data.toList with
      | nil => exact absurd h h0
      | cons _ _ => rfl
    rw [hd]
    by_cases h16 : (s.size : Int) ≤ 16
    · rw [decide_eq_true (show s.size ≤ 16 by omega)]
      clear h0 hd
      go_enter Tryz.func22, Tryz.ntmps22
      go_wp2_with fail
      refine (HC.out w).mono ?_
      rintro e w' ⟨rfl, rfl⟩
      go_wp2_with fail
      go_ret
      cases b <;> exact ⟨rfl, rfl⟩
    · rw [decide_eq_false (show ¬ s.size ≤ 16 by omega)]
      clear h0 hd
      go_enter Tryz.func22, Tryz.ntmps22
      go_wp2_with fail
      go_ret
      exact ⟨rfl, rfl⟩
theorem empty_of {s : ByteArray} (h : s.data.toList = []) : s = ⟨#[]⟩ := by
  apply ByteArray.ext
  exact Array.toList_inj.1 (by simpa using h)
theorem some_bytes {s : ByteArray} (h : s.data.toList ≠ []) : s.toList.isEmpty = false := by
  rw [Go.ByteArray.toList_eq]
  cases e : s.data.toList with
  | nil => exact absurd e h
  | cons _ _ => rfl
set_option maxHeartbeats 1000000 in
set_option maxRecDepth 100000 in
theorem path_any (s : ByteArray) (hs : s.size ≤ maxLen) (w : World) :
    Calls Tryz.prog 23 #[.string s] w fun e w' => e = .returned (.bool (pathOk s.data.toList)) ∧ w' = w := by
  have HC := Lib.hid (every_any _ _ tells_vis s hs)
  have hm : pathOk s.data.toList = (decide (s.data.toList.head? = some 47) && allS s visB) := rfl
  rw [hm]
  generalize allS s visB = b at HC
  clear hm hs
  cases h0 : s.data.toList with
  | nil =>
    obtain rfl := empty_of h0
    clear h0
    go_enter Tryz.func23, Tryz.ntmps23
    go_wp2_with fail
    go_ret
    exact ⟨rfl, rfl⟩
  | cons c l =>
    have hn : s.toList.isEmpty = false := some_bytes (by rw [h0]; simp)
    obtain ⟨h1, h2⟩ := first_byte h0
    have h3 : (0 : Int) < s.size := by omega
    have h4 := h2 h1
    by_cases hc : c = 47
    · subst hc
      clear h0 h2
      go_enter Tryz.func23, Tryz.ntmps23
      go_wp2_with fail
      refine (HC.out w).mono ?_
      rintro e w' ⟨rfl, rfl⟩
      go_wp2_with fail
      go_ret
      cases b <;> exact ⟨rfl, rfl⟩
    · have hd : decide ((c :: l).head? = some 47) = false := decide_eq_false (by simpa using hc)
      rw [hd]
      have h5 : ((c.toNat : Int) == 47) = false := by
        rw [beq_eq_false_iff_ne]
        intro e
        exact hc (UInt8.toNat_inj.1 (show c.toNat = 47 by omega))
      clear h0 h2 hd
      go_enter Tryz.func23, Tryz.ntmps23
      go_wp2_with fail
      go_ret
      exact ⟨rfl, rfl⟩
end Go.Proofs.YtihcihpndckfjabGreatDoor
