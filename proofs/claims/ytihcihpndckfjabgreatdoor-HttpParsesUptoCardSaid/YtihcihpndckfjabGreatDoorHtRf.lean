/- The document's own answers' calls method, path, Reason. Conditions: those that each theorem names. -/
import Derived.Test.YtihcihpndckfjabGreatDoorHtE
namespace Go.Proofs.YtihcihpndckfjabGreatDoor
set_option linter.unusedVariables false
open Go Go.RowKit Go.Shelf Ht

theorem method_eq (s : ByteArray) : methodOk s.data.toList = (allS s capB && (decide ((1 : Int) ≤ s.size) && decide ((s.size : Int) ≤ 16))) := by
  unfold methodOk allS
  have h1 : decide (s.data.toList ≠ []) = decide ((1 : Int) ≤ s.size) := by
    rw [Lib.size_eq]
    apply decide_eq_decide.2
    rw [← List.length_pos_iff]
    omega
  have h2 : decide (s.data.toList.length ≤ 16) = decide ((s.size : Int) ≤ 16) := by
    rw [Lib.size_eq]
    apply decide_eq_decide.2
    omega
  rw [h1, h2]
  cases s.data.toList.all capB <;> simp
theorem cap_out (c : UInt8) : capB c = false ↔ ((c.toNat : Int) < 65 ∨ (90 : Int) < c.toNat) := by
  rw [← Bool.not_eq_true]
  unfold capB
  simp only [Bool.and_eq_true, decide_eq_true_eq, UInt8.le_iff_toNat_le]
  have e1 : (65 : UInt8).toNat = 65 := rfl
  have e2 : (90 : UInt8).toNat = 90 := rfl
  omega
theorem vis_out (c : UInt8) : visB c = false ↔ ((c.toNat : Int) < 33 ∨ (126 : Int) < c.toNat) := by
  rw [← Bool.not_eq_true]
  unfold visB
  simp only [Bool.and_eq_true, decide_eq_true_eq, UInt8.le_iff_toNat_le]
  have e1 : (33 : UInt8).toNat = 33 := rfl
  have e2 : (126 : UInt8).toNat = 126 := rfl
  omega
theorem all_no {s : ByteArray} {p : UInt8 → Bool} {k : Nat} {c : UInt8} (h : s.data.toList[k]? = some c) (hp : p c = false) : allS s p = false := by
  unfold allS
  rw [← Bool.not_eq_true, List.all_eq_true]
  intro h'
  rw [h' c (List.mem_of_getElem? h)] at hp
  cases hp
theorem all_next {s : ByteArray} {p : UInt8 → Bool} {k : Nat} {c : UInt8} (h : s.data.toList[k]? = some c) (ha : (s.data.toList.take k).all p = true) (hp : p c = true) : (s.data.toList.take (k + 1)).all p = true := by
  rw [List.take_add_one, h, List.all_append, ha]; simp [hp]
theorem all_end {s : ByteArray} {p : UInt8 → Bool} (ha : (s.data.toList.take s.size).all p = true) : allS s p = true := by
  rw [List.take_of_length_le (Nat.le_of_eq (Lib.size_eq s).symm)] at ha; exact ha
theorem path_eq (s : ByteArray) : pathOk s.data.toList = (decide (s.data.toList.head? = some 47) && allS s visB) := rfl
set_option maxHeartbeats 1000000 in
set_option maxRecDepth 100000 in
theorem rmethod_any (s : ByteArray) (hs : s.size ≤ maxLen) (w : World) :
    Calls Tryz.prog 25 #[.string s] w fun e w' => e = .returned (.bool (methodOk s.data.toList)) ∧ w' = w := by
  have HS := Lib.hid hs
  obtain ⟨r, hr⟩ : ∃ r, r = methodOk s.data.toList := ⟨_, rfl⟩
  rw [← hr]
  rw [method_eq] at hr
  have HRR := Lib.hid hr
  clear hs hr
  go_enter Tryz.func25, Tryz.ntmps25
  go_wp2_with fail
  go_loop [3] (fun i => ∃ k : Nat, k ≤ s.size ∧ i = .int .i64 k ∧ Hid ((s.data.toList.take k).all capB = true)) (fun i => s.size - (intOf i).toNat)
  case atStart => exact ⟨0, Nat.zero_le _, rfl, Lib.hid (by simp)⟩
  case round =>
    obtain ⟨k, hk, rfl, HA⟩ := hrel
    by_cases hlt : k < s.size
    · have hx : s.data.toList[k]? = some s[k] := Lib.data_getElem? s k hlt
      generalize hc : s[k] = c at hx
      cases hpc : capB c with
      | true =>
        have HN := Lib.hid (all_next hx HA.out hpc)
        have h1 : ¬ (c.toNat : Int) < 65 := fun h => by rw [(cap_out c).2 (.inl h)] at hpc; cases hpc
        have h2 : ¬ (90 : Int) < c.toNat := fun h => by rw [(cap_out c).2 (.inr h)] at hpc; cases hpc
        clear hx HA hpc
        go_wp2_with fail
        go_round
        case rel => exact ⟨k + 1, by omega, congrArg _ (wrap_succ' HS.out hlt), HN⟩
        case measure =>
          rw [wrap_succ' HS.out hlt]
          exact intOf_less hlt
      | false =>
        have HN : Hid (r = false) := Lib.hid (by rw [HRR.out, all_no hx hpc]; simp)
        have h := (cap_out c).1 hpc
        clear hx HA hpc
        by_cases h1 : (c.toNat : Int) < 65
        · go_wp2_with fail
          go_ret
          rw [HN.out]
          exact ⟨rfl, rfl⟩
        · have h2 : (90 : Int) < c.toNat := by omega
          clear h
          go_wp2_with fail
          go_ret
          rw [HN.out]
          exact ⟨rfl, rfl⟩
    · obtain rfl : k = s.size := by omega
      have HE := Lib.hid (all_end HA.out)
      clear HA
      by_cases h1 : (1 : Int) ≤ s.size
      · by_cases h2 : (s.size : Int) ≤ 16
        · have HV : Hid (r = true) := Lib.hid (by rw [HRR.out, HE.out, decide_eq_true h1, decide_eq_true h2]; rfl)
          go_wp2_with fail
          go_ret
          rw [HV.out]
          exact ⟨rfl, rfl⟩
        · have HV : Hid (r = false) := Lib.hid (by rw [HRR.out, HE.out, decide_eq_false h2]; simp)
          go_wp2_with fail
          go_ret
          rw [HV.out]
          exact ⟨rfl, rfl⟩
      · have HV : Hid (r = false) := Lib.hid (by rw [HRR.out, HE.out, decide_eq_false h1]; rfl)
        go_wp2_with fail
        go_ret
        rw [HV.out]
        exact ⟨rfl, rfl⟩
set_option maxHeartbeats 1000000 in
set_option maxRecDepth 100000 in
theorem rpath_any (s : ByteArray) (hs : s.size ≤ maxLen) (w : World) :
    Calls Tryz.prog 26 #[.string s] w fun e w' => e = .returned (.bool (pathOk s.data.toList)) ∧ w' = w := by
  have HS := Lib.hid hs
  obtain ⟨r, hr⟩ : ∃ r, r = pathOk s.data.toList := ⟨_, rfl⟩
  rw [← hr]
  rw [path_eq] at hr
  have HRR := Lib.hid hr
  clear hs hr
  go_enter Tryz.func26, Tryz.ntmps26
  go_wp2_with fail
  go_loop [3] (fun i => ∃ k : Nat, k ≤ s.size ∧ i = .int .i64 k ∧ Hid ((s.data.toList.take k).all visB = true)) (fun i => s.size - (intOf i).toNat)
  case atStart => exact ⟨0, Nat.zero_le _, rfl, Lib.hid (by simp)⟩
  case round =>
    obtain ⟨k, hk, rfl, HA⟩ := hrel
    by_cases hlt : k < s.size
    · have hx : s.data.toList[k]? = some s[k] := Lib.data_getElem? s k hlt
      generalize hc : s[k] = c at hx
      cases hpc : visB c with
      | true =>
        have HN := Lib.hid (all_next hx HA.out hpc)
        have h1 : ¬ (c.toNat : Int) < 33 := fun h => by rw [(vis_out c).2 (.inl h)] at hpc; cases hpc
        have h2 : ¬ (126 : Int) < c.toNat := fun h => by rw [(vis_out c).2 (.inr h)] at hpc; cases hpc
        clear hx HA hpc
        go_wp2_with fail
        go_round
        case rel => exact ⟨k + 1, by omega, congrArg _ (wrap_succ' HS.out hlt), HN⟩
        case measure =>
          rw [wrap_succ' HS.out hlt]
          exact intOf_less hlt
      | false =>
        have HN : Hid (r = false) := Lib.hid (by rw [HRR.out, all_no hx hpc]; simp)
        have h := (vis_out c).1 hpc
        clear hx HA hpc
        by_cases h1 : (c.toNat : Int) < 33
        · go_wp2_with fail
          go_ret
          rw [HN.out]
          exact ⟨rfl, rfl⟩
        · have h2 : (126 : Int) < c.toNat := by omega
          clear h
          go_wp2_with fail
          go_ret
          rw [HN.out]
          exact ⟨rfl, rfl⟩
    · obtain rfl : k = s.size := by omega
      have HE := Lib.hid (all_end HA.out)
      clear HA
      cases h0 : s.data.toList with
      | nil =>
        have HV : Hid (r = false) := Lib.hid (by rw [HRR.out, h0]; rfl)
        obtain rfl := empty_of h0
        clear h0
        go_wp2_with fail
        go_ret
        rw [HV.out]
        exact ⟨rfl, rfl⟩
      | cons c l =>
        have hn : s.toList.isEmpty = false := some_bytes (by rw [h0]; simp)
        obtain ⟨h1, h2⟩ := first_byte h0
        have h3 : (0 : Int) < s.size := by omega
        have h4 := h2 h1
        by_cases hc : c = 47
        · have HV : Hid (r = true) := Lib.hid (by rw [HRR.out, HE.out, h0, hc]; rfl)
          subst hc
          clear h0 h2
          go_wp2_with fail
          go_ret
          rw [HV.out]
          exact ⟨rfl, rfl⟩
        · have HV : Hid (r = false) := Lib.hid (by rw [HRR.out, h0, decide_eq_false (show ¬ (c :: l).head? = some 47 by simpa using hc)]; rfl)
          have h5 : ((c.toNat : Int) == 47) = false := by
            rw [beq_eq_false_iff_ne]
            intro e
            exact hc (UInt8.toNat_inj.1 (show c.toNat = 47 by omega))
          clear h0 h2
          go_wp2_with fail
          go_ret
          rw [HV.out]
          exact ⟨rfl, rfl⟩
end Go.Proofs.YtihcihpndckfjabGreatDoor
