/- The walk of the law HttpLines. Conditions: those that each theorem names. -/
import Derived.Test.YtknoikjkbnafoabDoorHtLnPl
namespace Go.Proofs.YtknoikjkbnafoabDoor
set_option linter.unusedVariables false
open Go Go.RowKit Go.Shelf Ht

theorem let_no {s : ByteArray} {k : Nat} {c : UInt8} (h : s.data.toList[k]? = some c) (hp : letB c = false) : plainOk s.data.toList = false := by
  unfold plainOk
  have : s.data.toList.all letB = false := by
    rw [← Bool.not_eq_true, List.all_eq_true]
    intro h'
    rw [h' c (List.mem_of_getElem? h)] at hp
    cases hp
  rw [this]; simp
theorem let_next {s : ByteArray} {k : Nat} {c : UInt8} (h : s.data.toList[k]? = some c) (ha : (s.data.toList.take k).all letB = true) (hp : letB c = true) : (s.data.toList.take (k + 1)).all letB = true := by
  rw [List.take_add_one, h, List.all_append, ha]; simp [hp]
theorem let_cases (c : UInt8) : ((97 : Int) ≤ c.toNat ∧ (c.toNat : Int) ≤ 122 ∧ letB c = true) ∨ ((122 : Int) < c.toNat ∧ letB c = false) ∨ ((65 : Int) ≤ c.toNat ∧ (c.toNat : Int) ≤ 90 ∧ letB c = true) ∨ ((90 : Int) < c.toNat ∧ (c.toNat : Int) < 97 ∧ letB c = false) ∨ ((c.toNat : Int) < 65 ∧ letB c = false) := by
  have e1 : (97 : UInt8).toNat = 97 := rfl
  have e2 : (122 : UInt8).toNat = 122 := rfl
  have e3 : (65 : UInt8).toNat = 65 := rfl
  have e4 : (90 : UInt8).toNat = 90 := rfl
  have hl : letB c = true ↔ (97 ≤ c.toNat ∧ c.toNat ≤ 122) ∨ (65 ≤ c.toNat ∧ c.toNat ≤ 90) := by
    unfold letB smallB capB
    simp only [Bool.or_eq_true, Bool.and_eq_true, decide_eq_true_eq, UInt8.le_iff_toNat_le, e1, e2, e3, e4]
  have hf : letB c = false ↔ ¬ ((97 ≤ c.toNat ∧ c.toNat ≤ 122) ∨ (65 ≤ c.toNat ∧ c.toNat ≤ 90)) := by rw [← hl]; simp
  rw [hl, hf]
  omega
set_option maxHeartbeats 1000000 in
set_option maxRecDepth 100000 in
theorem plain_any (s : ByteArray) (hs : s.size ≤ 1048576) (w : World) :
    Calls Tryd.prog 9 #[.string s] w fun e w' => e = .returned (.bool (plainOk s.data.toList)) ∧ w' = w := by
  obtain ⟨r, hr⟩ : ∃ r, r = plainOk s.data.toList := ⟨_, rfl⟩
  rw [← hr]
  have HRR := Lib.hid hr
  clear hr
  by_cases h0 : s.data.toList = []
  · have he : s.toList.isEmpty = true := by rw [Go.ByteArray.toList_eq, h0]; rfl
    have HV : Hid (r = false) := Lib.hid (by rw [HRR.out, h0]; rfl)
    clear h0
    go_enter Tryd.func9, Tryd.ntmps9
    go_wp2_with fail
    go_ret
    rw [HV.out]
    exact ⟨rfl, rfl⟩
  · have he := some_bytes h0
    have H0 := Lib.hid h0
    clear h0
    go_enter Tryd.func9, Tryd.ntmps9
    go_wp2_with fail
    go_loop [3] (fun i => ∃ k : Nat, k ≤ s.size ∧ i = .int .i64 k ∧ Hid ((s.data.toList.take k).all letB = true)) (fun i => s.size - (intOf i).toNat)
    case atStart => exact ⟨0, Nat.zero_le _, rfl, Lib.hid (by simp)⟩
    case round =>
      obtain ⟨k, hk, rfl, HA⟩ := hrel
      by_cases hlt : k < s.size
      · have hx : s.data.toList[k]? = some s[k] := Lib.data_getElem? s k hlt
        generalize hc : s[k] = c at hx
        have HX := Lib.hid hx
        clear hx
        rcases let_cases c with ⟨h1, h2, h3⟩ | ⟨h1, h3⟩ | ⟨h1, h2, h3⟩ | ⟨h1, h2, h3⟩ | ⟨h1, h3⟩
        · have HN := Lib.hid (let_next HX.out HA.out h3)
          clear h3 HA
          go_wp2_with fail
          go_round
          case rel => exact ⟨k + 1, by omega, by go_num, HN⟩
          case measure => simp [intOf]; omega
        · have HN : Hid (r = false) := Lib.hid (by rw [HRR.out]; exact let_no HX.out h3)
          have g1 : (97 : Int) ≤ c.toNat := by omega
          have g2 : (65 : Int) ≤ c.toNat := by omega
          have g3 : ¬ (c.toNat : Int) ≤ 90 := by omega
          have g4 : ¬ (c.toNat : Int) ≤ 122 := by omega
          clear h3 HA h1
          go_wp2_with fail
          go_ret
          rw [HN.out]
          exact ⟨rfl, rfl⟩
        · have HN := Lib.hid (let_next HX.out HA.out h3)
          have g1 : (c.toNat : Int) < 97 := by omega
          clear h3 HA
          go_wp2_with fail
          go_round
          case rel => exact ⟨k + 1, by omega, by go_num, HN⟩
          case measure => simp [intOf]; omega
        · have HN : Hid (r = false) := Lib.hid (by rw [HRR.out]; exact let_no HX.out h3)
          have g1 : (65 : Int) ≤ c.toNat := by omega
          have g3 : ¬ (c.toNat : Int) ≤ 90 := by omega
          have g4 : ¬ (97 : Int) ≤ c.toNat := by omega
          clear h3 HA h1 h2
          go_wp2_with fail
          go_ret
          rw [HN.out]
          exact ⟨rfl, rfl⟩
        · have HN : Hid (r = false) := Lib.hid (by rw [HRR.out]; exact let_no HX.out h3)
          have g1 : (c.toNat : Int) < 97 := by omega
          clear h3 HA
          go_wp2_with fail
          go_ret
          rw [HN.out]
          exact ⟨rfl, rfl⟩
      · obtain rfl : k = s.size := by omega
        have hall : s.data.toList.all letB = true := by
          have := HA.out
          rwa [List.take_of_length_le (Nat.le_of_eq (Lib.size_eq s).symm)] at this
        have hlen : decide (s.data.toList.length < 10) = decide ((s.size : Int) < 10) := by
          rw [Lib.size_eq]; apply decide_eq_decide.2; omega
        have HV : Hid (r = decide ((s.size : Int) < 10)) := Lib.hid (by rw [HRR.out]; unfold plainOk; rw [hall, decide_eq_true H0.out, hlen]; simp)
        clear HA hall hlen
        go_wp2_with fail
        go_ret
        rw [HV.out]
        exact ⟨rfl, rfl⟩
end Go.Proofs.YtknoikjkbnafoabDoor
