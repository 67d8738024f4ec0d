/- http's small calls. Conditions: those that each theorem names. -/
import Derived.Test.YtihcihpndckfjabGreatDoorHtRead
import Derived.Test.YtihcihpndckfjabGreatDoorGr
import Derived.Test.YtihcihpndckfjabGreatDoorShelf
namespace Go.Proofs.YtihcihpndckfjabGreatDoor
set_option linter.unusedVariables false
open Go Go.RowKit Go.Shelf Ht

theorem byte_le (a c : UInt8) : (a ≤ c) ↔ ((a.toNat : Int) ≤ c.toNat) := by rw [UInt8.le_iff_toNat_le]; omega
theorem cap_any (c : UInt8) (w : World) : Calls Tryz.prog 38 #[.int .u8 c.toNat] w fun e w' => e = .returned (.bool (capB c)) ∧ w' = w := by
  have e : capB c = (decide ((65 : Int) ≤ c.toNat) && decide ((c.toNat : Int) ≤ 90)) := by
    unfold capB; rw [decide_eq_decide.2 (byte_le 65 c), decide_eq_decide.2 (byte_le c 90)]; rfl
  rw [e]
  by_cases h1 : (65 : Int) ≤ c.toNat <;> by_cases h2 : (c.toNat : Int) ≤ 90
  all_goals go_enter Tryz.func38, Tryz.ntmps38
  all_goals go_wp2
  all_goals go_ret
  all_goals simp [h1, h2]
theorem dig_any (c : UInt8) (w : World) : Calls Tryz.prog 46 #[.int .u8 c.toNat] w fun e w' => e = .returned (.bool (digB c)) ∧ w' = w := by
  have e : digB c = (decide ((48 : Int) ≤ c.toNat) && decide ((c.toNat : Int) ≤ 57)) := by
    unfold digB; rw [decide_eq_decide.2 (byte_le 48 c), decide_eq_decide.2 (byte_le c 57)]; rfl
  rw [e]
  by_cases h1 : (48 : Int) ≤ c.toNat <;> by_cases h2 : (c.toNat : Int) ≤ 57
  all_goals go_enter Tryz.func46, Tryz.ntmps46
  all_goals go_wp2
  all_goals go_ret
  all_goals simp [h1, h2]
theorem vis_any (c : UInt8) (w : World) : Calls Tryz.prog 39 #[.int .u8 c.toNat] w fun e w' => e = .returned (.bool (visB c)) ∧ w' = w := by
  have e : visB c = (decide ((33 : Int) ≤ c.toNat) && decide ((c.toNat : Int) ≤ 126)) := by
    unfold visB; rw [decide_eq_decide.2 (byte_le 33 c), decide_eq_decide.2 (byte_le c 126)]; rfl
  rw [e]
  by_cases h1 : (33 : Int) ≤ c.toNat <;> by_cases h2 : (c.toNat : Int) ≤ 126
  all_goals go_enter Tryz.func39, Tryz.ntmps39
  all_goals go_wp2
  all_goals go_ret
  all_goals simp [h1, h2]
set_option maxHeartbeats 1000000 in
set_option maxRecDepth 100000 in
theorem name_any (c : UInt8) (w : World) : Calls Tryz.prog 42 #[.int .u8 c.toNat] w fun e w' => e = .returned (.bool (nameB c)) ∧ w' = w := by
  have e1 : smallB c = (decide ((97 : Int) ≤ c.toNat) && decide ((c.toNat : Int) ≤ 122)) := by
    unfold smallB; rw [decide_eq_decide.2 (byte_le 97 c), decide_eq_decide.2 (byte_le c 122)]; rfl
  have e2 : (c == 45) = ((c.toNat : Int) == 45) := by
    rw [Bool.eq_iff_iff, beq_iff_eq, beq_iff_eq]
    constructor
    · rintro rfl; rfl
    · intro h; apply UInt8.toNat_inj.1; show c.toNat = 45; omega
  have e : nameB c = (capB c || (decide ((97 : Int) ≤ c.toNat) && decide ((c.toNat : Int) ≤ 122)) || digB c || ((c.toNat : Int) == 45)) := by unfold nameB; rw [e1, e2]
  have H1 := Lib.hid (cap_any c)
  have H2 := Lib.hid (dig_any c)
  rw [e]
  generalize capB c = p at H1
  generalize digB c = q at H2
  clear e e1 e2
  cases p
  · by_cases h1 : (97 : Int) ≤ c.toNat
    · by_cases h2 : (c.toNat : Int) ≤ 122
      · go_enter Tryz.func42, Tryz.ntmps42
        go_wp2_with fail
        refine (H1.out _).mono ?_
        rintro e w' ⟨rfl, rfl⟩
        go_wp2_with fail
        go_ret
        simp [h1, h2]
      · cases q
        · cases h3 : ((c.toNat : Int) == 45)
          · go_enter Tryz.func42, Tryz.ntmps42
            go_wp2_with fail
            refine (H1.out _).mono ?_
            rintro e w' ⟨rfl, rfl⟩
            go_wp2_with fail
            refine (H2.out _).mono ?_
            rintro e w' ⟨rfl, rfl⟩
            go_wp2_with fail
            go_ret
            simp [h1, h2, h3]
          · go_enter Tryz.func42, Tryz.ntmps42
            go_wp2_with fail
            refine (H1.out _).mono ?_
            rintro e w' ⟨rfl, rfl⟩
            go_wp2_with fail
            refine (H2.out _).mono ?_
            rintro e w' ⟨rfl, rfl⟩
            go_wp2_with fail
            go_ret
            simp [h1, h2, h3]
        · go_enter Tryz.func42, Tryz.ntmps42
          go_wp2_with fail
          refine (H1.out _).mono ?_
          rintro e w' ⟨rfl, rfl⟩
          go_wp2_with fail
          refine (H2.out _).mono ?_
          rintro e w' ⟨rfl, rfl⟩
          go_wp2_with fail
          go_ret
          simp [h1, h2]
    · cases q
      · cases h3 : ((c.toNat : Int) == 45)
        · go_enter Tryz.func42, Tryz.ntmps42
          go_wp2_with fail
          refine (H1.out _).mono ?_
          rintro e w' ⟨rfl, rfl⟩
          go_wp2_with fail
          refine (H2.out _).mono ?_
          rintro e w' ⟨rfl, rfl⟩
          go_wp2_with fail
          go_ret
          simp [show ¬ (97 : Int) ≤ c.toNat by omega, h3]
        · go_enter Tryz.func42, Tryz.ntmps42
          go_wp2_with fail
          refine (H1.out _).mono ?_
          rintro e w' ⟨rfl, rfl⟩
          go_wp2_with fail
          refine (H2.out _).mono ?_
          rintro e w' ⟨rfl, rfl⟩
          go_wp2_with fail
          go_ret
          simp [show ¬ (97 : Int) ≤ c.toNat by omega, h3]
      · go_enter Tryz.func42, Tryz.ntmps42
        go_wp2_with fail
        refine (H1.out _).mono ?_
        rintro e w' ⟨rfl, rfl⟩
        go_wp2_with fail
        refine (H2.out _).mono ?_
        rintro e w' ⟨rfl, rfl⟩
        go_wp2_with fail
        go_ret
        simp [show ¬ (97 : Int) ≤ c.toNat by omega]
  · go_enter Tryz.func42, Tryz.ntmps42
    go_wp2_with fail
    refine (H1.out _).mono ?_
    rintro e w' ⟨rfl, rfl⟩
    go_wp2_with fail
    go_ret
    simp
end Go.Proofs.YtihcihpndckfjabGreatDoor
