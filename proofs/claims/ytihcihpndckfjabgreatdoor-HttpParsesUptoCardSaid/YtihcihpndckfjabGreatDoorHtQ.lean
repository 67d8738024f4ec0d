/- The document's own answers' calls find, name, small, bare, number. Conditions: those that each theorem names. -/
import Derived.Test.YtihcihpndckfjabGreatDoorHtCl
import Derived.Test.YtihcihpndckfjabGreatDoorHtRf
import Derived.Test.YtihcihpndckfjabGreatDoorHtQPl
namespace Go.Proofs.YtihcihpndckfjabGreatDoor
set_option linter.unusedVariables false
open Go Go.RowKit Go.Shelf Ht

theorem occ_extract (s t : ByteArray) (k : Nat) (h : k + t.size ≤ s.size) : ((s.extract k (k + t.size)).toList == t.toList) = Lib.occAt s.data.toList t.data.toList k := by
  rw [Lib.occAt_iff_take _ _ _ (by rw [← Lib.size_eq, ← Lib.size_eq]; exact h), Go.ByteArray.toList_eq, Go.ByteArray.toList_eq, ByteArray.data_extract, Array.toList_extract, List.extract_eq_take_drop, Lib.size_eq t, show k + t.data.toList.length - k = t.data.toList.length by omega]
set_option maxHeartbeats 1000000 in
set_option maxRecDepth 100000 in
theorem rfind_any (s t : ByteArray) (k : Nat) (hs : s.size ≤ 16777215) (ht : t.size ≤ 100) (h1 : 0 < t.size) (hk : k ≤ s.size) (w : World) :
    Calls Tryz.prog 19 #[.string s, .string t, .int .i64 k] w fun e w' => e = .returned (.int .i64 (findF s.data.toList t.data.toList k)) ∧ w' = w := by
  obtain ⟨r, hr⟩ : ∃ r, r = findF s.data.toList t.data.toList k := ⟨_, rfl⟩
  rw [← hr]
  have HRR := Lib.hid hr
  have hne : t.data.toList ≠ [] := by rw [← List.length_pos_iff, ← Lib.size_eq]; exact h1
  have HNE := Lib.hid hne
  clear hr hne
  go_enter Tryz.func19, Tryz.ntmps19
  go_wp2_with fail
  go_loop [7] (fun i => ∃ j : Nat, k ≤ j ∧ j ≤ s.size + 1 ∧ i = .int .i64 j ∧ Hid (∀ m, k ≤ m → m < j → Lib.occAt s.data.toList t.data.toList m = false)) (fun i => s.size + 1 - (intOf i).toNat)
  case atStart => exact ⟨k, Nat.le_refl _, by omega, rfl, Lib.hid (fun m h1 h2 => by omega)⟩
  case round =>
    obtain ⟨j, hj, hjs, rfl, HA⟩ := hrel
    by_cases hlt : j + t.size ≤ s.size
    · have hx := occ_extract s t j hlt
      cases ho : Lib.occAt s.data.toList t.data.toList j with
      | true =>
        have HV : Hid (r = j) := Lib.hid (by rw [HRR.out]; exact find_hit hj (by rw [← Lib.size_eq]; omega) ho HA.out)
        rw [ho] at hx
        clear ho HA
        go_wp2_with fail
        go_ret
        rw [HV.out]
        exact ⟨rfl, rfl⟩
      | false =>
        have HN : Hid (∀ m, k ≤ m → m < j + 1 → Lib.occAt s.data.toList t.data.toList m = false) := Lib.hid (fun m a b => by
          by_cases e : m = j
          · rw [e]; exact ho
          · exact HA.out m a (by omega))
        rw [ho] at hx
        clear ho HA
        go_wp2_with fail
        go_round
        case rel => exact ⟨j + 1, by omega, by omega, by go_num, HN⟩
        case measure => simp [intOf]; omega
    · have HV : Hid (r = -1) := Lib.hid (by rw [HRR.out]; exact find_end HNE.out (by rw [← Lib.size_eq, ← Lib.size_eq]; omega) HA.out)
      clear HA
      go_wp2_with fail
      go_ret
      rw [HV.out]
      exact ⟨rfl, rfl⟩
theorem name_cases (c : UInt8) : nameB c = true ∨ nameB c = false := by cases nameB c <;> simp
theorem name_in (c : UInt8) : nameB c = true ↔ ((97 : Int) ≤ c.toNat ∧ (c.toNat : Int) ≤ 122) ∨ ((65 : Int) ≤ c.toNat ∧ (c.toNat : Int) ≤ 90) ∨ ((48 : Int) ≤ c.toNat ∧ (c.toNat : Int) ≤ 57) ∨ (c.toNat : Int) = 45 := by
  unfold nameB smallB capB digB
  have e1 : (97 : UInt8).toNat = 97 := rfl
  have e2 : (122 : UInt8).toNat = 122 := rfl
  have e3 : (65 : UInt8).toNat = 65 := rfl
  have e4 : (90 : UInt8).toNat = 90 := rfl
  have e5 : (48 : UInt8).toNat = 48 := rfl
  have e6 : (57 : UInt8).toNat = 57 := rfl
  have e7 : (c == 45) = decide (c.toNat = 45) := by
    rw [Bool.eq_iff_iff, beq_iff_eq, decide_eq_true_iff, ← UInt8.toNat_inj]; rfl
  rw [e7]
  simp only [Bool.or_eq_true, Bool.and_eq_true, decide_eq_true_eq, UInt8.le_iff_toNat_le, e1, e2, e3, e4, e5, e6]
  omega
/-- Where a byte of a name lies, by the walk's own tests. -/
theorem name_ways (c : UInt8) :
    (nameB c = true ∧ (((97 : Int) ≤ c.toNat ∧ (c.toNat : Int) ≤ 122) ∨ ((c.toNat : Int) < 97 ∧ (65 : Int) ≤ c.toNat ∧ (c.toNat : Int) ≤ 90) ∨ ((c.toNat : Int) < 65 ∧ (48 : Int) ≤ c.toNat ∧ (c.toNat : Int) ≤ 57) ∨ (c.toNat : Int) = 45)) ∨
    (nameB c = false ∧ ((122 : Int) < c.toNat ∨ ((c.toNat : Int) < 97 ∧ (90 : Int) < c.toNat) ∨ ((57 : Int) < c.toNat ∧ (c.toNat : Int) < 65) ∨ ((c.toNat : Int) < 48 ∧ ((c.toNat : Int) == 45) = false))) := by
  have h := name_in c
  rcases name_cases c with e | e
  · left
    rw [e] at h
    refine ⟨e, ?_⟩
    have := h.1 rfl
    omega
  · right
    rw [e] at h
    refine ⟨e, ?_⟩
    have h2 : ¬ (((97 : Int) ≤ c.toNat ∧ (c.toNat : Int) ≤ 122) ∨ ((65 : Int) ≤ c.toNat ∧ (c.toNat : Int) ≤ 90) ∨ ((48 : Int) ≤ c.toNat ∧ (c.toNat : Int) ≤ 57) ∨ (c.toNat : Int) = 45) := fun x => by cases h.2 x
    rw [beq_eq_false_iff_ne]
    omega
set_option maxHeartbeats 1000000 in
set_option maxRecDepth 100000 in
theorem rname_any (s : ByteArray) (hs : s.size ≤ 16777215) (w : World) :
    Calls Tryz.prog 33 #[.string s] w fun e w' => e = .returned (.bool (nameOk s.data.toList)) ∧ w' = w := by
  obtain ⟨r, hr⟩ : ∃ r, r = nameOk s.data.toList := ⟨_, rfl⟩
  rw [← hr]
  have HRR := Lib.hid hr
  clear hr
  go_enter Tryz.func33, Tryz.ntmps33
  go_wp2_with fail
  go_loop [3] (fun i => ∃ k : Nat, k ≤ s.size ∧ i = .int .i64 k ∧ Hid ((s.data.toList.take k).all nameB = true)) (fun i => s.size - (intOf i).toNat)
  case atStart => exact ⟨0, Nat.zero_le _, rfl, Lib.hid (by simp)⟩
  case round =>
    obtain ⟨k, hk, rfl, HA⟩ := hrel
    by_cases hlt : k < s.size
    · have hx : s.data.toList[k]? = some s[k] := Lib.data_getElem? s k hlt
      generalize hc : s[k] = c at hx
      have HX := Lib.hid hx
      clear hx
      rcases name_ways c with ⟨hp, h⟩ | ⟨hp, h⟩
      · have HN := Lib.hid (all_next HX.out HA.out hp)
        clear HX HA hp
        rcases h with ⟨h1, h2⟩ | ⟨h1, h2, h3⟩ | ⟨h1, h2, h3⟩ | h1
        all_goals
          (try have g1 : (c.toNat : Int) < 97 := by omega)
          (try have g2 : (c.toNat : Int) < 65 := by omega)
          (try have g3 : (c.toNat : Int) < 48 := by omega)
          go_wp2_with fail
          go_round
          case rel => exact ⟨k + 1, by omega, by go_num, HN⟩
          case measure => simp [intOf]; omega
      · have HN : Hid (r = false) := Lib.hid (by rw [HRR.out]; unfold nameOk; rw [show s.data.toList.all nameB = false from all_no HX.out hp]; simp)
        clear HX HA hp
        rcases h with h1 | ⟨h1, h2⟩ | ⟨h1, h2⟩ | ⟨h1, h2⟩
        all_goals
          have g0 : ((c.toNat : Int) == 45) = false := by first | assumption | (rw [beq_eq_false_iff_ne]; omega)
          (try have g1 : (c.toNat : Int) < 97 := by omega)
          (try have g2 : (c.toNat : Int) < 65 := by omega)
          (try have g3 : (97 : Int) ≤ c.toNat := by omega)
          (try have g4 : (65 : Int) ≤ c.toNat := by omega)
          (try have g5 : (48 : Int) ≤ c.toNat := by omega)
          (try have g6 : ¬ (c.toNat : Int) ≤ 122 := by omega)
          (try have g7 : ¬ (c.toNat : Int) ≤ 90 := by omega)
          (try have g8 : ¬ (c.toNat : Int) ≤ 57 := by omega)
          go_wp2_with fail
          go_ret
          rw [HN.out]
          exact ⟨rfl, rfl⟩
    · obtain rfl : k = s.size := by omega
      have HE : Hid (s.data.toList.all nameB = true) := Lib.hid (all_end HA.out)
      clear HA
      by_cases h0 : s.data.toList = []
      · have HV : Hid (r = false) := Lib.hid (by rw [HRR.out, h0]; rfl)
        obtain rfl := empty_of h0
        clear h0
        go_wp2_with fail
        go_ret
        rw [HV.out]
        exact ⟨rfl, rfl⟩
      · have HV : Hid (r = true) := Lib.hid (by rw [HRR.out]; unfold nameOk; rw [HE.out, decide_eq_true h0]; rfl)
        have hn : s.toList.isEmpty = false := some_bytes h0
        clear h0
        go_wp2_with fail
        go_ret
        rw [HV.out]
        exact ⟨rfl, rfl⟩
end Go.Proofs.YtihcihpndckfjabGreatDoor
