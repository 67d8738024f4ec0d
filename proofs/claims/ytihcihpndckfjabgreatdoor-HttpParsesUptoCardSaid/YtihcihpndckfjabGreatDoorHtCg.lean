/- http's call cutLine at any line: also where a name's bytes are beyond ASCII. Conditions: those that each theorem names. -/
import Derived.Test.YtihcihpndckfjabGreatDoorHtGc
namespace Go.Proofs.YtihcihpndckfjabGreatDoor
set_option linter.unusedVariables false
open Go Go.RowKit Go.Shelf Ht

theorem name_asc {b : UInt8} (h : nameB b = true) : b.toNat < 128 := by
  have e2 : (122 : UInt8).toNat = 122 := rfl
  have e4 : (90 : UInt8).toNat = 90 := rfl
  have e6 : (57 : UInt8).toNat = 57 := rfl
  unfold nameB smallB capB digB at h
  simp only [Bool.or_eq_true, Bool.and_eq_true, decide_eq_true_eq, UInt8.le_iff_toNat_le, beq_iff_eq, e2, e4, e6] at h
  rcases h with ((h | h) | h) | h
  · omega
  · omega
  · omega
  · subst h; decide
/-- What cutLine answers of a line: the name counts where it is such a line. -/
def LineSaid (l : List UInt8) (w : World) (e : Ending) (w' : World) : Prop :=
  ∃ x : ByteArray, e = .returned (.tuple #[.string x, .string (B (cutLine l).2.1), .bool (cutLine l).2.2]) ∧ ((cutLine l).2.2 = true → x = B (cutLine l).1) ∧ Below w.heap.size w w'
set_option maxHeartbeats 1000000 in
set_option maxRecDepth 100000 in
theorem line_gen (s : ByteArray) (w : World) (hs : s.size ≤ 16777215) (G : GhC w) :
    Calls Tryz.prog 30 #[.string s] w (LineSaid s.data.toList w) := by
  have HCU := Lib.hid (cut_any s [58] w hs G.gh)
  have hl := cut_len s.data.toList [58]
  rw [← Lib.size_eq] at hl
  have HGC := Lib.hid G
  clear G
  have hV : ∀ (e : Ending) (w' : World), (∃ x : ByteArray, e = .returned (.tuple #[.string x, .string (B (Lib.trimS (Lib.cut s.data.toList [58]).2.1 [32, 9])), .bool ((Lib.cut s.data.toList [58]).2.2 && decide ((Lib.cut s.data.toList [58]).1 ≠ []) && (Lib.cut s.data.toList [58]).1.all nameB && !Lib.containsAny (Lib.cut s.data.toList [58]).2.1 [10, 13, 0])]) ∧ (((Lib.cut s.data.toList [58]).2.2 && decide ((Lib.cut s.data.toList [58]).1 ≠ []) && (Lib.cut s.data.toList [58]).1.all nameB && !Lib.containsAny (Lib.cut s.data.toList [58]).2.1 [10, 13, 0]) = true → x = B (Lib.toLowerA (Lib.cut s.data.toList [58]).1)) ∧ Below w.heap.size w w') → LineSaid s.data.toList w e w' := fun e w' h => h
  have HV := Lib.hid hV
  clear hV
  have hasc : (Lib.cut s.data.toList [58]).1.all nameB = true → asc (Lib.cut s.data.toList [58]).1 := fun h b hb => name_asc (List.all_eq_true.1 h b hb)
  generalize LineSaid s.data.toList w = Q at *
  generalize (Lib.cut s.data.toList [58]).1 = n at *
  generalize (Lib.cut s.data.toList [58]).2.1 = v at *
  generalize (Lib.cut s.data.toList [58]).2.2 = c at *
  have HEV := Lib.hid (every_any _ _ tells_name (B n) (by rw [B_size]; unfold maxLen; omega))
  have hall : allS (B n) nameB = n.all nameB := by unfold allS; rw [B_data]
  rw [hall] at HEV
  have HAN : Hid (∀ w, Calls Tryz.prog 43 #[.string (B v), .string ⟨#[10, 13, 0]⟩] w fun e w' => e = .returned (.bool (Lib.containsAny v [10, 13, 0])) ∧ Below w.heap.size w w') :=
    Lib.hid (fun w => by have := anyc_all (B v) w (by rw [B_size]; omega); rwa [B_data] at this)
  have HLO : Hid (∀ w, GhC w → Calls Tryz.prog 44 #[.string (B n)] w fun e w' => ∃ x, e = .returned (.string x) ∧ (asc n → x = B (Lib.toLowerA n)) ∧ Below w.heap.size w w') :=
    Lib.hid (fun w G => by have := lower_gen (B n) w (by rw [B_size]; omega) G; rwa [B_data] at this)
  have HTR : Hid (∀ w, Calls Tryz.prog 45 #[.string (B v), .string ⟨#[32, 9]⟩] w fun e w' => e = .returned (.string (B (Lib.trimS v [32, 9]))) ∧ Below w.heap.size w w') :=
    Lib.hid (fun w => by have := trim_any (B v) w (by rw [B_size]; omega); rwa [B_data] at this)
  have hne : c = true → n ≠ [] → (B n).toList.isEmpty = false := fun _ h => B_some h
  have HNE := Lib.hid hne
  have HASC := Lib.hid hasc
  clear hl hall hne hasc
  generalize n.all nameB = p at *
  obtain ⟨d, hd⟩ : ∃ d, d = decide (n ≠ []) := ⟨_, rfl⟩
  rw [← hd] at HV
  have HD := Lib.hid hd
  clear hd
  generalize Lib.containsAny v [10, 13, 0] = q at *
  go_enter Tryz.func30, Tryz.ntmps30
  go_wp2_with fail
  refine HCU.out.mono ?_
  rintro e w1 ⟨rfl, hb1⟩
  have HB1 := Lib.hid hb1
  have HG1 := Lib.hid (HGC.out.below hb1)
  clear hb1
  cases c with
  | false =>
    go_wp2_with fail
    refine (HLO.out _ HG1.out).mono ?_
    rintro e w2 ⟨x, rfl, hx, hb2⟩
    have HB2 := Lib.hid hb2
    have HX := Lib.hid hx
    clear hb2 hx
    go_wp2_with fail
    refine (HTR.out _).mono ?_
    rintro e w3 ⟨rfl, hb3⟩
    have HB3 := Lib.hid hb3
    clear hb3
    go_wp2_with fail
    go_ret3
    exact HV.out _ _ ⟨x, rfl, (fun h => by cases h), below_then (below_then HB1.out HB2.out) HB3.out⟩
  | true =>
    cases d with
    | false =>
      have hn : n = [] := by have := HD.out; simpa using this
      have he : B n = ⟨#[]⟩ := B_empty hn
      rw [he] at HLO
      rw [he]
      clear he hn HD HEV
      go_wp2_with fail
      refine (HLO.out _ HG1.out).mono ?_
      rintro e w2 ⟨x, rfl, hx, hb2⟩
      have HB2 := Lib.hid hb2
      have HX := Lib.hid hx
      clear hb2 hx
      go_wp2_with fail
      refine (HTR.out _).mono ?_
      rintro e w3 ⟨rfl, hb3⟩
      have HB3 := Lib.hid hb3
      clear hb3
      go_wp2_with fail
      go_ret3
      exact HV.out _ _ ⟨x, rfl, (fun h => by cases h), below_then (below_then HB1.out HB2.out) HB3.out⟩
    | true =>
      have hbn := HNE.out rfl (by have := HD.out; simpa using this)
      cases p with
      | false =>
        go_wp2_with fail
        refine (HEV.out _).mono ?_
        rintro e w2 ⟨rfl, rfl⟩
        go_wp2_with fail
        refine (HLO.out _ HG1.out).mono ?_
        rintro e w2 ⟨x, rfl, hx, hb2⟩
        have HB2 := Lib.hid hb2
        have HX := Lib.hid hx
        clear hb2 hx
        go_wp2_with fail
        refine (HTR.out _).mono ?_
        rintro e w3 ⟨rfl, hb3⟩
        have HB3 := Lib.hid hb3
        clear hb3
        go_wp2_with fail
        go_ret3
        exact HV.out _ _ ⟨x, rfl, (fun h => by cases h), below_then (below_then HB1.out HB2.out) HB3.out⟩
      | true =>
        go_wp2_with fail
        refine (HEV.out _).mono ?_
        rintro e w2 ⟨rfl, rfl⟩
        go_wp2_with fail
        refine (HAN.out _).mono ?_
        rintro e wa ⟨rfl, hba⟩
        have HBA := Lib.hid hba
        have HGA := Lib.hid (HG1.out.below hba)
        clear hba
        cases q with
        | false =>
          go_wp2_with fail
          refine (HLO.out _ HGA.out).mono ?_
          rintro e w2 ⟨x, rfl, hx, hb2⟩
          have HB2 := Lib.hid hb2
          have HX := Lib.hid hx
          clear hb2 hx
          go_wp2_with fail
          refine (HTR.out _).mono ?_
          rintro e w3 ⟨rfl, hb3⟩
          have HB3 := Lib.hid hb3
          clear hb3
          go_wp2_with fail
          go_ret3
          exact HV.out _ _ ⟨x, rfl, (fun _ => HX.out (HASC.out trivial)), below_then (below_then (below_then HB1.out HBA.out) HB2.out) HB3.out⟩
        | true =>
          go_wp2_with fail
          refine (HLO.out _ HGA.out).mono ?_
          rintro e w2 ⟨x, rfl, hx, hb2⟩
          have HB2 := Lib.hid hb2
          have HX := Lib.hid hx
          clear hb2 hx
          go_wp2_with fail
          refine (HTR.out _).mono ?_
          rintro e w3 ⟨rfl, hb3⟩
          have HB3 := Lib.hid hb3
          clear hb3
          go_wp2_with fail
          go_ret3
          exact HV.out _ _ ⟨x, rfl, (fun h => by cases h), below_then (below_then (below_then HB1.out HBA.out) HB2.out) HB3.out⟩
end Go.Proofs.YtihcihpndckfjabGreatDoor
