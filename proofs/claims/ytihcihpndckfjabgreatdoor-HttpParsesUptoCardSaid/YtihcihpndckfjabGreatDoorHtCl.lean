/- http's call cutLine. Conditions: those that each theorem names. -/
import Derived.Test.YtihcihpndckfjabGreatDoorHtL
import Derived.Test.YtihcihpndckfjabGreatDoorHtJ
namespace Go.Proofs.YtihcihpndckfjabGreatDoor
set_option linter.unusedVariables false
open Go Go.RowKit Go.Shelf Ht

theorem B_empty {l : List UInt8} (h : l = []) : B l = ⟨#[]⟩ := by rw [h]; rfl
theorem B_some {l : List UInt8} (h : l ≠ []) : (B l).toList.isEmpty = false := some_bytes (by rwa [B_data])
theorem asc_cut {s sep : List UInt8} (h : asc s) : asc (Lib.cut s sep).1 ∧ asc (Lib.cut s sep).2.1 := by
  unfold Lib.cut
  split
  · exact ⟨fun b hb => h b (List.mem_of_mem_take hb), fun b hb => h b (List.mem_of_mem_drop hb)⟩
  · exact ⟨h, fun b hb => by simp at hb⟩
/-- The lines' names are of ASCII. -/
def ascN : Nat → List UInt8 → Prop
  | 0, _ => True
  | k + 1, l => asc (Lib.cut (Lib.cut l crlf).1 [58]).1 ∧ ((Lib.cut l crlf).1 ≠ [] → ascN k (Lib.cut l crlf).2.1)
theorem asc_ascN (k : Nat) : ∀ {l : List UInt8}, asc l → ascN k l := by
  induction k with
  | zero => exact fun _ => trivial
  | succ k ih =>
    intro l h
    obtain ⟨h1, h2⟩ := asc_cut (sep := crlf) h
    exact ⟨(asc_cut (sep := [58]) h1).1, fun _ => ih h2⟩
/-- What cutLine answers, as a value. -/
def lineV (l : List UInt8) : Value := .tuple #[.string (B (cutLine l).1), .string (B (cutLine l).2.1), .bool (cutLine l).2.2]
set_option maxHeartbeats 1000000 in
set_option maxRecDepth 100000 in
theorem line_any (s : ByteArray) (w : World) (hs : s.size ≤ 16777215) (ha : asc (Lib.cut s.data.toList [58]).1) (G : Gh w) :
    Calls Tryz.prog 30 #[.string s] w fun e w' => e = .returned (lineV s.data.toList) ∧ Below w.heap.size w w' := by
  have HCU := Lib.hid (cut_any s [58] w hs G)
  have hl := cut_len s.data.toList [58]
  rw [← Lib.size_eq] at hl
  have hV : lineV s.data.toList = .tuple #[.string (B (Lib.toLowerA (Lib.cut s.data.toList [58]).1)), .string (B (Lib.trimS (Lib.cut s.data.toList [58]).2.1 [32, 9])), .bool ((Lib.cut s.data.toList [58]).2.2 && decide ((Lib.cut s.data.toList [58]).1 ≠ []) && (Lib.cut s.data.toList [58]).1.all nameB && !Lib.containsAny (Lib.cut s.data.toList [58]).2.1 [10, 13, 0])] := rfl
  rw [hV]
  clear hV G
  generalize (Lib.cut s.data.toList [58]).1 = n at *
  generalize (Lib.cut s.data.toList [58]).2.1 = v at *
  generalize (Lib.cut s.data.toList [58]).2.2 = c at *
  have HEV := Lib.hid (every_any _ _ tells_name (B n) (by rw [B_size]; unfold maxLen; omega))
  have hall : allS (B n) nameB = n.all nameB := by unfold allS; rw [B_data]
  rw [hall] at HEV
  have HAN : Hid (∀ w, Calls Tryz.prog 43 #[.string (B v), .string ⟨#[10, 13, 0]⟩] w fun e w' => e = .returned (.bool (Lib.containsAny v [10, 13, 0])) ∧ Below w.heap.size w w') :=
    Lib.hid (fun w => by have := anyc_all (B v) w (by rw [B_size]; omega); rwa [B_data] at this)
  have HLO : Hid (∀ w, Calls Tryz.prog 44 #[.string (B n)] w fun e w' => e = .returned (.string (B (Lib.toLowerA n))) ∧ Below w.heap.size w w') :=
    Lib.hid (fun w => by have := lower_any (B n) w (by rw [B_size]; omega) (ascS_of (by rwa [B_data])); rwa [B_data] at this)
  have HTR : Hid (∀ w, Calls Tryz.prog 45 #[.string (B v), .string ⟨#[32, 9]⟩] w fun e w' => e = .returned (.string (B (Lib.trimS v [32, 9]))) ∧ Below w.heap.size w w') :=
    Lib.hid (fun w => by have := trim_any (B v) w (by rw [B_size]; omega); rwa [B_data] at this)
  have hne : c = true → n ≠ [] → (B n).toList.isEmpty = false := fun _ h => B_some h
  have HNE := Lib.hid hne
  clear hl ha hall hne
  generalize n.all nameB = p at *
  obtain ⟨d, hd⟩ : ∃ d, d = decide (n ≠ []) := ⟨_, rfl⟩
  rw [← hd]
  have HD := Lib.hid hd
  clear hd
  generalize Lib.containsAny v [10, 13, 0] = q at *
  go_enter Tryz.func30, Tryz.ntmps30
  go_wp2_with fail
  refine HCU.out.mono ?_
  rintro e w1 ⟨rfl, hb1⟩
  have HB1 := Lib.hid hb1
  clear hb1
  cases c with
  | false =>
    go_wp2_with fail
    refine (HLO.out _).mono ?_
    rintro e w2 ⟨rfl, hb2⟩
    have HB2 := Lib.hid hb2
    clear hb2
    go_wp2_with fail
    refine (HTR.out _).mono ?_
    rintro e w3 ⟨rfl, hb3⟩
    have HB3 := Lib.hid hb3
    clear hb3
    go_wp2_with fail
    go_ret3
    exact ⟨rfl, below_then (below_then HB1.out HB2.out) HB3.out⟩
  | true =>
    cases d with
    | false =>
      have hn : n = [] := by have := HD.out; simpa using this
      have he : B n = ⟨#[]⟩ := B_empty hn
      rw [he] at HLO ⊢
      clear he hn HD HEV
      go_wp2_with fail
      refine (HLO.out _).mono ?_
      rintro e w2 ⟨rfl, hb2⟩
      have HB2 := Lib.hid hb2
      clear hb2
      go_wp2_with fail
      refine (HTR.out _).mono ?_
      rintro e w3 ⟨rfl, hb3⟩
      have HB3 := Lib.hid hb3
      clear hb3
      go_wp2_with fail
      go_ret3
      exact ⟨rfl, below_then (below_then HB1.out HB2.out) HB3.out⟩
    | true =>
      have hbn := HNE.out rfl (by have := HD.out; simpa using this)
      cases p with
      | false =>
        go_wp2_with fail
        refine (HEV.out _).mono ?_
        rintro e w2 ⟨rfl, rfl⟩
        go_wp2_with fail
        refine (HLO.out _).mono ?_
        rintro e w2 ⟨rfl, hb2⟩
        have HB2 := Lib.hid hb2
        clear hb2
        go_wp2_with fail
        refine (HTR.out _).mono ?_
        rintro e w3 ⟨rfl, hb3⟩
        have HB3 := Lib.hid hb3
        clear hb3
        go_wp2_with fail
        go_ret3
        exact ⟨rfl, below_then (below_then HB1.out HB2.out) HB3.out⟩
      | true =>
        go_wp2_with fail
        refine (HEV.out _).mono ?_
        rintro e w2 ⟨rfl, rfl⟩
        go_wp2_with fail
        refine (HAN.out _).mono ?_
        rintro e wa ⟨rfl, hba⟩
        have HBA := Lib.hid hba
        clear hba
        cases q with
        | false =>
          go_wp2_with fail
          refine (HLO.out _).mono ?_
          rintro e w2 ⟨rfl, hb2⟩
          have HB2 := Lib.hid hb2
          clear hb2
          go_wp2_with fail
          refine (HTR.out _).mono ?_
          rintro e w3 ⟨rfl, hb3⟩
          have HB3 := Lib.hid hb3
          clear hb3
          go_wp2_with fail
          go_ret3
          exact ⟨rfl, below_then (below_then (below_then HB1.out HBA.out) HB2.out) HB3.out⟩
        | true =>
          go_wp2_with fail
          refine (HLO.out _).mono ?_
          rintro e w2 ⟨rfl, hb2⟩
          have HB2 := Lib.hid hb2
          clear hb2
          go_wp2_with fail
          refine (HTR.out _).mono ?_
          rintro e w3 ⟨rfl, hb3⟩
          have HB3 := Lib.hid hb3
          clear hb3
          go_wp2_with fail
          go_ret3
          exact ⟨rfl, below_then (below_then (below_then HB1.out HBA.out) HB2.out) HB3.out⟩
end Go.Proofs.YtihcihpndckfjabGreatDoor
