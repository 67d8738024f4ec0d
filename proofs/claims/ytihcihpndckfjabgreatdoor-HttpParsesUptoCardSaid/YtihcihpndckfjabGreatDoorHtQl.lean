/- The document's own answers' calls first and line. Conditions: those that each theorem names. -/
import Derived.Test.YtihcihpndckfjabGreatDoorHtQc
import Derived.Test.YtihcihpndckfjabGreatDoorHtB
namespace Go.Proofs.YtihcihpndckfjabGreatDoor
set_option linter.unusedVariables false
open Go Go.RowKit Go.Shelf Ht

/-- What line answers. -/
def LineV (l : List UInt8) (t : Bool) (w : World) (e : Ending) (w' : World) : Prop := e = .returned (.tuple #[.int .i64 (lineF l t).1, .int .i64 (lineF l t).2]) ∧ Below w.heap.size w w'
theorem LineV.mk {l : List UInt8} {t : Bool} {w w' : World} {a b : Int} (h : lineF l t = (a, b)) (hb : Below w.heap.size w w') : LineV l t w (.returned (.tuple #[.int .i64 a, .int .i64 b])) w' := by
  unfold LineV; rw [h]; exact ⟨rfl, hb⟩
theorem take_B (s : ByteArray) (a : Nat) (h : a ≤ s.size) : s.extract 0 a = B (s.data.toList.take a) := by
  rw [Lib.extract_eq]
  simp [B]
theorem drop_B (s : ByteArray) (a : Nat) : s.extract a s.size = B (s.data.toList.drop a) := by
  rw [Lib.extract_eq, Lib.size_eq s, List.take_of_length_le (by simp)]
  rfl
theorem mid_B (s : ByteArray) (a b : Nat) : s.extract a b = B ((s.data.toList.take b).drop a) := by
  apply ByteArray.ext
  rw [ByteArray.data_extract]
  apply Array.toList_inj.1
  rw [Array.toList_extract, List.extract_eq_take_drop, List.drop_take]
  simp [B]
set_option maxHeartbeats 2000000 in
set_option maxRecDepth 100000 in
theorem rline_any (s : ByteArray) (t : Bool) (hs : s.size ≤ 16777215) (w : World) :
    Calls Tryz.prog 21 #[.string s, .bool t] w (LineV s.data.toList t w) := by
  have HF : ∀ c : UInt8, Hid (∀ w, Calls Tryz.prog 19 #[.string s, .string ⟨#[c]⟩, .int .i64 0] w fun e w' => e = .returned (.int .i64 (findF s.data.toList [c] 0)) ∧ w' = w) :=
    fun c => Lib.hid (fun w => rfind_any s ⟨#[c]⟩ 0 hs (by show 1 ≤ 100; omega) (by show 0 < 1; omega) (Nat.zero_le _) w)
  have H58 := HF 58
  have H10 := HF 10
  have H13 := HF 13
  have H0 := HF 0
  have HB0 := Lib.hid (Below.refl w.heap.size w)
  clear HF
  rcases find_mem 58 s.data.toList with ⟨h1, -⟩ | ⟨h1, -⟩
  · have HE := Lib.hid (line_none h1 t)
    rw [h1] at H58
    clear h1
    go_enter Tryz.func21, Tryz.ntmps21
    go_wp2_with fail
    refine (H58.out _).mono ?_
    rintro e w1 ⟨rfl, rfl⟩
    go_wp2_with fail
    go_ret2
    exact LineV.mk HE.out HB0.out
  obtain ⟨a, ha⟩ : ∃ a : Nat, findF s.data.toList [58] 0 = a := ⟨(findF s.data.toList [58] 0).toNat, by omega⟩
  have hal := (line_parts ha).1
  rw [← Lib.size_eq] at hal
  have hta := take_B s a (by omega)
  rw [ha] at H58
  have HN : Hid (∀ w, Calls Tryz.prog 33 #[.string (B (s.data.toList.take a))] w fun e w' => e = .returned (.bool (nameOk (s.data.toList.take a))) ∧ w' = w) :=
    Lib.hid (fun w => by have := rname_any (B (s.data.toList.take a)) (by rw [B_size, List.length_take]; omega) w; rwa [B_data] at this)
  have HA := Lib.hid ha
  clear h1 ha
  cases hn : nameOk (s.data.toList.take a) with
  | false =>
    have HE := Lib.hid (line_bad HA.out hn t)
    rw [hn] at HN
    clear hn
    go_enter Tryz.func21, Tryz.ntmps21
    go_wp2_with fail
    refine (H58.out _).mono ?_
    rintro e w1 ⟨rfl, rfl⟩
    go_wp2_with fail
    refine (HN.out _).mono ?_
    rintro e w1 ⟨rfl, rfl⟩
    go_wp2_with fail
    go_ret2
    exact LineV.mk HE.out HB0.out
  | true =>
    rw [hn] at HN
    rcases find_mem 10 s.data.toList with ⟨g10, m10⟩ | ⟨g10, m10⟩
    rotate_left
    · have HE := Lib.hid (line_spoilt HA.out hn m10 (by decide) (by decide) (by decide) t)
      generalize findF s.data.toList [10] 0 = z at H10 g10
      clear hn m10
      go_enter Tryz.func21, Tryz.ntmps21
      go_wp2_with fail
      refine (H58.out _).mono ?_
      rintro e w1 ⟨rfl, rfl⟩
      go_wp2_with fail
      refine (HN.out _).mono ?_
      rintro e w1 ⟨rfl, rfl⟩
      go_wp2_with fail
      refine (H10.out _).mono ?_
      rintro e w1 ⟨rfl, rfl⟩
      go_wp2_with fail
      go_ret2
      exact LineV.mk HE.out HB0.out
    rw [g10] at H10
    rcases find_mem 13 s.data.toList with ⟨g13, m13⟩ | ⟨g13, m13⟩
    rotate_left
    · have HE := Lib.hid (line_spoilt HA.out hn m13 (by decide) (by decide) (by decide) t)
      generalize findF s.data.toList [13] 0 = z at H13 g13
      clear hn m13 m10 g10
      go_enter Tryz.func21, Tryz.ntmps21
      go_wp2_with fail
      refine (H58.out _).mono ?_
      rintro e w1 ⟨rfl, rfl⟩
      go_wp2_with fail
      refine (HN.out _).mono ?_
      rintro e w1 ⟨rfl, rfl⟩
      go_wp2_with fail
      refine (H10.out _).mono ?_
      rintro e w1 ⟨rfl, rfl⟩
      go_wp2_with fail
      refine (H13.out _).mono ?_
      rintro e w1 ⟨rfl, rfl⟩
      go_wp2_with fail
      go_ret2
      exact LineV.mk HE.out HB0.out
    rw [g13] at H13
    rcases find_mem 0 s.data.toList with ⟨g0, m0⟩ | ⟨g0, m0⟩
    rotate_left
    · have HE := Lib.hid (line_spoilt HA.out hn m0 (by decide) (by decide) (by decide) t)
      generalize findF s.data.toList [0] 0 = z at H0 g0
      clear hn m13 m10 m0 g10 g13
      go_enter Tryz.func21, Tryz.ntmps21
      go_wp2_with fail
      refine (H58.out _).mono ?_
      rintro e w1 ⟨rfl, rfl⟩
      go_wp2_with fail
      refine (HN.out _).mono ?_
      rintro e w1 ⟨rfl, rfl⟩
      go_wp2_with fail
      refine (H10.out _).mono ?_
      rintro e w1 ⟨rfl, rfl⟩
      go_wp2_with fail
      refine (H13.out _).mono ?_
      rintro e w1 ⟨rfl, rfl⟩
      go_wp2_with fail
      refine (H0.out _).mono ?_
      rintro e w1 ⟨rfl, rfl⟩
      go_wp2_with fail
      go_ret2
      exact LineV.mk HE.out HB0.out
    rw [g0] at H0
    have HG := Lib.hid (line_good HA.out hn m10 m13 m0 t)
    have hdr := drop_B s (a + 1)
    have HSM : Hid (∀ w, Calls Tryz.prog 34 #[.string (B (s.data.toList.take a))] w fun e w' => e = .returned (.string (B (Lib.toLowerA (s.data.toList.take a)))) ∧ Below w.heap.size w w') :=
      Lib.hid (fun w => by have := rsmall_any (B (s.data.toList.take a)) (by rw [B_size, List.length_take]; omega) w; rwa [B_data] at this)
    have HBA : Hid (∀ w, Calls Tryz.prog 36 #[.string (B (s.data.toList.drop (a + 1)))] w fun e w' => e = .returned (.string (B (Lib.trimS (s.data.toList.drop (a + 1)) [32, 9]))) ∧ w' = w) :=
      Lib.hid (fun w => by have := rbare_any (B (s.data.toList.drop (a + 1))) (by rw [B_size, List.length_drop, ← Lib.size_eq]; omega) w; rwa [B_data] at this)
    have HNU : Hid (∀ w, Calls Tryz.prog 35 #[.string (B (Lib.trimS (s.data.toList.drop (a + 1)) [32, 9]))] w fun e w' => e = .returned (.tuple #[.int .i64 (if numOk (Lib.trimS (s.data.toList.drop (a + 1)) [32, 9]) = true then numF 0 (Lib.trimS (s.data.toList.drop (a + 1)) [32, 9]) else 0 : Nat), .bool (numOk (Lib.trimS (s.data.toList.drop (a + 1)) [32, 9]))]) ∧ w' = w) :=
      Lib.hid (fun w => by
        show Calls _ _ _ _ (NumV (Lib.trimS (s.data.toList.drop (a + 1)) [32, 9]) w)
        have := rnumber_any (B (Lib.trimS (s.data.toList.drop (a + 1)) [32, 9])) (by
          rw [B_size]
          have h1 := trim_len (s.data.toList.drop (a + 1)) [32, 9]
          rw [List.length_drop, ← Lib.size_eq] at h1
          omega) w
        rwa [B_data] at this)
    clear hn m13 m10 m0 g10 g13 g0
    have q0 := B_list (Lib.toLowerA (s.data.toList.take a))
    generalize Lib.toLowerA (s.data.toList.take a) = nm at *
    generalize B (s.data.toList.take a) = ta at *
    generalize B (s.data.toList.drop (a + 1)) = da at *
    generalize Lib.trimS (s.data.toList.drop (a + 1)) [32, 9] = v at *
    have hnf := numF_le v 0 (by omega)
    have HNF := Lib.hid hnf
    clear hnf
    generalize numF 0 v = n at *
    by_cases e1 : nm = encName
    · have HE := Lib.hid (HG.out.trans (if_pos e1))
      have q1 : ((B nm).toList == [116, 114, 97, 110, 115, 102, 101, 114, 45, 101, 110, 99, 111, 100, 105, 110, 103]) = true := by rw [q0, e1]; rfl
      clear e1 q0 HG
      go_enter Tryz.func21, Tryz.ntmps21
      go_wp2_with fail
      refine (H58.out _).mono ?_
      rintro e w1 ⟨rfl, rfl⟩
      go_wp2_with fail
      refine (HN.out _).mono ?_
      rintro e w1 ⟨rfl, rfl⟩
      go_wp2_with fail
      refine (H10.out _).mono ?_
      rintro e w1 ⟨rfl, rfl⟩
      go_wp2_with fail
      refine (H13.out _).mono ?_
      rintro e w1 ⟨rfl, rfl⟩
      go_wp2_with fail
      refine (H0.out _).mono ?_
      rintro e w1 ⟨rfl, rfl⟩
      go_wp2_with fail
      refine (HSM.out _).mono ?_
      rintro e w2 ⟨rfl, hb⟩
      have HB := Lib.hid hb
      clear hb
      go_wp2_with fail
      go_ret2
      exact LineV.mk HE.out HB.out
    have q1 : ((B nm).toList == [116, 114, 97, 110, 115, 102, 101, 114, 45, 101, 110, 99, 111, 100, 105, 110, 103]) = false := by rw [q0, beq_eq_false_iff_ne]; exact e1
    by_cases e2 : nm = lenName
    rotate_left
    · have HE := Lib.hid (HG.out.trans ((if_neg e1).trans (if_neg e2)))
      have q2 : ((B nm).toList == [99, 111, 110, 116, 101, 110, 116, 45, 108, 101, 110, 103, 116, 104]) = false := by rw [q0, beq_eq_false_iff_ne]; exact e2
      clear e1 e2 q0 HG
      go_enter Tryz.func21, Tryz.ntmps21
      go_wp2_with fail
      refine (H58.out _).mono ?_
      rintro e w1 ⟨rfl, rfl⟩
      go_wp2_with fail
      refine (HN.out _).mono ?_
      rintro e w1 ⟨rfl, rfl⟩
      go_wp2_with fail
      refine (H10.out _).mono ?_
      rintro e w1 ⟨rfl, rfl⟩
      go_wp2_with fail
      refine (H13.out _).mono ?_
      rintro e w1 ⟨rfl, rfl⟩
      go_wp2_with fail
      refine (H0.out _).mono ?_
      rintro e w1 ⟨rfl, rfl⟩
      go_wp2_with fail
      refine (HSM.out _).mono ?_
      rintro e w2 ⟨rfl, hb⟩
      have HB := Lib.hid hb
      clear hb
      go_wp2_with fail
      go_ret2
      exact LineV.mk HE.out HB.out
    have q2 : ((B nm).toList == [99, 111, 110, 116, 101, 110, 116, 45, 108, 101, 110, 103, 116, 104]) = true := by rw [q0, e2]; rfl
    have HG2 := Lib.hid (HG.out.trans ((if_neg e1).trans (if_pos e2)))
    clear e1 e2 q0 HG
    generalize numOk v = ok at *
    obtain ⟨z, hz⟩ : ∃ z : Int, ((if ok = true then n else 0 : Nat) : Int) = z := ⟨_, rfl⟩
    rw [hz] at HNU
    have HZ := Lib.hid hz
    clear hz
    cases t with
    | true =>
      have HE := Lib.hid (HG2.out.trans (if_pos rfl))
      clear HG2
      cases ok <;>
      · go_enter Tryz.func21, Tryz.ntmps21
        go_wp2_with fail
        refine (H58.out _).mono ?_
        rintro e w1 ⟨rfl, rfl⟩
        go_wp2_with fail
        refine (HN.out _).mono ?_
        rintro e w1 ⟨rfl, rfl⟩
        go_wp2_with fail
        refine (H10.out _).mono ?_
        rintro e w1 ⟨rfl, rfl⟩
        go_wp2_with fail
        refine (H13.out _).mono ?_
        rintro e w1 ⟨rfl, rfl⟩
        go_wp2_with fail
        refine (H0.out _).mono ?_
        rintro e w1 ⟨rfl, rfl⟩
        go_wp2_with fail
        refine (HSM.out _).mono ?_
        rintro e w2 ⟨rfl, hb⟩
        have HB := Lib.hid hb
        clear hb
        go_wp2_with fail
        refine (HBA.out _).mono ?_
        rintro e w3 ⟨rfl, rfl⟩
        go_wp2_with fail
        refine (HNU.out _).mono ?_
        rintro e w3 ⟨rfl, rfl⟩
        go_wp2_with fail
        go_ret2
        exact LineV.mk HE.out HB.out
    | false =>
      have HG3 := Lib.hid (HG2.out.trans (if_neg (by decide)))
      clear HG2
      have key : (ok = false ∧ lineF s.data.toList false = (-1, 40)) ∨ (ok = true ∧ (262144 : Int) < z ∧ lineF s.data.toList false = (-1, 41)) ∨ (ok = true ∧ ¬ (262144 : Int) < z ∧ lineF s.data.toList false = (z, 0)) := by
        have hz := HZ.out
        cases ok with
        | false => exact .inl ⟨rfl, HG3.out.trans (if_pos rfl)⟩
        | true =>
          rw [if_pos rfl] at hz
          have h3 := HG3.out.trans (if_neg (by decide))
          by_cases hb : 262144 < n
          · rw [if_pos hb] at h3; exact .inr (.inl ⟨rfl, by omega, h3⟩)
          · rw [if_neg hb, hz] at h3; exact .inr (.inr ⟨rfl, by omega, h3⟩)
      clear HG3 HZ
      rcases key with ⟨rfl, he⟩ | ⟨rfl, hz, he⟩ | ⟨rfl, hz, he⟩
      all_goals
        have HE := Lib.hid he
        clear he
        go_enter Tryz.func21, Tryz.ntmps21
        go_wp2_with fail
        refine (H58.out _).mono ?_
        rintro e w1 ⟨rfl, rfl⟩
        go_wp2_with fail
        refine (HN.out _).mono ?_
        rintro e w1 ⟨rfl, rfl⟩
        go_wp2_with fail
        refine (H10.out _).mono ?_
        rintro e w1 ⟨rfl, rfl⟩
        go_wp2_with fail
        refine (H13.out _).mono ?_
        rintro e w1 ⟨rfl, rfl⟩
        go_wp2_with fail
        refine (H0.out _).mono ?_
        rintro e w1 ⟨rfl, rfl⟩
        go_wp2_with fail
        refine (HSM.out _).mono ?_
        rintro e w2 ⟨rfl, hb⟩
        have HB := Lib.hid hb
        clear hb
        go_wp2_with fail
        refine (HBA.out _).mono ?_
        rintro e w3 ⟨rfl, rfl⟩
        go_wp2_with fail
        refine (HNU.out _).mono ?_
        rintro e w3 ⟨rfl, rfl⟩
        go_wp2_with fail
        go_ret2
        exact LineV.mk HE.out HB.out
end Go.Proofs.YtihcihpndckfjabGreatDoor
