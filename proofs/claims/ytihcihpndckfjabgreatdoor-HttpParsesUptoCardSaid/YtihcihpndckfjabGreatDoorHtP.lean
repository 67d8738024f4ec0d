/- http's calls cutFirst and Parse. Conditions: those that each theorem names. -/
import Derived.Test.YtihcihpndckfjabGreatDoorHtB
namespace Go.Proofs.YtihcihpndckfjabGreatDoor
set_option linter.unusedVariables false
open Go Go.RowKit Go.Shelf Ht

/-- What cutFirst answers, as a value. -/
def firstV (l : List UInt8) : Value := .tuple #[.string (B (cutFirst l).1), .string (B (cutFirst l).2.1), .bool (cutFirst l).2.2]
set_option maxHeartbeats 1000000 in
set_option maxRecDepth 100000 in
theorem first_any (s : ByteArray) (w : World) (hs : s.size ≤ 16777215) (G : Gh w) :
    Calls Tryz.prog 16 #[.string s] w fun e w' => e = .returned (firstV s.data.toList) ∧ Below w.heap.size w w' := by
  have HC := Lib.hid (cut_any s [32] w hs G)
  have hl := cut_len s.data.toList [32]
  rw [← Lib.size_eq] at hl
  have hV : firstV s.data.toList = .tuple #[.string (B (Lib.cut s.data.toList [32]).1), .string (B (Lib.cut (Lib.cut s.data.toList [32]).2.1 [32]).1), .bool (methodOk (Lib.cut s.data.toList [32]).1 && pathOk (Lib.cut (Lib.cut s.data.toList [32]).2.1 [32]).1 && decide ((Lib.cut (Lib.cut s.data.toList [32]).2.1 [32]).2.1 = ver))] := rfl
  rw [hV]
  have HG := Lib.hid G
  clear hV G
  generalize (Lib.cut s.data.toList [32]).1 = m at *
  generalize (Lib.cut s.data.toList [32]).2.1 = r at *
  have HC2 : Hid (∀ w, Gh w → Calls Tryz.prog 15 #[.string (B r), .string (B [32])] w fun e w' => e = .returned (.tuple #[.string (B (Lib.cut r [32]).1), .string (B (Lib.cut r [32]).2.1), .bool (Lib.cut r [32]).2.2]) ∧ Below w.heap.size w w') :=
    Lib.hid (fun w G => by have := cut_any (B r) [32] w (by rw [B_size]; omega) G; rwa [B_data] at this)
  have hl2 := cut_len r [32]
  generalize (Lib.cut r [32]).1 = p at *
  generalize (Lib.cut r [32]).2.1 = v at *
  have HM : Hid (∀ w, Calls Tryz.prog 22 #[.string (B m)] w fun e w' => e = .returned (.bool (methodOk m)) ∧ w' = w) :=
    Lib.hid (fun w => by have := method_any (B m) (by rw [B_size]; unfold maxLen; omega) w; rwa [B_data] at this)
  have HP : Hid (∀ w, Calls Tryz.prog 23 #[.string (B p)] w fun e w' => e = .returned (.bool (pathOk p)) ∧ w' = w) :=
    Lib.hid (fun w => by have := path_any (B p) (by rw [B_size]; unfold maxLen; omega) w; rwa [B_data] at this)
  have q0 : ((B v).toList == [72, 84, 84, 80, 47, 49, 46, 49]) = decide (v = ver) := by rw [B_list, Bool.eq_iff_iff, beq_iff_eq, decide_eq_true_iff]; rfl
  generalize methodOk m = b1 at *
  generalize pathOk p = b2 at *
  generalize decide (v = ver) = b3 at *
  clear hl hl2
  go_enter Tryz.func16, Tryz.ntmps16
  go_wp2_with fail
  refine HC.out.mono ?_
  rintro e w1 ⟨rfl, h1⟩
  have HB1 := Lib.hid h1
  have HG1 := Lib.hid (HG.out.below h1)
  clear h1
  go_wp2_with fail
  refine (HC2.out _ HG1.out).mono ?_
  rintro e w2 ⟨rfl, h2⟩
  have HB2 := Lib.hid (below_then HB1.out h2)
  clear h2
  cases b1 with
  | false =>
    go_wp2_with fail
    refine (HM.out _).mono ?_
    rintro e w3 ⟨rfl, rfl⟩
    go_wp2_with fail
    go_ret3
    exact ⟨rfl, HB2.out⟩
  | true =>
    cases b2 with
    | false =>
      go_wp2_with fail
      refine (HM.out _).mono ?_
      rintro e w3 ⟨rfl, rfl⟩
      go_wp2_with fail
      refine (HP.out _).mono ?_
      rintro e w3 ⟨rfl, rfl⟩
      go_wp2_with fail
      go_ret3
      exact ⟨rfl, HB2.out⟩
    | true =>
      go_wp2_with fail
      refine (HM.out _).mono ?_
      rintro e w3 ⟨rfl, rfl⟩
      go_wp2_with fail
      refine (HP.out _).mono ?_
      rintro e w3 ⟨rfl, rfl⟩
      cases b3 <;> go_wp2_with fail
      all_goals go_ret3
      all_goals exact ⟨rfl, HB2.out⟩
end Go.Proofs.YtihcihpndckfjabGreatDoor
