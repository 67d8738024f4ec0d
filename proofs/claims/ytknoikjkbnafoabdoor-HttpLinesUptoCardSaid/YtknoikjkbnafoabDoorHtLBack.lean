/- The walk of the law HttpBack. Conditions: those that each theorem names. -/
import Derived.Test.YtknoikjkbnafoabDoorHtLaid
import Derived.Test.YtknoikjkbnafoabDoorHtBk
namespace Go.Proofs.YtknoikjkbnafoabDoor
set_option linter.unusedVariables false
open Go Go.RowKit Go.Shelf Ht

theorem parse_v (s : ByteArray) (m p b : List UInt8) (e : Int) (h : parse s.data.toList = ((m, p, b), e)) (hs : s.size ≤ 16777215) (hr : readable s.data.toList) (w : World) (G : Gh w) :
    Calls Tryd.prog 8 #[.string s] w fun e' w' => e' = .returned (.tuple #[.agg #[.string (B m), .string (B p), .string (B b)], .int .i64 e]) ∧ Below w.heap.size w w' := by
  have := parse_any s w hs hr G
  unfold parseV reqV at this
  rw [h] at this
  exact this
theorem extract_less (s : ByteArray) : s.extract 0 (s.size - 1) = B s.data.toList.dropLast := by
  rw [Lib.extract_eq]
  have : s.data.toList.dropLast = s.data.toList.take (s.size - 1) := by rw [List.dropLast_eq_take, Lib.size_eq]
  rw [this]
  rfl
set_option maxHeartbeats 2000000 in
set_option maxRecDepth 100000 in
theorem back_no (m p b q : ByteArray) (w : World) (hm : m.size ≤ 1048576) (hp : p.size ≤ 1048576) (hb : b.size ≤ 1048576) (G : Gh w) (he : (write m.data.toList p.data.toList b.data.toList).2 ≠ 0) :
    Calls Tryd.prog 3 #[.agg #[.string m, .string p, .string b], .string q] w fun e w' => e = .returned (.bool true) ∧ Below w.heap.size w w' := by
  have HG := Lib.hid G
  have HW := Lib.hid (fun w G => write_any m p b w (by omega) (by omega) (by omega) G)
  clear G hm hp hb
  obtain ⟨h1, h2⟩ := write_no he
  have hv : writeV m p b = .tuple #[.string ⟨#[]⟩, .int .i64 (write m.data.toList p.data.toList b.data.toList).2] := by unfold writeV; rw [h1]; rfl
  rw [hv] at HW
  clear hv h1 he
  have hs0 := held3_new (.string m) (.string p) (.string b) HG.out
  have HS := Lib.hid hs0
  have c0 := hs0.1
  have c1 := hs0.2.1
  have c2 := hs0.2.2.1
  clear hs0
  rcases h2 with h2 | h2
  all_goals rw [h2] at HW
  all_goals clear h2
  all_goals go_enter Tryd.func3, Tryd.ntmps3
  all_goals go_wp2_with fail
  all_goals refine (HW.out _ HS.out.2.2.2.1).mono ?_
  all_goals rintro e w1 ⟨rfl, g1⟩
  all_goals have H1 := Lib.hid (held3 HS.out g1)
  all_goals clear g1
  all_goals go_wp2_with fail
  all_goals refine (sure_yes _ H1.out.2.2.2.1).mono ?_
  all_goals rintro e w2 ⟨rfl, g2⟩
  all_goals have H2 := Lib.hid (below_then H1.out.2.2.2.2 g2)
  all_goals clear g2
  all_goals go_wp2_with fail
  all_goals go_ret
  all_goals exact ⟨rfl, H2.out⟩
set_option maxHeartbeats 2000000 in
set_option maxRecDepth 100000 in
theorem back_yes (m p b q : ByteArray) (w : World) (hm : m.size ≤ 1048576) (hp : p.size ≤ 1048576) (hb : b.size ≤ 1048576) (hq : q.size ≤ 1048576) (G : Gh w) (he : (write m.data.toList p.data.toList b.data.toList).2 = 0) :
    Calls Tryd.prog 3 #[.agg #[.string m, .string p, .string b], .string q] w fun e w' => e = .returned (.bool true) ∧ Below w.heap.size w w' := by
  have HG := Lib.hid G
  have HW := Lib.hid (fun w G => write_any m p b w (by omega) (by omega) (by omega) G)
  obtain ⟨hm1, hp1, hb1, hl1, hw1⟩ := write_ok he
  obtain ⟨S, hS⟩ : ∃ S, S = B (headW m.data.toList p.data.toList b.data.toList ++ b.data.toList) := ⟨_, rfl⟩
  have hSd : S.data.toList = headW m.data.toList p.data.toList b.data.toList ++ b.data.toList := by rw [hS, B_data]
  have hSz : S.size ≤ 300000 := by rw [Lib.size_eq, hSd, List.length_append]; omega
  have hv : writeV m p b = .tuple #[.string S, .int .i64 0] := by unfold writeV; rw [hw1, he, hS]
  rw [hv] at HW
  have hne : S.data.toList ≠ [] := by rw [hSd]; unfold headW; simp [hend]
  have HP1 : Hid (∀ w, Gh w → Calls Tryd.prog 8 #[.string S] w fun e' w' => e' = .returned (.tuple #[.agg #[.string m, .string p, .string b], .int .i64 0]) ∧ Below w.heap.size w w') :=
    Lib.hid (fun w G => by
      have := parse_v S m.data.toList p.data.toList b.data.toList 0 (by rw [hSd, parse_write hm1 hp1 hb1 hl1, if_pos rfl]) (by omega) (by rw [hSd]; exact read_write hm1 hp1 _) w G
      rwa [B_of, B_of, B_of] at this)
  obtain ⟨h3, h4⟩ := parse_less he
  have HP3 : Hid (∃ x y z : ByteArray, ∀ w, Gh w → Calls Tryd.prog 8 #[.string (S.extract 0 (S.size - 1))] w fun e' w' => e' = .returned (.tuple #[.agg #[.string x, .string y, .string z], .int .i64 40]) ∧ Below w.heap.size w w') := by
    refine Lib.hid ⟨_, _, _, fun w G => parse_v _ (parse S.data.toList.dropLast).1.1 (parse S.data.toList.dropLast).1.2.1 (parse S.data.toList.dropLast).1.2.2 40 ?_ ?_ ?_ w G⟩
    · rw [extract_less, B_data, hSd, ← h3]
    · rw [extract_less, B_size]; simp; omega
    · rw [extract_less, B_data, hSd]; exact h4
  have HP2 : Hid (q.data.toList ≠ [] → ∀ w, Gh w → Calls Tryd.prog 8 #[.string (S ++ q)] w fun e' w' => e' = .returned (.tuple #[.agg #[.string ⟨#[]⟩, .string ⟨#[]⟩, .string ⟨#[]⟩], .int .i64 40]) ∧ Below w.heap.size w w') :=
    Lib.hid (fun hqn w G => by
      have hd : (S ++ q).data.toList = headW m.data.toList p.data.toList b.data.toList ++ (b.data.toList ++ q.data.toList) := by
        rw [ByteArray.data_append]; simp only [Array.toList_append]; rw [hSd]; simp
      have hql := List.length_pos_iff.2 hqn
      exact parse_v (S ++ q) [] [] [] 40 (by rw [hd, parse_write hm1 hp1 hb1 hl1, if_neg (by rw [List.length_append]; omega)]) (by rw [ByteArray.size_append']; omega) (by rw [hd]; exact read_write hm1 hp1 _) w G)
  have hbn := some_bytes hne
  have hS1 : 1 ≤ S.size := by rw [Lib.size_eq]; exact List.length_pos_iff.2 hne
  clear G hm hp hb he hm1 hp1 hb1 hl1 hw1 hS hSd hv hne h3 h4
  have hs0 := held3_new (.string m) (.string p) (.string b) HG.out
  have HS := Lib.hid hs0
  clear hs0
  go_enter Tryd.func3, Tryd.ntmps3
  go_wp2_with fail
  refine (HW.out _ HS.out.2.2.2.1).mono ?_
  rintro e w1 ⟨rfl, g1⟩
  have H1 := Lib.hid (held3 HS.out g1)
  clear g1
  go_wp2_with fail
  refine (HP1.out _ H1.out.2.2.2.1).mono ?_
  rintro e w2 ⟨rfl, g2⟩
  have H2 := Lib.hid (held3 H1.out g2)
  clear g2
  have hs3 := fun o => held3 H2.out (below_alloc w2 o)
  have HS3 := Lib.hid hs3
  have c0 := fun o => (hs3 o).1
  have c1 := fun o => (hs3 o).2.1
  have c2 := fun o => (hs3 o).2.2.1
  have b2 := heap_alloc_new w2 (.cells #[.string m, .string p, .string b] 23)
  clear hs3
  obtain ⟨x, y, z, hP3⟩ := HP3.out
  have HP4 := Lib.hid hP3
  clear hP3 HP3
  by_cases hq0 : q.data.toList = []
  · have qe : q.toList.isEmpty = true := by rw [Go.ByteArray.toList_eq, hq0]; rfl
    clear hq0
    go_wp2_with fail
    refine (HP4.out _ (HS3.out _).2.2.2.1).mono ?_
    rintro e w3 ⟨rfl, g3⟩
    have H3 := Lib.hid (held3 (HS3.out _) g3)
    clear g3
    go_wp2_with fail
    refine (sure_yes _ H3.out.2.2.2.1).mono ?_
    rintro e w4 ⟨rfl, g4⟩
    have H4 := Lib.hid (below_then H3.out.2.2.2.2 g4)
    clear g4
    go_wp2_with fail
    go_ret
    exact ⟨rfl, H4.out⟩
  · have qe := some_bytes hq0
    have HP5 := Lib.hid (HP2.out hq0)
    clear hq0
    go_wp2_with fail
    refine (HP5.out _ (HS3.out _).2.2.2.1).mono ?_
    rintro e w3 ⟨rfl, g3⟩
    have H3 := Lib.hid (held3 (HS3.out _) g3)
    clear g3
    go_wp2_with fail
    refine (HP4.out _ H3.out.2.2.2.1).mono ?_
    rintro e w4 ⟨rfl, g4⟩
    have H4 := Lib.hid (held3 H3.out g4)
    clear g4
    go_wp2_with fail
    refine (sure_yes _ H4.out.2.2.2.1).mono ?_
    rintro e w5 ⟨rfl, g5⟩
    have H5 := Lib.hid (below_then H4.out.2.2.2.2 g5)
    clear g5
    go_wp2_with fail
    go_ret
    exact ⟨rfl, H5.out⟩
theorem back_walk (m p b q : ByteArray) (w : World) (hm : m.size ≤ 1048576) (hp : p.size ≤ 1048576) (hb : b.size ≤ 1048576) (hq : q.size ≤ 1048576) (G : Gh w) :
    Calls Tryd.prog 3 #[.agg #[.string m, .string p, .string b], .string q] w fun e w' => e = .returned (.bool true) ∧ Below w.heap.size w w' := by
  by_cases he : (write m.data.toList p.data.toList b.data.toList).2 = 0
  · exact back_yes m p b q w hm hp hb hq G he
  · exact back_no m p b q w hm hp hb G he
end Go.Proofs.YtknoikjkbnafoabDoor
