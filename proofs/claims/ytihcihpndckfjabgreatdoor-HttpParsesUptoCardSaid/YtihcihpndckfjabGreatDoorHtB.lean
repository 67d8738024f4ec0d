/- http's call bodySize. Conditions: those that each theorem names. -/
import Derived.Test.YtihcihpndckfjabGreatDoorHtCl
import Derived.WalkMore
namespace Go.Proofs.YtihcihpndckfjabGreatDoor
set_option linter.unusedVariables false
open Go Go.RowKit Go.Shelf Ht

theorem trim_len (l cs : List UInt8) : (Lib.trimS l cs).length ≤ l.length := by
  unfold Lib.trimS Lib.trimLeftS Lib.trimRightS
  have h1 := ((l.reverse.dropWhile (cs.contains ·)).reverse.dropWhile_sublist (cs.contains ·)).length_le
  have h2 := (l.reverse.dropWhile_sublist (cs.contains ·)).length_le
  simp only [List.length_reverse] at h1 h2
  omega
theorem line_len (n : List UInt8) : (cutLine n).2.1.length ≤ n.length := by
  unfold cutLine
  exact Nat.le_trans (trim_len _ _) (cut_len n [58]).2
theorem B_list (l : List UInt8) : (B l).toList = l := by rw [Go.ByteArray.toList_eq, B_data]
/-- Where the walk over the lines stands. -/
def SizeR (s : ByteArray) (l : List UInt8) (z : Int) (t : Bool) (w : World) (k : Nat) (wr : World) : Prop :=
  sizeF k z t l = bodySize s.data.toList ∧ l.length < k ∧ k ≤ s.size + 1 ∧ ascN k l ∧ Below w.heap.size w wr
set_option maxHeartbeats 1000000 in
set_option maxRecDepth 100000 in
theorem body_any (s : ByteArray) (w : World) (hs : s.size ≤ 16777215) (ha : ascN (s.size + 1) s.data.toList) (G : Gh w) :
    Calls Tryz.prog 17 #[.string s] w fun e w' => e = .returned (.tuple #[.int .i64 (bodySize s.data.toList).1, .int .i64 (bodySize s.data.toList).2]) ∧ Below w.heap.size w w' := by
  have HA := Lib.hid ha
  have HG := Lib.hid G
  clear ha G
  go_enter Tryz.func17, Tryz.ntmps17
  go_wp2_with fail
  go_step3
  go_wp2_with fail
  go_step3
  go_wp2_with fail
  go_loopg [0, 4, 5] (s.size + 1) (fun k a b c wr => ∃ l z t, a = .string (B l) ∧ b = .int .i64 z ∧ c = .bool t ∧ SizeR s l z t w k wr)
  case atStart => exact ⟨s.data.toList, 0, false, by rw [B_of], rfl, rfl, by unfold bodySize; rw [Lib.size_eq], by rw [Lib.size_eq]; omega, Nat.le_refl _, HA.out, Below.refl _ _⟩
  case round =>
    obtain ⟨l, z, t, rfl, rfl, rfl, hz, hlk, hks, hal, hbw⟩ := hrel
    obtain ⟨m, rfl⟩ : ∃ m, gk = m + 1 := ⟨gk - 1, by omega⟩
    have hGw := HG.out.below hbw
    have hls : (B l).size ≤ 16777215 := by rw [B_size]; omega
    have hc := cut_any (B l) crlf wr hls hGw
    rw [B_data] at hc
    have hlen := cut_len l crlf
    have hlt := cut_rest_lt l crlf (by decide)
    obtain ⟨a1, a2⟩ := hal
    rw [sizeF] at hz
    generalize (Lib.cut l crlf).1 = n at *
    generalize (Lib.cut l crlf).2.1 = r at *
    have HLN : Hid (∀ w, Gh w → Calls Tryz.prog 30 #[.string (B n)] w fun e w' => e = .returned (lineV n) ∧ Below w.heap.size w w') :=
      Lib.hid (fun w G => by have := line_any (B n) w (by rw [B_size] at hls ⊢; omega) (by rw [B_data]; exact a1) G; rwa [B_data] at this)
    have HC := Lib.hid hc
    have HZ := Lib.hid hz
    have HW : Hid (Below w.heap.size w wr) := Lib.hid hbw
    have HGW := Lib.hid hGw
    have HR : Hid ((n ≠ [] → r.length < l.length) ∧ l.length < m + 1 ∧ m + 1 ≤ s.size + 1 ∧ (n ≠ [] → ascN m r)) := Lib.hid ⟨hlt, hlk, hks, a2⟩
    clear hc hz hbw hGw hlt hlk hks a1 a2
    have HVL : Hid ((cutLine n).2.1.length ≤ 16777215) := Lib.hid (by have := line_len n; rw [B_size] at hls; omega)
    clear hls hlen
    have hV : lineV n = .tuple #[.string (B (cutLine n).1), .string (B (cutLine n).2.1), .bool (cutLine n).2.2] := rfl
    rw [hV] at HLN
    clear hV
    generalize (cutLine n).1 = nm at *
    generalize (cutLine n).2.1 = v at *
    generalize (cutLine n).2.2 = ok at *
    go_wp2_with fail
    refine HC.out.mono ?_
    rintro e w1 ⟨rfl, hb1⟩
    have HB1 := Lib.hid (below_then HW.out hb1)
    have HG1 := Lib.hid (HGW.out.below hb1)
    clear hb1
    go_wp2_with fail
    refine (HLN.out _ HG1.out).mono ?_
    rintro e w2 ⟨rfl, hb2⟩
    have HB2 := Lib.hid (below_then HB1.out hb2)
    have HG2 := Lib.hid (HG1.out.below hb2)
    clear hb2
    by_cases hn : n = []
    · have he : B n = ⟨#[]⟩ := B_empty hn
      rw [he]
      have HE : Hid (bodySize s.data.toList = (z, 0)) := Lib.hid (by rw [← HZ.out, if_pos hn])
      clear hn
      go_wp2_with fail
      rw [Exit.noGoto_ret]
      go_ret2
      rw [HE.out]
      exact ⟨rfl, HB2.out⟩
    · have hbn := B_some hn
      have HZ2 := Lib.hid ((if_neg hn).symm.trans HZ.out)
      have HR2 : Hid (r.length < m ∧ m ≤ s.size + 1 ∧ ascN m r) := Lib.hid (by have := HR.out.1 hn; have := HR.out.2.1; have := HR.out.2.2.1; exact ⟨by omega, by omega, HR.out.2.2.2 hn⟩)
      clear HZ
      have q0 := B_list nm
      cases ok with
      | false =>
        have HE : Hid (bodySize s.data.toList = (0, 40)) := Lib.hid (by rw [← HZ2.out, if_pos (.inl rfl)])
        go_wp2_with fail
        rw [Exit.noGoto_ret]
        go_ret2
        rw [HE.out]
        exact ⟨rfl, HB2.out⟩
      | true =>
        by_cases hE : nm = encName
        · have HE : Hid (bodySize s.data.toList = (0, 40)) := Lib.hid (by rw [← HZ2.out, if_pos (.inr (.inl hE))])
          have q1 : ((B nm).toList == [116, 114, 97, 110, 115, 102, 101, 114, 45, 101, 110, 99, 111, 100, 105, 110, 103]) = true := by rw [q0, hE]; rfl
          clear hE q0
          go_wp2_with fail
          rw [Exit.noGoto_ret]
          go_ret2
          rw [HE.out]
          exact ⟨rfl, HB2.out⟩
        · have q1 : ((B nm).toList == [116, 114, 97, 110, 115, 102, 101, 114, 45, 101, 110, 99, 111, 100, 105, 110, 103]) = false := by rw [q0, beq_eq_false_iff_ne]; exact hE
          by_cases hL : nm = lenName
          · have q2 : ((B nm).toList == [99, 111, 110, 116, 101, 110, 116, 45, 108, 101, 110, 103, 116, 104]) = true := by rw [q0, hL]; rfl
            cases t with
            | true =>
              have HE : Hid (bodySize s.data.toList = (0, 40)) := Lib.hid (by rw [← HZ2.out, if_pos (.inr (.inr ⟨hL, rfl⟩))])
              clear hE hL q0
              go_wp2_with fail
              rw [Exit.noGoto_ret]
              go_ret2
              rw [HE.out]
              exact ⟨rfl, HB2.out⟩
            | false =>
              have HZ3 := Lib.hid ((if_pos hL).symm.trans ((if_neg (by rintro (h | h | ⟨-, h⟩) <;> first | exact hE h | cases h)).symm.trans HZ2.out))
              clear hE hL q0 HZ2
              have HLE : Hid (∀ w, Gh w → Calls Tryz.prog 31 #[.string (B v)] w fun e w' => e = .returned (.tuple #[.int .i64 (lengthOf v).1, .int .i64 (lengthOf v).2]) ∧ Below w.heap.size w w') :=
                Lib.hid (fun w G => by have := length_any (B v) w (by rw [B_size]; exact HVL.out) G; rwa [B_data] at this)
              generalize (lengthOf v).1 = z1 at *
              generalize (lengthOf v).2 = e1 at *
              go_wp2_with fail
              refine (HLE.out _ HG2.out).mono ?_
              rintro e w3 ⟨rfl, hb3⟩
              have HB3 := Lib.hid (below_then HB2.out hb3)
              clear hb3
              by_cases he : e1 = 0
              · subst he
                have HZ4 := Lib.hid ((if_neg (by simp)).symm.trans HZ3.out)
                clear HZ3
                go_wp2_with fail
                go_roundg m
                case rel => exact ⟨r, z1, true, rfl, rfl, rfl, HZ4.out, HR2.out.1, HR2.out.2.1, HR2.out.2.2, HB3.out⟩
                case measure => exact Nat.lt_succ_self m
              · have HE : Hid (bodySize s.data.toList = (0, e1)) := Lib.hid (by rw [← HZ3.out, if_pos he])
                have he2 : (e1 == 0) = false := by simpa using he
                clear he HZ3
                go_wp2_with fail
                rw [Exit.noGoto_ret]
                go_ret2
                rw [HE.out]
                exact ⟨rfl, HB3.out⟩
          · have q2 : ((B nm).toList == [99, 111, 110, 116, 101, 110, 116, 45, 108, 101, 110, 103, 116, 104]) = false := by rw [q0, beq_eq_false_iff_ne]; exact hL
            have HZ3 := Lib.hid ((if_neg hL).symm.trans ((if_neg (by rintro (h | h | ⟨h, -⟩) <;> first | exact hE h | exact hL h | cases h)).symm.trans HZ2.out))
            clear hE hL q0 HZ2
            go_wp2_with fail
            go_roundg m
            case rel => exact ⟨r, z, t, rfl, rfl, rfl, HZ3.out, HR2.out.1, HR2.out.2.1, HR2.out.2.2, HB2.out⟩
            case measure => exact Nat.lt_succ_self m
end Go.Proofs.YtihcihpndckfjabGreatDoor
