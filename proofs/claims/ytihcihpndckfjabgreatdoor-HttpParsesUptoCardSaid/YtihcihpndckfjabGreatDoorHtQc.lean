/- The document's own answers' calls bare, number. Conditions: those that each theorem names. -/
import Derived.Test.YtihcihpndckfjabGreatDoorHtQb
namespace Go.Proofs.YtihcihpndckfjabGreatDoor
set_option linter.unusedVariables false
open Go Go.RowKit Go.Shelf Ht

theorem left_blank {c : UInt8} (l : List UInt8) (h : blankB c = true) : Lib.trimLeftS (c :: l) [32, 9] = Lib.trimLeftS l [32, 9] := by
  unfold Lib.trimLeftS
  rw [List.dropWhile_cons_of_pos (by simpa [blankB] using h)]
theorem left_stop {c : UInt8} (l : List UInt8) (h : blankB c = false) : Lib.trimLeftS (c :: l) [32, 9] = c :: l := by
  unfold Lib.trimLeftS
  rw [List.dropWhile_cons_of_neg (by simpa [blankB] using h)]
theorem right_blank {c : UInt8} (l : List UInt8) (h : blankB c = true) : Lib.trimRightS (l ++ [c]) [32, 9] = Lib.trimRightS l [32, 9] := by
  unfold Lib.trimRightS
  rw [List.reverse_append, List.reverse_singleton, List.singleton_append, List.dropWhile_cons_of_pos (by simpa [blankB] using h)]
theorem right_stop {c : UInt8} (l : List UInt8) (h : blankB c = false) : Lib.trimRightS (l ++ [c]) [32, 9] = l ++ [c] := by
  unfold Lib.trimRightS
  rw [List.reverse_append, List.reverse_singleton, List.singleton_append, List.dropWhile_cons_of_neg (by simpa [blankB] using h)]
  simp
theorem B_last (l : List UInt8) (c : UInt8) : (B (l ++ [c])).size = l.length + 1 ∧ ∀ h, (B (l ++ [c]))[l.length]'h = c := by
  refine ⟨by rw [B_size]; simp, fun h => ?_⟩
  have := Lib.data_getElem? (B (l ++ [c])) l.length h
  rw [B_data] at this
  simpa using this.symm
set_option maxHeartbeats 1000000 in
set_option maxRecDepth 100000 in
theorem rbare_any (s : ByteArray) (hs : s.size ≤ 16777215) (w : World) :
    Calls Tryz.prog 36 #[.string s] w fun e w' => e = .returned (.string (B (Lib.trimS s.data.toList [32, 9]))) ∧ w' = w := by
  obtain ⟨r, hr⟩ : ∃ r, r = Lib.trimS s.data.toList [32, 9] := ⟨_, rfl⟩
  rw [← hr]
  have HRR : Hid (r = Lib.trimRightS (Lib.trimLeftS s.data.toList [32, 9]) [32, 9]) := Lib.hid (by rw [hr]; exact trim_comm _ _)
  clear hr
  go_enter Tryz.func36, Tryz.ntmps36
  go_wp2_with fail
  go_loop [0] (fun a => ∃ l, a = .string (B l) ∧ l.length ≤ s.size ∧ Hid (Lib.trimLeftS l [32, 9] = Lib.trimLeftS s.data.toList [32, 9])) (fun a => strLen a)
  case atStart => exact ⟨s.data.toList, by rw [B_of], by rw [Lib.size_eq]; exact Nat.le_refl _, Lib.hid rfl⟩
  case round =>
    obtain ⟨l, rfl, hl, HA⟩ := hrel
    cases l with
    | nil =>
      have HX : Hid (Lib.trimRightS ([] : List UInt8) [32, 9] = r) := Lib.hid (by rw [HRR.out, ← HA.out]; rfl)
      clear HA
      rw [B_empty rfl]
      go_wp2_with fail
      go_loop [0] (fun a => ∃ l, a = .string (B l) ∧ l.length ≤ s.size ∧ Hid (Lib.trimRightS l [32, 9] = r)) (fun a => strLen a)
      case atStart => exact ⟨[], rfl, Nat.zero_le _, HX⟩
      case round =>
        obtain ⟨l2, rfl, hl2, HA2⟩ := hrel
        rcases List.eq_nil_or_concat l2 with rfl | ⟨l3, c3, rfl⟩
        · have HV : Hid (B r = ⟨#[]⟩) := Lib.hid (by rw [← HA2.out]; rfl)
          clear HA2
          rw [B_empty rfl]
          go_wp2_with fail
          go_ret
          rw [HV.out]
          exact ⟨rfl, rfl⟩
        · rw [List.concat_eq_append] at hl2 HA2 ⊢
          obtain ⟨z1, z2⟩ := B_last l3 c3
          have hn : (B (l3 ++ [c3])).toList.isEmpty = false := B_some (by simp)
          have hd : (B (l3 ++ [c3])).extract 0 l3.length = B l3 := by have := drop_last c3 l3; rwa [z1, Nat.add_sub_cancel] at this
          have hz3 : l3.length ≤ 16777215 := by rw [List.length_append] at hl2; simp at hl2; omega
          generalize hT : B (l3 ++ [c3]) = T at *
          have z3 := z2 (by omega)
          rcases blank_ways c3 with ⟨hb, hc⟩ | ⟨hb, hc⟩ | ⟨hb, hc, hc'⟩
          · have HN : Hid (Lib.trimRightS l3 [32, 9] = r) := Lib.hid (by rw [← HA2.out, right_blank l3 hb])
            have HL : Hid (l3.length ≤ s.size ∧ strLen (.string (B l3)) < strLen (.string T)) := Lib.hid (by
              refine ⟨by rw [List.length_append] at hl2; omega, ?_⟩
              unfold strLen
              simp only [B_size]
              omega)
            clear z2 HA2 hb hl2 hT
            go_wp2_with fail
            go_round
            case rel => exact ⟨l3, rfl, HL.out.1, HN⟩
            case measure => exact HL.out.2
          · have HN : Hid (Lib.trimRightS l3 [32, 9] = r) := Lib.hid (by rw [← HA2.out, right_blank l3 hb])
            have HL : Hid (l3.length ≤ s.size ∧ strLen (.string (B l3)) < strLen (.string T)) := Lib.hid (by
              refine ⟨by rw [List.length_append] at hl2; omega, ?_⟩
              unfold strLen
              simp only [B_size]
              omega)
            clear z2 HA2 hb hl2 hT
            go_wp2_with fail
            go_round
            case rel => exact ⟨l3, rfl, HL.out.1, HN⟩
            case measure => exact HL.out.2
          · have HV : Hid (B r = T) := Lib.hid (by rw [← HA2.out, right_stop l3 hb, hT])
            clear z2 HA2 hb hl2 hT
            go_wp2_with fail
            go_ret
            rw [HV.out]
            exact ⟨rfl, rfl⟩
    | cons c l =>
      obtain ⟨h1, h2⟩ := first_byte (B_data (c :: l))
      have h3 : (0 : Int) < (B (c :: l)).size := by omega
      have h4 := h2 h1
      have hn : (B (c :: l)).toList.isEmpty = false := B_some (by simp)
      have hd := drop_first c l
      have hz : (B (c :: l)).size ≤ 16777216 := by rw [B_size]; omega
      have hme : strLen (.string (B l)) < strLen (.string (B (c :: l))) := by unfold strLen; simp only [B_size, List.length_cons]; omega
      have HME := Lib.hid hme
      clear hme
      rcases blank_ways c with ⟨hb, hc⟩ | ⟨hb, hc⟩ | ⟨hb, hc, hc'⟩
      · have HN : Hid (Lib.trimLeftS l [32, 9] = Lib.trimLeftS s.data.toList [32, 9]) := Lib.hid (by rw [← HA.out, left_blank l hb])
        have HL : Hid (l.length ≤ s.size) := Lib.hid (by simp at hl; omega)
        clear h2 HA hb hl
        generalize B (c :: l) = T at *
        go_wp2_with fail
        go_round
        case rel => exact ⟨l, rfl, HL.out, HN⟩
        case measure => exact HME.out
      · have HN : Hid (Lib.trimLeftS l [32, 9] = Lib.trimLeftS s.data.toList [32, 9]) := Lib.hid (by rw [← HA.out, left_blank l hb])
        have HL : Hid (l.length ≤ s.size) := Lib.hid (by simp at hl; omega)
        clear h2 HA hb hl
        generalize B (c :: l) = T at *
        go_wp2_with fail
        go_round
        case rel => exact ⟨l, rfl, HL.out, HN⟩
        case measure => exact HME.out
      · have HX : Hid (Lib.trimRightS (c :: l) [32, 9] = r) := Lib.hid (by rw [HRR.out, ← HA.out, left_stop l hb])
        have HT : Hid (∃ l', B (c :: l) = B l' ∧ l'.length ≤ s.size ∧ Lib.trimRightS l' [32, 9] = r) := Lib.hid ⟨c :: l, rfl, hl, HX.out⟩
        clear h2 HA hb hl HX
        generalize B (c :: l) = T at *
        go_wp2_with fail
        clear hn hd h4 hc hc' h3 h1 hz HME
        go_loop [0] (fun a => ∃ l, a = .string (B l) ∧ l.length ≤ s.size ∧ Hid (Lib.trimRightS l [32, 9] = r)) (fun a => strLen a)
        case atStart => exact by obtain ⟨l', e1, e2, e3⟩ := HT.out; exact ⟨l', by rw [e1], e2, Lib.hid e3⟩
        case round =>
          obtain ⟨l2, rfl, hl2, HA2⟩ := hrel
          rcases List.eq_nil_or_concat l2 with rfl | ⟨l3, c3, rfl⟩
          · have HV : Hid (B r = ⟨#[]⟩) := Lib.hid (by rw [← HA2.out]; rfl)
            clear HA2
            rw [B_empty rfl]
            go_wp2_with fail
            go_ret
            rw [HV.out]
            exact ⟨rfl, rfl⟩
          · rw [List.concat_eq_append] at hl2 HA2 ⊢
            obtain ⟨z1, z2⟩ := B_last l3 c3
            have hn : (B (l3 ++ [c3])).toList.isEmpty = false := B_some (by simp)
            have hd : (B (l3 ++ [c3])).extract 0 l3.length = B l3 := by have := drop_last c3 l3; rwa [z1, Nat.add_sub_cancel] at this
            have hz3 : l3.length ≤ 16777215 := by rw [List.length_append] at hl2; simp at hl2; omega
            generalize hT : B (l3 ++ [c3]) = T at *
            have z3 := z2 (by omega)
            rcases blank_ways c3 with ⟨hb, hc⟩ | ⟨hb, hc⟩ | ⟨hb, hc, hc'⟩
            · have HN : Hid (Lib.trimRightS l3 [32, 9] = r) := Lib.hid (by rw [← HA2.out, right_blank l3 hb])
              have HL : Hid (l3.length ≤ s.size ∧ strLen (.string (B l3)) < strLen (.string T)) := Lib.hid (by
                refine ⟨by rw [List.length_append] at hl2; omega, ?_⟩
                unfold strLen
                simp only [B_size]
                omega)
              clear z2 HA2 hb hl2 hT
              go_wp2_with fail
              go_round
              case rel => exact ⟨l3, rfl, HL.out.1, HN⟩
              case measure => exact HL.out.2
            · have HN : Hid (Lib.trimRightS l3 [32, 9] = r) := Lib.hid (by rw [← HA2.out, right_blank l3 hb])
              have HL : Hid (l3.length ≤ s.size ∧ strLen (.string (B l3)) < strLen (.string T)) := Lib.hid (by
                refine ⟨by rw [List.length_append] at hl2; omega, ?_⟩
                unfold strLen
                simp only [B_size]
                omega)
              clear z2 HA2 hb hl2 hT
              go_wp2_with fail
              go_round
              case rel => exact ⟨l3, rfl, HL.out.1, HN⟩
              case measure => exact HL.out.2
            · have HV : Hid (B r = T) := Lib.hid (by rw [← HA2.out, right_stop l3 hb, hT])
              clear z2 HA2 hb hl2 hT
              go_wp2_with fail
              go_ret
              rw [HV.out]
              exact ⟨rfl, rfl⟩
theorem numOk_bad {v : List UInt8} (h : v = [] ∨ v.all digB = false ∨ (1 < v.length ∧ v.head? = some 48)) : numOk v = false := by
  unfold numOk
  rcases h with h | h | ⟨h, h'⟩
  · simp [h]
  · simp [h]
  · simp [h, h']
/-- What number answers. -/
def NumV (l : List UInt8) (w : World) (e : Ending) (w' : World) : Prop := e = .returned (.tuple #[.int .i64 (if numOk l = true then numF 0 l else 0 : Nat), .bool (numOk l)]) ∧ w' = w
theorem num_start (s : ByteArray) : Hid ((s.data.toList.take 0).all digB = true ∧ numF 0 (s.data.toList.take 0) = 0) := Lib.hid (by rw [List.take_zero]; exact ⟨rfl, rfl⟩)
theorem NumV.bad {l : List UInt8} {w : World} (h : numOk l = false) : NumV l w (.returned (.tuple #[.int .i64 0, .bool false])) w := by unfold NumV; rw [h]; exact ⟨rfl, rfl⟩
theorem NumV.good {l : List UInt8} {w : World} {n : Nat} (h : numOk l = true ∧ numF 0 l = n) : NumV l w (.returned (.tuple #[.int .i64 n, .bool true])) w := by unfold NumV; rw [h.1, if_pos rfl, h.2]; exact ⟨rfl, rfl⟩
set_option maxHeartbeats 1000000 in
set_option maxRecDepth 100000 in
theorem rnumber_any (s : ByteArray) (hs : s.size ≤ 16777215) (w : World) :
    Calls Tryz.prog 35 #[.string s] w (NumV s.data.toList w) := by
  by_cases h0 : s.data.toList = []
  · have HV := Lib.hid (numOk_bad (.inl h0))
    obtain rfl := empty_of h0
    clear h0
    go_enter Tryz.func35, Tryz.ntmps35
    go_wp2_with fail
    go_ret2
    exact NumV.bad HV.out
  have hn : s.toList.isEmpty = false := some_bytes h0
  obtain ⟨c, l, hcl⟩ : ∃ c l, s.data.toList = c :: l := by
    cases e : s.data.toList with
    | nil => exact absurd e h0
    | cons c l => exact ⟨c, l, rfl⟩
  obtain ⟨h1, h2⟩ := first_byte hcl
  have h3 : (0 : Int) < s.size := by omega
  have h4 := h2 h1
  have hlen : s.data.toList.length = s.size := (Lib.size_eq s).symm
  have H0 := Lib.hid h0
  by_cases hz : 1 < s.size ∧ c = 48
  · have HV := Lib.hid (numOk_bad (.inr (.inr ⟨by rw [hlen]; exact hz.1, by rw [hcl, hz.2]; rfl⟩)))
    obtain ⟨hz1, rfl⟩ := hz
    have hz2 : (1 : Int) < s.size := by omega
    clear h0 hcl h2 hlen
    go_enter Tryz.func35, Tryz.ntmps35
    go_wp2_with fail
    go_ret2
    exact NumV.bad HV.out
  have HZ : Hid (¬ (1 < s.data.toList.length ∧ s.data.toList.head? = some 48)) := Lib.hid (by
    rintro ⟨a, b⟩
    rw [hcl] at b
    exact hz ⟨by omega, by simpa using b⟩)
  have key : ((s.size : Int) ≤ 1) ∨ ((1 : Int) < s.size ∧ ((c.toNat : Int) == 48) = false) := by
    by_cases h5 : (1 : Int) < s.size
    · right
      refine ⟨h5, ?_⟩
      rw [beq_eq_false_iff_ne]
      intro e
      exact hz ⟨by omega, UInt8.toNat_inj.1 (show c.toNat = 48 by omega)⟩
    · left; omega
  clear h0 hcl h2 hlen hz
  rcases key with h5 | ⟨h5, h6⟩
  all_goals
    (try have h7 : ¬ (1 : Int) < s.size := by omega)
    go_enter Tryz.func35, Tryz.ntmps35
    go_wp2_with fail
    clear h5
    (try clear h6)
    (try clear h7)
    clear h4 h1 h3 hn
    go_loop [4, 5] (fun n i => ∃ k m : Nat, k ≤ s.size ∧ m ≤ 262145 ∧ i = .int .i64 k ∧ n = .int .i64 m ∧ Hid ((s.data.toList.take k).all digB = true ∧ numF 0 (s.data.toList.take k) = m)) (fun _ i => s.size - (intOf i).toNat)
    case atStart => exact ⟨0, 0, Nat.zero_le _, Nat.zero_le _, rfl, rfl, num_start s⟩
    case round =>
      obtain ⟨k, m, hk, hm, rfl, rfl, HA⟩ := hrel
      by_cases hlt : k < s.size
      · have hx : s.data.toList[k]? = some s[k] := Lib.data_getElem? s k hlt
        generalize hc : s[k] = x at hx
        have HX := Lib.hid hx
        clear hx
        rcases dig_ways x with ⟨hd, g1, g2⟩ | ⟨hd, g1 | g1⟩
        · obtain ⟨y, hy⟩ : ∃ y : Nat, (x.toNat : Int) = 48 + y := ⟨x.toNat - 48, by omega⟩
          obtain ⟨m2, hm2⟩ : ∃ m2 : Nat, m2 = min (10 * m + y) 262145 := ⟨_, rfl⟩
          have HN : Hid ((s.data.toList.take (k + 1)).all digB = true ∧ numF 0 (s.data.toList.take (k + 1)) = m2) := Lib.hid (by
            refine ⟨all_next HX.out HA.out.1 hd, ?_⟩
            rw [List.take_add_one, HX.out]
            show numF 0 (s.data.toList.take k ++ [x]) = m2
            rw [numF_snoc, HA.out.2, hm2]
            congr 2
            omega)
          have HM : Hid (m2 ≤ 262145) := Lib.hid (by omega)
          have hmin : min (10 * (m : Int) + ((x.toNat : Int) - 48)) 262145 = (m2 : Int) := by omega
          have HMIN := Lib.hid hmin
          clear hmin
          have g3 : (0 : Int) ≤ y := by omega
          have g4 : (y : Int) ≤ 9 := by omega
          have g5 : (m : Int) ≤ 262145 := by omega
          clear HX HA hd hy hm2 hm
          go_wp2_with fail
          go_round
          case rel => exact ⟨k + 1, m2, by omega, HM.out, by go_num, by rw [HMIN.out], HN⟩
          case measure => simp [intOf]; omega
        · have HV : Hid (numOk s.data.toList = false) := Lib.hid (numOk_bad (.inr (.inl (all_no HX.out hd))))
          clear HX HA hd
          go_wp2_with fail
          go_ret2
          exact NumV.bad HV.out
        · have HV : Hid (numOk s.data.toList = false) := Lib.hid (numOk_bad (.inr (.inl (all_no HX.out hd))))
          have g2 : ¬ (x.toNat : Int) < 48 := by omega
          clear HX HA hd
          go_wp2_with fail
          go_ret2
          exact NumV.bad HV.out
      · obtain rfl : k = s.size := by omega
        have hall : s.data.toList.take s.size = s.data.toList := List.take_of_length_le (Nat.le_of_eq (Lib.size_eq s).symm)
        have HV : Hid (numOk s.data.toList = true ∧ numF 0 s.data.toList = m) := Lib.hid (by
          have h := HA.out
          rw [hall] at h
          refine ⟨?_, h.2⟩
          unfold numOk
          rw [h.1, decide_eq_true H0.out]
          have := HZ.out
          by_cases a : 1 < s.data.toList.length
          · rw [decide_eq_false (fun b => this ⟨a, b⟩)]; simp
          · rw [decide_eq_false a]; simp)
        clear HA hall
        go_wp2_with fail
        go_ret2
        exact NumV.good HV.out
end Go.Proofs.YtihcihpndckfjabGreatDoor
