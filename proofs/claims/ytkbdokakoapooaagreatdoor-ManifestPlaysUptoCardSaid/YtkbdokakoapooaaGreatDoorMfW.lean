/- The document's word and Decode of a manifest. Conditions: those that each theorem names. -/
import Derived.Test.YtkbdokakoapooaaGreatDoorMfS
namespace Go.Proofs.YtkbdokakoapooaaGreatDoor
set_option linter.unusedVariables false
open Go Go.RowKit Go.Shelf Go.Sort
namespace Mf
theorem first_ten : ∀ (l : Bs), (10 : UInt8) ∈ l → ∃ x t, l = x ++ 10 :: t ∧ (10 : UInt8) ∉ x := by
  intro l
  induction l with
  | nil => intro h; cases h
  | cons a l ih =>
    intro hm
    by_cases ha : a = 10
    · exact ⟨[], l, by rw [ha]; rfl, by simp⟩
    · rcases List.mem_cons.1 hm with e | e
      · exact absurd e.symm ha
      · obtain ⟨x, t, h1, h2⟩ := ih e
        refine ⟨a :: x, t, by rw [h1]; rfl, ?_⟩
        rw [List.mem_cons, not_or]
        exact ⟨fun e => ha e.symm, h2⟩
/-- No line's end between the beginning and the k-th byte. -/
def noTen (s : Bs) (b k : Nat) : Prop := ∀ j, b ≤ j → j < k → s[j]? ≠ some 10
theorem wordR_long {s b : Bs} (h : s.length < b.length) : wordR s b = ([], s, false) := by
  refine wordR_miss ?_
  rw [← Bool.not_eq_true, List.isPrefixOf_iff_prefix]
  intro hp
  have := hp.length_le
  omega
theorem wordR_other {s b : Bs} (h : s.take b.length ≠ b) : wordR s b = ([], s, false) := by
  refine wordR_miss ?_
  rw [← Bool.not_eq_true, List.isPrefixOf_iff_prefix, List.prefix_iff_eq_take]
  exact fun e => h e.symm
theorem wordR_at {s b : Bs} (h : s.take b.length = b) {k : Nat} (hk : b.length ≤ k) (h10 : s[k]? = some 10) (hno : noTen s b.length k) : wordR s b = ((s.drop b.length).take (k - b.length), s.drop (k + 1), true) := by
  have hks : k < s.length := (List.getElem?_eq_some_iff.1 h10).1
  have hx : (10 : UInt8) ∉ (s.drop b.length).take (k - b.length) := by
    intro hm
    obtain ⟨i, hi, e⟩ := List.getElem_of_mem hm
    rw [List.length_take, List.length_drop] at hi
    rw [List.getElem_take, List.getElem_drop] at e
    refine hno (b.length + i) (by omega) (by omega) ?_
    rw [List.getElem?_eq_getElem (by omega), e]
  have e : s = b ++ ((s.drop b.length).take (k - b.length) ++ 10 :: s.drop (k + 1)) := by
    conv => lhs; rw [← List.take_append_drop b.length s, h]
    congr 1
    conv => lhs; rw [← List.take_append_drop (k - b.length) (s.drop b.length)]
    congr 1
    rw [List.drop_drop, show b.length + (k - b.length) = k by omega, List.drop_eq_getElem_cons hks]
    rw [List.getElem?_eq_getElem hks] at h10
    injection h10 with h10
    rw [h10]
  conv => lhs; rw [e]
  exact wordR_hit b _ _ hx
theorem wordR_none {s b : Bs} (h : s.take b.length = b) (hno : noTen s b.length s.length) : wordR s b = ([], s, false) := by
  unfold wordR
  rw [if_neg]
  rintro ⟨_, hm⟩
  obtain ⟨i, hi, e⟩ := List.getElem_of_mem hm
  rw [List.length_drop] at hi
  rw [List.getElem_drop] at e
  refine hno (b.length + i) (by omega) (by omega) ?_
  rw [List.getElem?_eq_getElem (by omega), e]
set_option maxHeartbeats 2000000 in
set_option maxRecDepth 100000 in
theorem word_any (s b : ByteArray) (w : World) (hs : s.size ≤ 16777215) (hb : b.size ≤ 16777215) :
    Calls Tryz.prog 115 #[.string s, .string b] w fun e w' => e = .returned (.tuple #[.string (tx (wordR (bl s) (bl b)).1), .string (tx (wordR (bl s) (bl b)).2.1), .bool (wordR (bl s) (bl b)).2.2]) ∧ Below w.heap.size w w' := by
  obtain ⟨R, hR⟩ : ∃ R, R = wordR (bl s) (bl b) := ⟨_, rfl⟩
  rw [← hR]
  have HR := Lib.hid hR
  have HL := Lib.hid (bl_len s)
  have HLB := Lib.hid (bl_len b)
  have HSS : Hid (tx (bl s) = s) := Lib.hid (tx_of s)
  clear hR
  by_cases h1 : (s.size : Int) < (b.size : Int)
  · have HV : Hid (R = ([], bl s, false)) := Lib.hid (by rw [HR.out]; exact wordR_long (by rw [HL.out, HLB.out]; omega))
    go_enter Tryz.func115, Tryz.ntmps115
    go_wp2_with fail
    go_ret3
    rw [HV.out]
    exact ⟨by rw [show tx (([] : Bs), bl s, false).2.1 = s from HSS.out]; rfl, Below.refl _ _⟩
  · have hle : (b.size : Int) ≤ (s.size : Int) := by omega
    have hsz : (s.size : Int) ≤ 9223372036854775807 := by omega
    have hcmp := str_eq (s.extract 0 b.size) b
    have hex : bl (s.extract 0 b.size) = (bl s).take (bl b).length := by
      rw [show bl (s.extract 0 b.size) = (s.extract 0 b.size).data.toList from rfl, ext_any, HLB.out]; simp
    by_cases h2 : (bl s).take (bl b).length = bl b
    · rw [hex, decide_eq_true h2] at hcmp
      have H2 := Lib.hid h2
      clear h1 h2 hex
      go_enter Tryz.func115, Tryz.ntmps115
      go_wp2_with fail
      clear hcmp
      go_loop [7] (fun i => ∃ k : Nat, b.size ≤ k ∧ k ≤ s.size ∧ i = .int .i64 k ∧ Hid (noTen (bl s) (bl b).length k)) (fun i => s.size - (intOf i).toNat)
      case atStart => exact ⟨b.size, Nat.le_refl _, by omega, rfl, Lib.hid (fun j h1 h2 => by rw [HLB.out] at h1; omega)⟩
      case round =>
        obtain ⟨k, hbk, hk, rfl, HA⟩ := hrel
        by_cases hlt : k < s.size
        · have hx : (bl s)[k]? = some s[k] := Lib.data_getElem? s k hlt
          generalize hc : s[k] = c at hx
          have HX := Lib.hid hx
          clear hx
          by_cases h10 : (c.toNat : Int) = 10
          · have hc10 : c = 10 := UInt8.toNat_inj.1 (by have : (10 : UInt8).toNat = 10 := rfl; omega)
            have hb10 : ((c.toNat : Int) == 10) = true := beq_iff_eq.2 h10
            have HV : Hid (R = (((bl s).drop (bl b).length).take (k - (bl b).length), (bl s).drop (k + 1), true)) := Lib.hid (by
              rw [HR.out]
              exact wordR_at H2.out (by rw [HLB.out]; exact hbk) (by rw [HX.out, hc10]) HA.out)
            have HE1 : Hid (s.extract b.size k = tx (((bl s).drop (bl b).length).take (k - (bl b).length))) := Lib.hid (by
              apply by_ext
              rw [ext_any, tx_list, HLB.out])
            have HE2 : Hid (s.extract (k + 1) s.size = tx ((bl s).drop (k + 1))) := Lib.hid (by
              apply by_ext
              rw [ext_any, tx_list]
              refine List.take_of_length_le ?_
              rw [List.length_drop, ln]; exact Nat.le_refl _)
            have hk1 : IntKind.i64.wrap ((k : Int) + 1) = ((k + 1 : Nat) : Int) := by rw [IntKind.wrap_i64]; omega
            have hk2 : wrap64 ((k : Int) + 1) = ((k + 1 : Nat) : Int) := by unfold wrap64; omega
            have hbk' : (b.size : Int) ≤ (k : Int) := by omega
            have hks : ((k + 1 : Nat) : Int) ≤ (s.size : Int) := by omega
            clear h10 hc10
            go_wp2_with fail
            go_quiet (fail)
            go_wp2_with fail
            go_ret3
            rw [HV.out]
            exact ⟨by rw [show tx ((((bl s).drop (bl b).length).take (k - (bl b).length), (bl s).drop (k + 1), true) : Bs × Bs × Bool).1 = s.extract b.size k from HE1.out.symm, show tx ((((bl s).drop (bl b).length).take (k - (bl b).length), (bl s).drop (k + 1), true) : Bs × Bs × Bool).2.1 = s.extract (k + 1) s.size from HE2.out.symm]; rfl, below_drewN _ _⟩
          · have hb10 : ((c.toNat : Int) == 10) = false := beq_eq_false_iff_ne.2 h10
            have HAN : Hid (noTen (bl s) (bl b).length (k + 1)) := Lib.hid (fun j q1 q2 => by
              rcases Nat.lt_or_ge j k with c' | c'
              · exact HA.out j q1 c'
              · have : j = k := by omega
                subst this
                rw [HX.out]
                intro e
                injection e with e
                subst e
                exact h10 rfl)
            clear h10
            go_wp2_with fail
            go_round
            case rel =>
              first
                | exact ⟨k + 1, by omega, by omega, congrArg _ (show (k : Int) + 1 = ((k + 1 : Nat) : Int) by omega), HAN⟩
                | exact ⟨k + 1, by omega, by omega, congrArg _ (show wrap64 ((k : Int) + 1) = ((k + 1 : Nat) : Int) by unfold wrap64; omega), HAN⟩
            case measure =>
              first
                | (simp only [intOf]; omega)
                | (rw [show wrap64 ((k : Int) + 1) = ((k + 1 : Nat) : Int) by unfold wrap64; omega]; exact int_down hlt)
        · obtain rfl : k = s.size := by omega
          have HV : Hid (R = ([], bl s, false)) := Lib.hid (by rw [HR.out]; exact wordR_none H2.out (by rw [HL.out]; exact HA.out))
          go_wp2_with fail
          go_ret3
          rw [HV.out]
          exact ⟨by rw [show tx (([] : Bs), bl s, false).2.1 = s from HSS.out]; rfl, Below.refl _ _⟩
    · rw [hex, decide_eq_false h2] at hcmp
      have HV : Hid (R = ([], bl s, false)) := Lib.hid (by rw [HR.out]; exact wordR_other h2)
      clear h1 h2 hex
      go_enter Tryz.func115, Tryz.ntmps115
      go_wp2_with fail
      go_ret3
      rw [HV.out]
      exact ⟨by rw [show tx (([] : Bs), bl s, false).2.1 = s from HSS.out]; rfl, Below.refl _ _⟩
end Mf
end Go.Proofs.YtkbdokakoapooaaGreatDoor
