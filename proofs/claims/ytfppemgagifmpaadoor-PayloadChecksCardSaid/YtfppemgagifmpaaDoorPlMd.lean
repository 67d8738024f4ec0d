/- The document's Range, Value, shape, May: they tell the program's own. Conditions: those that each theorem names. -/
import Derived.Test.YtfppemgagifmpaaDoorPlNm
import Derived.Test.YtfppemgagifmpaaDoorPlRb
import Derived.Test.YtfppemgagifmpaaDoorPlSr
namespace Go.Proofs.YtfppemgagifmpaaDoor
set_option linter.unusedVariables false
open Go Go.RowKit Go.Shelf Pl
theorem part_ways (n : Int) : (partB n = true ∧ ¬ n < -32768 ∧ ¬ 32767 < n) ∨ (partB n = false ∧ (n < -32768 ∨ (¬ n < -32768 ∧ 32767 < n))) := by
  by_cases h : -32768 ≤ n ∧ n ≤ 32767
  · left; unfold partB; rw [decide_eq_true h.1, decide_eq_true h.2]; exact ⟨rfl, by omega, by omega⟩
  · right
    refine ⟨?_, by omega⟩
    unfold partB
    by_cases c : -32768 ≤ n
    · rw [decide_eq_false (show ¬ n ≤ 32767 from fun d => h ⟨c, d⟩), Bool.and_false]
    · rw [decide_eq_false c, Bool.false_and]
set_option maxHeartbeats 1000000 in
set_option maxRecDepth 100000 in
theorem rrange_any (L : List Int) (v : Value) (w : World) (h : IntsAt w v L) (hl : L.length ≤ maxLen) :
    Calls Tryd.prog 31 #[v] w fun e w' => e = .returned (.bool (L.all partB)) ∧ w' = w := by
  obtain ⟨R, hR⟩ : ∃ R, R = L.all partB := ⟨_, rfl⟩
  rw [← hR]
  have HR := Lib.hid hR
  have HH := Lib.hid h
  obtain ⟨p, c, rfl, _⟩ := h.form
  obtain ⟨n, hn⟩ : ∃ n, n = L.length := ⟨_, rfl⟩
  rw [← hn] at HH hl ⊢
  have HL := Lib.hid hl
  have HN := Lib.hid hn
  clear h hR hl hn
  go_enter Tryd.func31, Tryd.ntmps31
  go_wp2_with fail
  go_loop [3] (fun i => ∃ k : Nat, k ≤ n ∧ i = .int .i64 k ∧ Hid ((L.take k).all partB = true)) (fun i => n - (intOf i).toNat)
  case atStart => exact ⟨0, Nat.zero_le _, rfl, Lib.hid (by simp)⟩
  case round =>
    obtain ⟨k, hk, rfl, HA⟩ := hrel
    by_cases hlt : k < n
    · have hlk : k < L.length := by rw [← HN.out]; exact hlt
      obtain ⟨g, off, rfl, hc⟩ := ints_cell HH.out hlk
      have ca := hc w (Below.refl _ _)
      have VX := Lib.hid (List.getElem?_eq_getElem hlk)
      generalize L[k] = x at ca VX
      clear hc hlk
      rcases part_ways x with ⟨hp, h1, h2⟩ | ⟨hp, h⟩
      · have HX := Lib.hid (all_next' VX.out HA.out hp)
        clear hp HA VX
        go_wp2_with fail
        go_round
        case rel => exact ⟨k + 1, by omega, congrArg _ (wrap_s HL.out hlt), HX⟩
        case measure => rw [wrap_s HL.out hlt]; exact int_less hlt
      · have HX : Hid (R = false) := Lib.hid (by rw [HR.out]; exact all_no' VX.out hp)
        clear hp HA VX
        rcases h with h1 | ⟨h1, h2⟩
        all_goals
          go_wp2_with fail
          go_ret
          rw [HX.out]
          exact ⟨rfl, rfl⟩
    · obtain rfl : k = n := by omega
      have HX : Hid (R = true) := Lib.hid (by rw [HR.out]; have := HA.out; rwa [HN.out, List.take_length] at this)
      go_wp2_with fail
      go_ret
      rw [HX.out]
      exact ⟨rfl, rfl⟩
/-! ### a value -/
theorem val1 (n : Int) (t : Nm) : valB ⟨1, n, t⟩ = (decide (-4503599627370496 ≤ n) && (decide (n ≤ 4503599627370496) && (decide ((t.size : Int) ≤ 0) && Lib.validD t.data.toList))) := rfl
theorem val2 (n : Int) (t : Nm) : valB ⟨2, n, t⟩ = (decide (0 ≤ n) && (decide (n ≤ 0) && (decide ((t.size : Int) ≤ 256) && Lib.validD t.data.toList))) := rfl
theorem val3 (n : Int) (t : Nm) : valB ⟨3, n, t⟩ = (decide (0 ≤ n) && (decide (n ≤ 1) && (decide ((t.size : Int) ≤ 0) && Lib.validD t.data.toList))) := rfl
theorem no_text {t : Nm} : (decide ((t.size : Int) ≤ 0) && Lib.validD t.data.toList) = t.toList.isEmpty := by
  rw [Go.ByteArray.toList_eq]
  have := ln t
  cases h : t.data.toList with
  | nil => rw [h] at this; simp at this; rw [decide_eq_true (by omega)]; rfl
  | cons a r => rw [h] at this; simp at this; rw [decide_eq_false (by omega)]; rfl
set_option maxHeartbeats 1000000 in
set_option maxRecDepth 100000 in
theorem rvalue_any (k n : Int) (t : Nm) (ht : t.size ≤ maxLen) (w : World) :
    Calls Tryd.prog 34 #[.agg #[.int .i64 k, .int .i64 n, .string t]] w fun e w' => e = .returned (.bool (valB ⟨k, n, t⟩)) ∧ Below w.heap.size w w' := by
  obtain ⟨d0, d1, d2⟩ := cells3 w (.int .i64 k) (.int .i64 n) (.string t) 45
  have HB := Lib.hid (fresh_alloc w (.cells #[.int .i64 k, .int .i64 n, .string t] 45))
  have HC := Lib.hid (fun W => runes_any t ht W)
  obtain ⟨R, hR⟩ : ∃ R, R = valB ⟨k, n, t⟩ := ⟨_, rfl⟩
  rw [← hR]
  have HR := Lib.hid hR
  clear hR ht
  by_cases k1 : k = 1
  · subst k1
    have HV := Lib.hid (HR.out.trans (val1 n t))
    rw [no_text] at HV
    clear HR HC
    cases he : t.toList.isEmpty
    · rw [he] at HV
      have HZ : Hid (R = false) := Lib.hid (by rw [HV.out]; simp)
      go_enter Tryd.func34, Tryd.ntmps34
      go_wp2_with fail
      go_ret
      rw [HZ.out]; exact ⟨rfl, HB.out⟩
    · rw [he] at HV
      by_cases h1 : -4503599627370496 ≤ n
      · by_cases h2 : n ≤ 4503599627370496
        · have HZ : Hid (R = true) := Lib.hid (by rw [HV.out, decide_eq_true h1, decide_eq_true h2]; rfl)
          go_enter Tryd.func34, Tryd.ntmps34
          go_wp2_with fail
          go_ret
          rw [HZ.out]; exact ⟨rfl, HB.out⟩
        · have HZ : Hid (R = false) := Lib.hid (by rw [HV.out, decide_eq_false h2]; simp)
          go_enter Tryd.func34, Tryd.ntmps34
          go_wp2_with fail
          go_ret
          rw [HZ.out]; exact ⟨rfl, HB.out⟩
      · have HZ : Hid (R = false) := Lib.hid (by rw [HV.out, decide_eq_false h1]; simp)
        go_enter Tryd.func34, Tryd.ntmps34
        go_wp2_with fail
        go_ret
        rw [HZ.out]; exact ⟨rfl, HB.out⟩
  · have k1' : (k == 1) = false := by simpa using k1
    by_cases k2 : k = 2
    · subst k2
      have HV := Lib.hid (HR.out.trans (val2 n t))
      clear HR
      by_cases h1 : n = 0
      · subst h1
        by_cases h2 : (t.size : Int) ≤ 256
        · have HZ : Hid (R = Lib.validD t.data.toList) := Lib.hid (by rw [HV.out, decide_eq_true h2]; simp)
          generalize Lib.validD t.data.toList = vd at HC HZ
          clear HV
          go_enter Tryd.func34, Tryd.ntmps34
          go_wp2_with fail
          refine (HC.out _).mono ?_
          rintro e w2 ⟨rfl, rfl⟩
          go_wp2_with fail
          go_ret
          rw [HZ.out]; exact ⟨rfl, HB.out⟩
        · have HZ : Hid (R = false) := Lib.hid (by rw [HV.out, decide_eq_false h2]; simp)
          clear HC HV
          go_enter Tryd.func34, Tryd.ntmps34
          go_wp2_with fail
          go_ret
          rw [HZ.out]; exact ⟨rfl, HB.out⟩
      · have h1' : (n == 0) = false := by simpa using h1
        have HZ : Hid (R = false) := Lib.hid (by
          rw [HV.out]
          by_cases c : 0 ≤ n
          · rw [decide_eq_false (show ¬ n ≤ 0 by omega)]; simp
          · rw [decide_eq_false c]; rfl)
        clear HC HV
        go_enter Tryd.func34, Tryd.ntmps34
        go_wp2_with fail
        go_ret
        rw [HZ.out]; exact ⟨rfl, HB.out⟩
    · have k2' : (k == 2) = false := by simpa using k2
      clear HC
      by_cases k3 : k = 3
      · subst k3
        have HV := Lib.hid (HR.out.trans (val3 n t))
        rw [no_text] at HV
        clear HR
        cases he : t.toList.isEmpty
        · rw [he] at HV
          have HZ : Hid (R = false) := Lib.hid (by rw [HV.out]; simp)
          go_enter Tryd.func34, Tryd.ntmps34
          go_wp2_with fail
          go_ret
          rw [HZ.out]; exact ⟨rfl, HB.out⟩
        · rw [he] at HV
          by_cases h1 : n = 0
          · subst h1
            have HZ : Hid (R = true) := Lib.hid (by rw [HV.out]; rfl)
            go_enter Tryd.func34, Tryd.ntmps34
            go_wp2_with fail
            go_ret
            rw [HZ.out]; exact ⟨rfl, HB.out⟩
          · have h1' : (n == 0) = false := by simpa using h1
            by_cases h2 : n = 1
            · subst h2
              have HZ : Hid (R = true) := Lib.hid (by rw [HV.out]; rfl)
              go_enter Tryd.func34, Tryd.ntmps34
              go_wp2_with fail
              go_ret
              rw [HZ.out]; exact ⟨rfl, HB.out⟩
            · have h2' : (n == 1) = false := by simpa using h2
              have HZ : Hid (R = false) := Lib.hid (by
                rw [HV.out]
                by_cases c : 0 ≤ n
                · rw [decide_eq_false (show ¬ n ≤ 1 by omega)]; simp
                · rw [decide_eq_false c]; rfl)
              go_enter Tryd.func34, Tryd.ntmps34
              go_wp2_with fail
              go_ret
              rw [HZ.out]; exact ⟨rfl, HB.out⟩
      · have k3' : (k == 3) = false := by simpa using k3
        have HZ : Hid (R = false) := Lib.hid (by
          rw [HR.out]
          unfold valB
          rw [if_neg (by show ¬ (1 ≤ k ∧ k < 4); omega)])
        clear HR
        go_enter Tryd.func34, Tryd.ntmps34
        go_wp2_with fail
        go_ret
        rw [HZ.out]; exact ⟨rfl, HB.out⟩
end Go.Proofs.YtfppemgagifmpaaDoor
