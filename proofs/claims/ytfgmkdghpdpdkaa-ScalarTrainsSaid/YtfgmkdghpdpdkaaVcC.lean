/- vector's Check, L2, Dot, Cos, Score at any rows. Conditions: those that each theorem names. -/
import Derived.Test.YtfgmkdghpdpdkaaVcB
import Derived.WalkSmall
namespace Go.Proofs.Ytfgmkdghpdpdkaa
set_option linter.unusedVariables false
open Go Go.RowKit Vc
/-- Check's answer. -/
def chk (L : List Int) (dim metric : Int) : Int := if (L.length : Int) = dim ∧ vecB L = true ∧ metB metric = true ∧ ¬ (metric = 3 ∧ zeroL L = true) then 0 else 60
theorem chk_no {L : List Int} {d m : Int} (h : ¬ ((L.length : Int) = d ∧ vecB L = true ∧ metB m = true ∧ ¬ (m = 3 ∧ zeroL L = true))) : chk L d m = 60 := if_neg h
theorem chk_yes {L : List Int} {d m : Int} (h : (L.length : Int) = d ∧ vecB L = true ∧ metB m = true ∧ ¬ (m = 3 ∧ zeroL L = true)) : chk L d m = 0 := if_pos h
set_option maxHeartbeats 1000000 in
theorem check_any (L : List Int) (v : Value) (d m : Int) (w : World) (h : IntsAt w v L) (hl : L.length ≤ maxLen) :
    Calls Try.prog 37 #[v, .int .i64 d, .int .i64 m] w fun e w' => e = .returned (.int .i64 (chk L d m)) ∧ w' = w := by
  have HV := Lib.hid (isVector_any L v w h hl)
  have HZ := Lib.hid (isZero_any L v w h hl)
  have HM := Lib.hid (metric_any m w)
  have hno := fun h => @chk_no L d m h
  have hyes := fun h => @chk_yes L d m h
  obtain ⟨p, c, rfl⟩ := h.form
  clear h hl
  generalize chk L d m = r at *
  generalize vecB L = x at *
  generalize zeroL L = z at *
  generalize metB m = y at *
  generalize L.length = n at *
  have HN := Lib.hid hno
  have HY := Lib.hid hyes
  clear hno hyes
  by_cases h1 : (n : Int) = d
  · subst h1
    cases x with
    | false =>
      obtain rfl := HN.out (by simp)
      go_enter Try.func37, Try.ntmps37
      go_wp2_with (first
        | (go_at_call 50; refine HV.out.mono ?_; rintro e w' ⟨rfl, rfl⟩))
      go_ret
      exact ⟨rfl, rfl⟩
    | true =>
      cases y with
      | false =>
        obtain rfl := HN.out (by simp)
        go_enter Try.func37, Try.ntmps37
        go_wp2_with (first
          | (go_at_call 50; refine HV.out.mono ?_; rintro e w' ⟨rfl, rfl⟩)
          | (go_at_call 51; refine HM.out.mono ?_; rintro e w' ⟨rfl, rfl⟩))
        go_ret
        exact ⟨rfl, rfl⟩
      | true =>
        by_cases h3 : m = 3
        · subst h3
          cases z with
          | false =>
            obtain rfl := HY.out (by simp)
            go_enter Try.func37, Try.ntmps37
            go_wp2_with (first
              | (go_at_call 50; refine HV.out.mono ?_; rintro e w' ⟨rfl, rfl⟩)
              | (go_at_call 52; refine HZ.out.mono ?_; rintro e w' ⟨rfl, rfl⟩)
              | (go_at_call 51; refine HM.out.mono ?_; rintro e w' ⟨rfl, rfl⟩))
            go_ret
            exact ⟨rfl, rfl⟩
          | true =>
            obtain rfl := HN.out (by simp)
            go_enter Try.func37, Try.ntmps37
            go_wp2_with (first
              | (go_at_call 50; refine HV.out.mono ?_; rintro e w' ⟨rfl, rfl⟩)
              | (go_at_call 52; refine HZ.out.mono ?_; rintro e w' ⟨rfl, rfl⟩)
              | (go_at_call 51; refine HM.out.mono ?_; rintro e w' ⟨rfl, rfl⟩))
            go_ret
            exact ⟨rfl, rfl⟩
        · obtain rfl := HY.out (by simp [h3])
          go_enter Try.func37, Try.ntmps37
          go_wp2_with (first
            | (go_at_call 50; refine HV.out.mono ?_; rintro e w' ⟨rfl, rfl⟩)
            | (go_at_call 51; refine HM.out.mono ?_; rintro e w' ⟨rfl, rfl⟩))
          go_ret
          exact ⟨rfl, rfl⟩
  · obtain rfl := HN.out (by simp [h1])
    go_enter Try.func37, Try.ntmps37
    go_wp2_with fail
    go_ret
    exact ⟨rfl, rfl⟩
theorem alike_is {a b : List Int} (h : alikeB a b = true) : a.length = b.length ∧ vecB a = true ∧ vecB b = true := by
  simpa [alikeB, and_assoc] using h
theorem vec_len {a : List Int} (h : vecB a = true) : a.length ≤ maxLen := by have := (parts_of h).2.1; unfold maxLen; omega
/-- The block of room's 64 numbers, the first k of which are told. -/
def roomC (L : List Int) (k : Nat) : Array Value := Array.ofFn (n := 64) fun i => Value.int .i32 (if i.val < k then L.getD i.val 0 else 0)
theorem roomC_zero (L : List Int) : roomC L 0 = Array.replicate 64 (.int .i32 0) := by
  apply Array.ext
  · simp [roomC]
  · intro i h1 h2; simp [roomC]
theorem roomC_get (L : List Int) (k i : Nat) (h : i < 64) : (roomC L k)[i]? = some (.int .i32 (if i < k then L.getD i 0 else 0)) := by simp [roomC, h]
theorem roomC_set (L : List Int) (k : Nat) (h : k < 64) (x : Int) (hx : L.getD k 0 = x) : (roomC L k).setIfInBounds k (.int .i32 x) = roomC L (k + 1) := by
  subst hx
  apply Array.ext_getElem?
  intro i
  rw [Array.getElem?_setIfInBounds]
  simp only [roomC, Array.getElem?_ofFn, Array.size_ofFn]
  by_cases c : k = i
  · subst c; simp [h]
  · rw [if_neg c]
    by_cases hi : i < 64
    · rw [dif_pos hi, dif_pos hi]
      by_cases d : i < k
      · rw [if_pos d, if_pos (by omega)]
      · rw [if_neg d, if_neg (by omega)]
    · rw [dif_neg hi, dif_neg hi]
theorem i32_in (x : Int) (h : -2147483648 ≤ x ∧ x ≤ 2147483647) : IntKind.i32.wrap x = x := by
  unfold IntKind.wrap; simp [IntKind.bits, IntKind.signed]; omega
end Go.Proofs.Ytfgmkdghpdpdkaa
