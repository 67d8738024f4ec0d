/- For any two int a, b the law NumLeft of the document's chapter 1 returns true over the program's own Div: what a quotient downwards leaves lies from 0 up to the divisor. No condition. -/
import Derived.Test.YtmfedhccmmgjaaaRows
import Derived.WalkKit
import Derived.ProofKit
import Derived.OpenShut
import Derived.ShutString
import Derived.Test.YtmfedhccmmgjaaaNumB
namespace Go.Proofs.Ytmfedhccmmgjaaa.numLeft
open Go.ChangeShapes Go.WideShapes Go.ChangeAt Go.RowKit
open Go.ChangeMaps (open_string shut_string)
set_option linter.unusedVariables false

theorem own : ownKnob Try.prog.godebug = none := by kernel_rfl

/-! ### The walk -/
theorem left_wrap (a b q : Int) (h : -9223372036854775808 ≤ a - q * b ∧ a - q * b ≤ 9223372036854775807) : wrap64 (a - wrap64 (q * b)) = a - q * b := by
  obtain ⟨k, hk⟩ := wrap64_near (q * b)
  rw [hk]
  unfold wrap64
  omega
theorem walk (a0 : Int) (a1 : Int) (w0 : (Lit.int .i64 a0).wf = true) (w1 : (Lit.int .i64 a1).wf = true) (w : World) :
    Calls Try.prog 5 #[.int .i64 a0, .int .i64 a1] w fun e w' => e = .returned (.bool true) ∧ Below w.heap.size w w' := by
  have ha := bounds_i64 w0
  have hb := bounds_i64 w1
  by_cases h0 : a1 = 0
  · subst h0
    go_enter Try.func5, Try.ntmps5
    go_wp2_with (first
      | (go_at_call 15; refine (div_zero _ _).mono ?_; rintro e w1 ⟨rfl, rfl⟩)
      | (go_at_call 11; refine (awake_yes _).mono ?_; rintro e w2 ⟨rfl, hb2⟩))
    go_ret
    exact ⟨rfl, hb2⟩
  have h0' : (a1 == 0) = false := by simp [h0]
  by_cases hn : negB a0 a1 = true
  · have hn1 : a1 = -1 := (negB_true hn).2
    have hn2 : (a1 == -1) = true := by simp [hn1]
    clear hn1 h0
    go_enter Try.func5, Try.ntmps5
    go_wp2_with (first
      | (go_at_call 15; refine (div_over _ _ _ h0' hn).mono ?_; rintro e w1 ⟨rfl, rfl⟩)
      | (go_at_call 11; refine (awake_yes _).mono ?_; rintro e w2 ⟨rfl, hb2⟩))
    go_ret
    exact ⟨rfl, hb2⟩
  have hn' : negB a0 a1 = false := by simpa using hn
  have hd : ∀ w, Calls Try.prog 15 #[.int .i64 a0, .int .i64 a1] w fun e w' => e = .returned (.tuple #[.int .i64 (a0.fdiv a1), .int .i64 0]) ∧ w = w' := fun w => div_any a0 a1 w h0' hn' ha.1 ha.2
  obtain ⟨q, hq⟩ : ∃ q, q = a0.fdiv a1 := ⟨_, rfl⟩
  have hl : (0 < a1 → 0 ≤ a0 - q * a1 ∧ a0 - q * a1 < a1) ∧ (a1 < 0 → a0 - q * a1 ≤ 0 ∧ a1 < a0 - q * a1) := by
    rw [hq]; exact ⟨fdiv_left_pos a0 a1, fdiv_left_neg a0 a1⟩
  rw [← hq] at hd
  clear hq hn hn' h0'
  by_cases hp : 0 < a1
  · obtain ⟨l0, l1⟩ := hl.1 hp
    have hw := left_wrap a0 a1 q (by omega)
    obtain ⟨l, hle⟩ : ∃ l, l = a0 - q * a1 := ⟨_, rfl⟩
    rw [← hle] at l0 l1 hw
    clear hl hle
    go_enter Try.func5, Try.ntmps5
    go_wp2_with (first
      | (go_at_call 15; refine (hd _).mono ?_; rintro e w1 ⟨rfl, rfl⟩)
      | (go_at_call 11; refine (awake_yes _).mono ?_; rintro e w2 ⟨rfl, hb2⟩))
    go_ret
    exact ⟨rfl, hb2⟩
  · obtain ⟨l0, l1⟩ := hl.2 (by omega)
    have hw := left_wrap a0 a1 q (by omega)
    obtain ⟨l, hle⟩ : ∃ l, l = a0 - q * a1 := ⟨_, rfl⟩
    rw [← hle] at l0 l1 hw
    clear hl hle
    go_enter Try.func5, Try.ntmps5
    go_wp2_with (first
      | (go_at_call 15; refine (hd _).mono ?_; rintro e w1 ⟨rfl, rfl⟩)
      | (go_at_call 11; refine (awake_yes _).mono ?_; rintro e w2 ⟨rfl, hb2⟩))
    go_ret
    exact ⟨rfl, hb2⟩

/-! ### The row -/
set_option maxRecDepth 100000 in
theorem lifted (os : Os) (started : os.Started) (H : Type) (enc : TypeId × Value → H) :
    ReturnsInHanded {} Try.checked os 5 .any (Rows.numLeftSpec.pre6 enc Try.prog Try.f5 Rows.numLeftRow.domain false) (Rows.numLeftSpec.post enc Try.prog Try.f5 false true false false) := by
  refine returnsInHanded_of_change (C := Try.checked) own started (by kernel_rfl) Try.func5
    (ChangeSpec.witness6 (enc := enc) (C := Try.checked) false ⟨#[], #[.int .i64 0, .int .i64 0], []⟩ 8 (by kernel_rfl) (by kernel_rfl) (by kernel_rfl) (by kernel_rfl)) ?_
  intro W base args ds gs before hval0 hW hcnd _
  have hval : ∀ (j : Nat) t v, Try.f5.params[j]? = some t → args[j]? = some v → Value.okWide Try.prog W .any base t v := hval0
  have hW' := hW
  obtain ⟨p, q, hA0, hV, rfl, hfz, hnd⟩ := hW
  have hA : DataW.TrodAll enc Try.prog W 0 (fun _ => true) true Try.f5.params.toList args.toList ds p := hA0
  rw [Try.params5] at hA hval
  obtain ⟨v0, vs0, d0, ds0, p0, q0, hargs, rfl, rfl, h0, r0⟩ := trodAll_cons hA
  obtain ⟨v1, vs1, d1, ds1, p1, q1, rfl, rfl, rfl, h1, r1⟩ := trodAll_cons r0
  obtain ⟨rfl, rfl, rfl⟩ := trodAll_nil r1
  obtain rfl : args = #[v0, v1] := by cases args; simp_all
  obtain ⟨rfl, rfl⟩ := trodVars_none hV
  obtain ⟨a0, rfl, rfl, rfl, w0⟩ := open_int Try.underlying3 (hval 0 3 v0 rfl rfl) h0
  obtain ⟨a1, rfl, rfl, rfl, w1⟩ := open_int Try.underlying3 (hval 1 3 v1 rfl rfl) h1
  clear hA0 hval0
  simp only [List.append_nil] at hW'
  refine (walk a0 a1 w0 w1 W).mono fun e W' ⟨he, hg⟩ => ?_
  subst he
  exact ⟨_, rfl, _, _, _, [], _, [], hW', (trodAll_cons_mk (shut_bool Try.underlying4 _) trodAll_mk0), (trodAll_cons_mk (shut_int Try.underlying3 w0) (trodAll_cons_mk (shut_int Try.underlying3 w1) trodAll_mk0)), rfl, hg.frame _, fun h => by cases h⟩

theorem over : Rows.numLeftRow.holds Try.pinned (OpenSpec.ofChange Rows.numLeftSpec) :=
  OpenClaim.holds_of_wide 5 Try.f5 rfl rfl rfl rfl rfl rfl rfl ⟨rfl, rfl, rfl, rfl, rfl⟩ rfl rfl rfl rfl rfl (by kernel_rfl) Try.func5 (by kernel_rfl)
    (of_decide_eq_true (by kernel_rfl)) (by unfold Func.isWrapper; first | (rw [if_pos (by decide +kernel)]; kernel_rfl) | (rw [if_neg (by decide +kernel)]; exact ⟨rfl, rfl⟩))
    (fun os started H enc _ => lifted os started H enc)

/-- The statement. -/
theorem proved : Rows.NumLeftSaid :=
  over
#print axioms proved
end Go.Proofs.Ytmfedhccmmgjaaa.numLeft
