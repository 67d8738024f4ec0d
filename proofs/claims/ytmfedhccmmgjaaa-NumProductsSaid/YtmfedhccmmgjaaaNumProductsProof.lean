/- For any two int a, b the law NumProducts of the document's chapter 1 returns true over the program's own Mul and Div and the document's own answers: products, and quotients downwards, or the errors. No condition. -/
import Derived.Test.YtmfedhccmmgjaaaRows
import Derived.WalkKit
import Derived.ProofKit
import Derived.OpenShut
import Derived.ShutString
import Derived.Test.YtmfedhccmmgjaaaNumR
namespace Go.Proofs.Ytmfedhccmmgjaaa.numProducts
open Go.ChangeShapes Go.WideShapes Go.ChangeAt Go.RowKit
open Go.ChangeMaps (open_string shut_string)
set_option linter.unusedVariables false

theorem own : ownKnob Try.prog.godebug = none := by kernel_rfl

/-! ### The walk -/
/-- Of a product: what both give, and its error. -/
theorem mul_both (a b : Int) (ha : -9223372036854775808 ≤ a ∧ a ≤ 9223372036854775807) (hb : -9223372036854775808 ≤ b ∧ b ≤ 9223372036854775807) :
    ∃ p e : Int, (∀ w, Calls Try.prog 13 #[.int .i64 a, .int .i64 b] w fun r w' => r = .returned (.tuple #[.int .i64 p, .int .i64 e]) ∧ w = w') ∧
      (∀ w, Calls Try.prog 13 #[.int .i64 b, .int .i64 a] w fun r w' => r = .returned (.tuple #[.int .i64 p, .int .i64 e]) ∧ w = w') ∧
      (∀ w, Calls Try.prog 14 #[.int .i64 a, .int .i64 b] w fun r w' => r = .returned (.tuple #[.int .i64 p, .int .i64 e]) ∧ w = w') := by
  by_cases hf : -9223372036854775808 ≤ a * b ∧ a * b ≤ 9223372036854775807
  · refine ⟨a * b, 0, fun w => mul_fit a b w ha.1 ha.2 hf.1 hf.2, fun w => ?_, fun w => ?_⟩
    · have := mul_fit b a w hb.1 hb.2 (by rw [Int.mul_comm]; exact hf.1) (by rw [Int.mul_comm]; exact hf.2)
      rw [Int.mul_comm] at this; exact this
    · by_cases h0 : a = 0 ∨ b = 0
      · have e : a * b = 0 := by rcases h0 with rfl | rfl <;> simp
        rw [e]; exact mulRef_zero a b w h0
      · exact mulRef_fit a b w h0 ha.1 ha.2 hf.1 hf.2
  · refine ⟨0, 10, fun w => mul_over a b w hb.1 hb.2 hf, fun w => mul_over b a w ha.1 ha.2 (by rw [Int.mul_comm]; exact hf), fun w => ?_⟩
    by_cases hn : negB a b = true ∨ negB b a = true
    · exact mulRef_neg a b w hn
    · exact mulRef_over a b w hn ha.1 ha.2 hb.1 hb.2 hf
/-- Of a quotient likewise. -/
theorem div_both (a b : Int) (ha : -9223372036854775808 ≤ a ∧ a ≤ 9223372036854775807) :
    ∃ q e : Int, (∀ w, Calls Try.prog 15 #[.int .i64 a, .int .i64 b] w fun r w' => r = .returned (.tuple #[.int .i64 q, .int .i64 e]) ∧ w = w') ∧
      (∀ w, Calls Try.prog 16 #[.int .i64 a, .int .i64 b] w fun r w' => r = .returned (.tuple #[.int .i64 q, .int .i64 e]) ∧ w = w') := by
  by_cases h0 : b = 0
  · subst h0; exact ⟨0, 1, fun w => div_zero a w, fun w => divRef_zero a w⟩
  have h0' : (b == 0) = false := by simp [h0]
  by_cases hn : negB a b = true
  · exact ⟨0, 10, fun w => div_over a b w h0' hn, fun w => divRef_over a b w hn⟩
  · have hn' : negB a b = false := by simpa using hn
    exact ⟨a.fdiv b, 0, fun w => div_any a b w h0' hn' ha.1 ha.2, fun w => divRef_any a b w h0' hn' ha.1 ha.2⟩
set_option maxHeartbeats 2000000 in
set_option maxRecDepth 100000 in
theorem walk (a0 : Int) (a1 : Int) (w0 : (Lit.int .i64 a0).wf = true) (w1 : (Lit.int .i64 a1).wf = true) (w : World) :
    Calls Try.prog 4 #[.int .i64 a0, .int .i64 a1] w fun e w' => e = .returned (.bool true) ∧ Below w.heap.size w w' := by
  have ha := bounds_i64 w0
  have hb := bounds_i64 w1
  obtain ⟨p, e, c1, c2, c3⟩ := mul_both a0 a1 ha hb
  obtain ⟨q, g, c4, c5⟩ := div_both a0 a1 ha
  clear ha hb
  by_cases hs : a0 = a1
  · subst hs
    go_enter Try.func4, Try.ntmps4
    go_wp2_with (first
      | (go_at_call 13; (with_reducible refine (c1 _).mono ?_); rintro e w1 ⟨rfl, rfl⟩)
      | (go_at_call 14; (with_reducible refine (c3 _).mono ?_); rintro e w1 ⟨rfl, rfl⟩)
      | (go_at_call 15; (with_reducible refine (c4 _).mono ?_); rintro e w1 ⟨rfl, rfl⟩)
      | (go_at_call 16; (with_reducible refine (c5 _).mono ?_); rintro e w1 ⟨rfl, rfl⟩)
      | (go_at_call 11; refine (awake_yes _).mono ?_; rintro e w2 ⟨rfl, hb2⟩))
    go_ret
    exact ⟨rfl, hb2⟩
  · have hs' := Lib.hid hs
    clear hs
    go_enter Try.func4, Try.ntmps4
    go_wp2_with (first
      | (go_at_call 13; (with_reducible refine (c1 _).mono ?_); rintro e w1 ⟨rfl, rfl⟩)
      | (go_at_call 13; (with_reducible refine (c2 _).mono ?_); rintro e w1 ⟨rfl, rfl⟩)
      | (go_at_call 14; (with_reducible refine (c3 _).mono ?_); rintro e w1 ⟨rfl, rfl⟩)
      | (go_at_call 15; (with_reducible refine (c4 _).mono ?_); rintro e w1 ⟨rfl, rfl⟩)
      | (go_at_call 16; (with_reducible refine (c5 _).mono ?_); rintro e w1 ⟨rfl, rfl⟩)
      | (go_at_call 11; refine (awake_yes _).mono ?_; rintro e w2 ⟨rfl, hb2⟩))
    go_ret
    exact ⟨rfl, hb2⟩

/-! ### The row -/
set_option maxRecDepth 100000 in
theorem lifted (os : Os) (started : os.Started) (H : Type) (enc : TypeId × Value → H) :
    ReturnsInHanded {} Try.checked os 4 .any (Rows.numProductsSpec.pre6 enc Try.prog Try.f4 Rows.numProductsRow.domain false) (Rows.numProductsSpec.post enc Try.prog Try.f4 false true false false) := by
  refine returnsInHanded_of_change (C := Try.checked) own started (by kernel_rfl) Try.func4
    (ChangeSpec.witness6 (enc := enc) (C := Try.checked) false ⟨#[], #[.int .i64 0, .int .i64 0], []⟩ 8 (by kernel_rfl) (by kernel_rfl) (by kernel_rfl) (by kernel_rfl)) ?_
  intro W base args ds gs before hval0 hW hcnd _
  have hval : ∀ (j : Nat) t v, Try.f4.params[j]? = some t → args[j]? = some v → Value.okWide Try.prog W .any base t v := hval0
  have hW' := hW
  obtain ⟨p, q, hA0, hV, rfl, hfz, hnd⟩ := hW
  have hA : DataW.TrodAll enc Try.prog W 0 (fun _ => true) true Try.f4.params.toList args.toList ds p := hA0
  rw [Try.params4] at hA hval
  obtain ⟨v0, vs0, d0, ds0, p0, q0, hargs, rfl, rfl, h0, r0⟩ := trodAll_cons hA
  obtain ⟨v1, vs1, d1, ds1, p1, q1, rfl, rfl, rfl, h1, r1⟩ := trodAll_cons r0
  obtain ⟨rfl, rfl, rfl⟩ := trodAll_nil r1
  obtain rfl : args = #[v0, v1] := by cases args; simp_all
  obtain ⟨rfl, rfl⟩ := trodVars_none hV
  obtain ⟨a0, rfl, rfl, rfl, w0⟩ := open_int Try.underlying3 (hval 0 3 v0 rfl rfl) h0
  obtain ⟨a1, rfl, rfl, rfl, w1⟩ := open_int Try.underlying3 (hval 1 3 v1 rfl rfl) h1
  clear hA0 hval0
  simp only [List.append_nil] at hW'
  refine (walk a0 a1 w0 w1 W).mono fun e W' ⟨he, hg⟩ => ?_
  subst he
  exact ⟨_, rfl, _, _, _, [], _, [], hW', (trodAll_cons_mk (shut_bool Try.underlying4 _) trodAll_mk0), (trodAll_cons_mk (shut_int Try.underlying3 w0) (trodAll_cons_mk (shut_int Try.underlying3 w1) trodAll_mk0)), rfl, hg.frame _, fun h => by cases h⟩

theorem over : Rows.numProductsRow.holds Try.pinned (OpenSpec.ofChange Rows.numProductsSpec) :=
  OpenClaim.holds_of_wide 4 Try.f4 rfl rfl rfl rfl rfl rfl rfl ⟨rfl, rfl, rfl, rfl, rfl⟩ rfl rfl rfl rfl rfl (by kernel_rfl) Try.func4 (by kernel_rfl)
    (of_decide_eq_true (by kernel_rfl)) (by unfold Func.isWrapper; first | (rw [if_pos (by decide +kernel)]; kernel_rfl) | (rw [if_neg (by decide +kernel)]; exact ⟨rfl, rfl⟩))
    (fun os started H enc _ => lifted os started H enc)

/-- The statement. -/
theorem proved : Rows.NumProductsSaid :=
  over
#print axioms proved
end Go.Proofs.Ytmfedhccmmgjaaa.numProducts
