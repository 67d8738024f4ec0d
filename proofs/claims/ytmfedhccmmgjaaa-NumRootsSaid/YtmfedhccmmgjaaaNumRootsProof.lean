/- For any int n the law NumRoots of the document's chapter 1 returns true over the program's own Isqrt and the document's own answer: the root downwards. No condition. -/
import Derived.Test.YtmfedhccmmgjaaaRows
import Derived.WalkKit
import Derived.ProofKit
import Derived.OpenShut
import Derived.ShutString
import Derived.Test.YtmfedhccmmgjaaaNumR
namespace Go.Proofs.Ytmfedhccmmgjaaa.numRoots
open Go.ChangeShapes Go.WideShapes Go.ChangeAt Go.RowKit
open Go.ChangeMaps (open_string shut_string)
set_option linter.unusedVariables false

theorem own : ownKnob Try.prog.godebug = none := by kernel_rfl

/-! ### The walk -/
theorem root_gap (N : Nat) : N - rootN N * rootN N ≤ 2 * rootN N := by
  have h := (rootN_spec N).2
  have e : (rootN N + 1) * (rootN N + 1) = rootN N * rootN N + 2 * rootN N + 1 := by
    generalize rootN N = r; rw [Nat.mul_add, Nat.add_mul]; omega
  omega
set_option maxHeartbeats 400000 in
theorem isqrt_none (n : Int) (w : World) (h : n < 1) :
    Calls Try.prog 10 #[.int .i64 n] w fun e w' => e = .returned (.int .i64 0) ∧ w = w' := by
  go_enter Try.func10, Try.ntmps10
  go_wp2
  go_ret
  exact ⟨rfl, rfl⟩
set_option maxHeartbeats 2000000 in
set_option maxRecDepth 100000 in
theorem walk (a0 : Int) (w0 : (Lit.int .i64 a0).wf = true) (w : World) :
    Calls Try.prog 3 #[.int .i64 a0] w fun e w' => e = .returned (.bool true) ∧ Below w.heap.size w w' := by
  have ha := bounds_i64 w0
  by_cases h0 : a0 < 1
  · go_enter Try.func3, Try.ntmps3
    go_wp2_with (first
      | (go_at_call 10; refine (isqrt_none _ _ h0).mono ?_; rintro e w1 ⟨rfl, rfl⟩)
      | (go_at_call 11; refine (awake_yes _).mono ?_; rintro e w2 ⟨rfl, hb2⟩))
    go_ret
    exact ⟨rfl, hb2⟩
  · obtain ⟨N, rfl⟩ := Int.eq_ofNat_of_zero_le (by omega : 0 ≤ a0)
    have hN : 1 ≤ N := by omega
    have hM : N ≤ 9223372036854775807 := by omega
    have hp := rootN_pos N hN
    have hm := root_most N (rootN N) (rootN_spec N).1 hM
    have hs := (rootN_spec N).1
    have hg := root_gap N
    have c1 : ∀ w, Calls Try.prog 10 #[.int .i64 (N : Int)] w fun e w' => e = .returned (.int .i64 (rootN N)) ∧ w = w' := fun w => isqrt_any N w hN hM
    have c2 : ∀ w, Calls Try.prog 12 #[.int .i64 (N : Int)] w fun e w' => e = .returned (.int .i64 (rootN N)) ∧ w = w' := fun w => isqrtRef_any N w hN hM
    obtain ⟨r, hr⟩ : ∃ r, r = rootN N := ⟨_, rfl⟩
    rw [← hr] at hp hm hs hg c1 c2
    obtain ⟨q, hq⟩ : ∃ q, q = r * r := ⟨_, rfl⟩
    rw [← hq] at hs hg
    have hqq : (r : Int) * (r : Int) = (q : Int) := by rw [hq]; simp
    have hg' : (N : Int) - (q : Int) ≤ 2 * (r : Int) := by omega
    clear hr hq hg h0
    go_enter Try.func3, Try.ntmps3
    go_wp2_with (first
      | (go_at_call 10; refine (c1 _).mono ?_; rintro e w1 ⟨rfl, rfl⟩)
      | (go_at_call 12; refine (c2 _).mono ?_; rintro e w1 ⟨rfl, rfl⟩)
      | (go_at_call 11; refine (awake_yes _).mono ?_; rintro e w2 ⟨rfl, hb2⟩))
    go_ret
    exact ⟨rfl, hb2⟩

/-! ### The row -/
set_option maxRecDepth 100000 in
theorem lifted (os : Os) (started : os.Started) (H : Type) (enc : TypeId × Value → H) :
    ReturnsInHanded {} Try.checked os 3 .any (Rows.numRootsSpec.pre6 enc Try.prog Try.f3 Rows.numRootsRow.domain false) (Rows.numRootsSpec.post enc Try.prog Try.f3 false true false false) := by
  refine returnsInHanded_of_change (C := Try.checked) own started (by kernel_rfl) Try.func3
    (ChangeSpec.witness6 (enc := enc) (C := Try.checked) false ⟨#[], #[.int .i64 0], []⟩ 8 (by kernel_rfl) (by kernel_rfl) (by kernel_rfl) (by kernel_rfl)) ?_
  intro W base args ds gs before hval0 hW hcnd _
  have hval : ∀ (j : Nat) t v, Try.f3.params[j]? = some t → args[j]? = some v → Value.okWide Try.prog W .any base t v := hval0
  have hW' := hW
  obtain ⟨p, q, hA0, hV, rfl, hfz, hnd⟩ := hW
  have hA : DataW.TrodAll enc Try.prog W 0 (fun _ => true) true Try.f3.params.toList args.toList ds p := hA0
  rw [Try.params3] at hA hval
  obtain ⟨v0, vs0, d0, ds0, p0, q0, hargs, rfl, rfl, h0, r0⟩ := trodAll_cons hA
  obtain ⟨rfl, rfl, rfl⟩ := trodAll_nil r0
  obtain rfl : args = #[v0] := by cases args; simp_all
  obtain ⟨rfl, rfl⟩ := trodVars_none hV
  obtain ⟨a0, rfl, rfl, rfl, w0⟩ := open_int Try.underlying3 (hval 0 3 v0 rfl rfl) h0
  clear hA0 hval0
  simp only [List.append_nil] at hW'
  refine (walk a0 w0 W).mono fun e W' ⟨he, hg⟩ => ?_
  subst he
  exact ⟨_, rfl, _, _, _, [], _, [], hW', (trodAll_cons_mk (shut_bool Try.underlying4 _) trodAll_mk0), (trodAll_cons_mk (shut_int Try.underlying3 w0) trodAll_mk0), rfl, hg.frame _, fun h => by cases h⟩

theorem over : Rows.numRootsRow.holds Try.pinned (OpenSpec.ofChange Rows.numRootsSpec) :=
  OpenClaim.holds_of_wide 3 Try.f3 rfl rfl rfl rfl rfl rfl rfl ⟨rfl, rfl, rfl, rfl, rfl⟩ rfl rfl rfl rfl rfl (by kernel_rfl) Try.func3 (by kernel_rfl)
    (of_decide_eq_true (by kernel_rfl)) (by unfold Func.isWrapper; first | (rw [if_pos (by decide +kernel)]; kernel_rfl) | (rw [if_neg (by decide +kernel)]; exact ⟨rfl, rfl⟩))
    (fun os started H enc _ => lifted os started H enc)

/-- The statement. -/
theorem proved : Rows.NumRootsSaid :=
  over
#print axioms proved
end Go.Proofs.Ytmfedhccmmgjaaa.numRoots
