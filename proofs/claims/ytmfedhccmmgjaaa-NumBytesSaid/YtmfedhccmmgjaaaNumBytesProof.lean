/- For any uint64, any int width and any text the law NumBytes of the document's chapter 1 returns true over the program's own Fix and Unfix and the document's own answers: numbers in bytes, there and back. No condition. -/
import Derived.Test.YtmfedhccmmgjaaaRows
import Derived.WalkKit
import Derived.ProofKit
import Derived.OpenShut
import Derived.ShutString
import Derived.Test.YtmfedhccmmgjaaaNumR
namespace Go.Proofs.Ytmfedhccmmgjaaa.numBytes
open Go.ChangeShapes Go.WideShapes Go.ChangeAt Go.RowKit
open Go.ChangeMaps (open_string shut_string)
set_option linter.unusedVariables false

theorem own : ownKnob Try.prog.godebug = none := by kernel_rfl

/-! ### The walk -/
/-- What both read of any bytes. -/
theorem unfix_both (s : ByteArray) (hs : s.size ≤ maxLen) :
    ∃ n e : Int, (∀ w, Calls Try.prog 19 #[.string s] w fun r w' => r = .returned (.tuple #[.int .u64 n, .int .i64 e]) ∧ w = w') ∧
      (∀ w, Calls Try.prog 20 #[.string s] w fun r w' => r = .returned (.tuple #[.int .u64 n, .int .i64 e]) ∧ w = w') := by
  by_cases h : 1 ≤ s.size ∧ s.size ≤ 8
  · exact ⟨unfL s.data.toList, 0, fun w => unfix_any s w h.1 h.2, fun w => unfixRef_any s w h.1 h.2⟩
  · exact ⟨0, 11, fun w => unfix_wrong s w (by omega) hs, fun w => unfixRef_wrong s w (by omega) hs⟩
theorem back_size (K N : Nat) : (⟨(fixL K N).toArray⟩ : ByteArray).size = K := by
  show (fixL K N).toArray.size = K
  simp [fixL_length]
set_option maxHeartbeats 2000000 in
set_option maxRecDepth 100000 in
theorem walk (a0 : Int) (a1 : Int) (a2 : ByteArray) (w0 : (Lit.int .u64 a0).wf = true) (w1 : (Lit.int .i64 a1).wf = true) (w2 : a2.size ≤ maxLen) (w : World) :
    Calls Try.prog 6 #[.int .u64 a0, .int .i64 a1, .string a2] w fun e w' => e = .returned (.bool true) ∧ Below w.heap.size w w' := by
  have ha := bounds_u64 w0
  obtain ⟨N, rfl⟩ := Int.eq_ofNat_of_zero_le ha.1
  have hN : N < 18446744073709551616 := by omega
  obtain ⟨c, g, c1, c2⟩ := unfix_both a2 w2
  clear ha w2
  by_cases hw : a1 < 1 ∨ 8 < a1
  · have c3 : ∀ w, Calls Try.prog 17 #[.int .u64 (N : Int), .int .i64 a1] w fun e w' => e = .returned (.tuple #[.string ⟨#[]⟩, .int .i64 11]) ∧ w = w' := fun w => fix_wrong N a1 w hw
    have c4 : ∀ w, Calls Try.prog 18 #[.int .u64 (N : Int), .int .i64 a1] w fun e w' => e = .returned (.tuple #[.string ⟨#[]⟩, .int .i64 11]) ∧ Below w.heap.size w w' := fun w => fixRef_wrong N a1 w hw
    clear hw
    go_enter Try.func6, Try.ntmps6
    go_wp2_with (first
      | (go_at_call 17; (with_reducible refine (c3 _).mono ?_); rintro e w1 ⟨rfl, rfl⟩)
      | (go_at_call 18; (with_reducible refine (c4 _).mono ?_); rintro e w3 ⟨rfl, hb3⟩)
      | (go_at_call 19; (with_reducible refine (c1 _).mono ?_); rintro e w1 ⟨rfl, rfl⟩)
      | (go_at_call 20; (with_reducible refine (c2 _).mono ?_); rintro e w1 ⟨rfl, rfl⟩)
      | (go_at_call 11; refine (awake_yes _).mono ?_; rintro e w2 ⟨rfl, hb2⟩))
    go_ret
    exact ⟨rfl, hb3.trans (hb2.mono hb3.size)⟩
  obtain ⟨K, rfl⟩ := Int.eq_ofNat_of_zero_le (by omega : 0 ≤ a1)
  have hK : 1 ≤ K := by omega
  have hK' : K ≤ 8 := by omega
  by_cases hf : N < 256 ^ K
  · have c3 : ∀ w, Calls Try.prog 17 #[.int .u64 (N : Int), .int .i64 (K : Int)] w fun e w' => e = .returned (.tuple #[.string ⟨(fixL K N).toArray⟩, .int .i64 0]) ∧ Below w.heap.size w w' := fun w => fix_fits N K w hK hK' hf
    have c4 : ∀ w, Calls Try.prog 18 #[.int .u64 (N : Int), .int .i64 (K : Int)] w fun e w' => e = .returned (.tuple #[.string ⟨(fixL K N).toArray⟩, .int .i64 0]) ∧ Below w.heap.size w w' := fun w => fixRef_any N K w hK hK' hN _ (by show _ = _; rw [if_pos hf])
    have hz := back_size K N
    have c5 : ∀ w, Calls Try.prog 19 #[.string ⟨(fixL K N).toArray⟩] w fun r w' => r = .returned (.tuple #[.int .u64 (N : Int), .int .i64 0]) ∧ w = w' := fun w => by
      have := unfix_any ⟨(fixL K N).toArray⟩ w (by rw [hz]; exact hK) (by rw [hz]; exact hK')
      rw [show (⟨(fixL K N).toArray⟩ : ByteArray).data.toList = fixL K N from rfl, unfL_fixL K N hf] at this
      exact this
    obtain ⟨s, hs⟩ : ∃ s : ByteArray, s = ⟨(fixL K N).toArray⟩ := ⟨_, rfl⟩
    rw [← hs] at c3 c4 c5 hz
    clear hs hf hw
    go_enter Try.func6, Try.ntmps6
    go_wp2_with (first
      | (go_at_call 17; (with_reducible refine (c3 _).mono ?_); rintro e w4 ⟨rfl, hb4⟩)
      | (go_at_call 18; (with_reducible refine (c4 _).mono ?_); rintro e w3 ⟨rfl, hb3⟩)
      | (go_at_call 19; (with_reducible refine (c5 _).mono ?_); rintro e w1 ⟨rfl, rfl⟩)
      | (go_at_call 19; (with_reducible refine (c1 _).mono ?_); rintro e w1 ⟨rfl, rfl⟩)
      | (go_at_call 20; (with_reducible refine (c2 _).mono ?_); rintro e w1 ⟨rfl, rfl⟩)
      | (go_at_call 11; refine (awake_yes _).mono ?_; rintro e w2 ⟨rfl, hb2⟩))
    go_ret
    exact ⟨rfl, hb4.trans ((hb3.mono hb4.size).trans (hb2.mono (Nat.le_trans hb4.size hb3.size)))⟩
  · have c3 : ∀ w, Calls Try.prog 17 #[.int .u64 (N : Int), .int .i64 (K : Int)] w fun e w' => e = .returned (.tuple #[.string ⟨#[]⟩, .int .i64 11]) ∧ w = w' := fun w => fix_over N K w hK hK' (by omega)
    have c4 : ∀ w, Calls Try.prog 18 #[.int .u64 (N : Int), .int .i64 (K : Int)] w fun e w' => e = .returned (.tuple #[.string ⟨#[]⟩, .int .i64 11]) ∧ Below w.heap.size w w' := fun w => fixRef_any N K w hK hK' hN _ (by show _ = _; rw [if_neg hf])
    clear hf hw
    go_enter Try.func6, Try.ntmps6
    go_wp2_with (first
      | (go_at_call 17; (with_reducible refine (c3 _).mono ?_); rintro e w1 ⟨rfl, rfl⟩)
      | (go_at_call 18; (with_reducible refine (c4 _).mono ?_); rintro e w3 ⟨rfl, hb3⟩)
      | (go_at_call 19; (with_reducible refine (c1 _).mono ?_); rintro e w1 ⟨rfl, rfl⟩)
      | (go_at_call 20; (with_reducible refine (c2 _).mono ?_); rintro e w1 ⟨rfl, rfl⟩)
      | (go_at_call 11; refine (awake_yes _).mono ?_; rintro e w2 ⟨rfl, hb2⟩))
    go_ret
    exact ⟨rfl, hb3.trans (hb2.mono hb3.size)⟩

/-! ### The row -/
set_option maxRecDepth 100000 in
theorem lifted (os : Os) (started : os.Started) (H : Type) (enc : TypeId × Value → H) :
    ReturnsInHanded {} Try.checked os 6 .any (Rows.numBytesSpec.pre6 enc Try.prog Try.f6 Rows.numBytesRow.domain false) (Rows.numBytesSpec.post enc Try.prog Try.f6 false true false false) := by
  refine returnsInHanded_of_change (C := Try.checked) own started (by kernel_rfl) Try.func6
    (ChangeSpec.witness6 (enc := enc) (C := Try.checked) false ⟨#[], #[.int .u64 0, .int .i64 0, .string ByteArray.empty], []⟩ 8 (by kernel_rfl) (by kernel_rfl) (by kernel_rfl) (by kernel_rfl)) ?_
  intro W base args ds gs before hval0 hW hcnd _
  have hval : ∀ (j : Nat) t v, Try.f6.params[j]? = some t → args[j]? = some v → Value.okWide Try.prog W .any base t v := hval0
  have hW' := hW
  obtain ⟨p, q, hA0, hV, rfl, hfz, hnd⟩ := hW
  have hA : DataW.TrodAll enc Try.prog W 0 (fun _ => true) true Try.f6.params.toList args.toList ds p := hA0
  rw [Try.params6] at hA hval
  obtain ⟨v0, vs0, d0, ds0, p0, q0, hargs, rfl, rfl, h0, r0⟩ := trodAll_cons hA
  obtain ⟨v1, vs1, d1, ds1, p1, q1, rfl, rfl, rfl, h1, r1⟩ := trodAll_cons r0
  obtain ⟨v2, vs2, d2, ds2, p2, q2, rfl, rfl, rfl, h2, r2⟩ := trodAll_cons r1
  obtain ⟨rfl, rfl, rfl⟩ := trodAll_nil r2
  obtain rfl : args = #[v0, v1, v2] := by cases args; simp_all
  obtain ⟨rfl, rfl⟩ := trodVars_none hV
  obtain ⟨a0, rfl, rfl, rfl, w0⟩ := open_int Try.underlying31 (hval 0 31 v0 rfl rfl) h0
  obtain ⟨a1, rfl, rfl, rfl, w1⟩ := open_int Try.underlying3 (hval 1 3 v1 rfl rfl) h1
  obtain ⟨a2, rfl, rfl, rfl, w2⟩ := open_string Try.underlying9 (hval 2 9 v2 rfl rfl) h2
  clear hA0 hval0
  simp only [List.append_nil] at hW'
  refine (walk a0 a1 a2 w0 w1 w2 W).mono fun e W' ⟨he, hg⟩ => ?_
  subst he
  exact ⟨_, rfl, _, _, _, [], _, [], hW', (trodAll_cons_mk (shut_bool Try.underlying4 _) trodAll_mk0), (trodAll_cons_mk (shut_int Try.underlying31 w0) (trodAll_cons_mk (shut_int Try.underlying3 w1) (trodAll_cons_mk (shut_string Try.underlying9 w2) trodAll_mk0))), rfl, hg.frame _, fun h => by cases h⟩

theorem over : Rows.numBytesRow.holds Try.pinned (OpenSpec.ofChange Rows.numBytesSpec) :=
  OpenClaim.holds_of_wide 6 Try.f6 rfl rfl rfl rfl rfl rfl rfl ⟨rfl, rfl, rfl, rfl, rfl⟩ rfl rfl rfl rfl rfl (by kernel_rfl) Try.func6 (by kernel_rfl)
    (of_decide_eq_true (by kernel_rfl)) (by unfold Func.isWrapper; first | (rw [if_pos (by decide +kernel)]; kernel_rfl) | (rw [if_neg (by decide +kernel)]; exact ⟨rfl, rfl⟩))
    (fun os started H enc _ => lifted os started H enc)

/-- The statement. -/
theorem proved : Rows.NumBytesSaid :=
  over
#print axioms proved
end Go.Proofs.Ytmfedhccmmgjaaa.numBytes
