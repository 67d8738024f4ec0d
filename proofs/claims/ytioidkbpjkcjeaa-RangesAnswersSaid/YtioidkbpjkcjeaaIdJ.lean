/- What All answers goes over: the walk of two rising rows, for every loop body that keeps what lay below. Conditions: those that each theorem names. -/
import Derived.Test.YtioidkbpjkcjeaaIdI
import Derived.Sort.QuietIn
namespace Go.Proofs.Ytioidkbpjkcjeaa
set_option linter.unusedVariables false
open Go Go.RowKit Go.Shelf Ids
attribute [local go_sem] Oper.semAt_some
theorem eql_yield_in (w : World) (d l : Nat) : (Op.equalIn (d + 1) 79 (.func (.yield l) #[] #[]) .nilFunc).run Try.prog w = .ok false w := by
  simp [Op.equalIn, run_underlying Try.underlying79]
/-- 'yield == nil' -/
theorem eql_yield (w : World) (l : Nat) : (binOp .eql 79 (.func (.yield l) #[] #[]) .nilFunc).run Try.prog w = .ok (.bool false) w := by
  simp only [binOp]
  simp [show Op.equal 79 (.func (.yield l) #[] #[]) .nilFunc = Op.equalIn (9999 + 1) 79 (.func (.yield l) #[] #[]) .nilFunc from rfl, eql_yield_in]
/-- A pair, as yield is handed it. -/
def enc2 (x : Int × Int) : Array Value := #[.int .i64 x.1, .int .i64 x.2]
def lenV : Value → Nat
  | .slice _ n _ => n
  | _ => 0
set_option maxHeartbeats 4000000 in
set_option maxRecDepth 100000 in
theorem all1_in (n l B1 B2 m n₀ : Nat) (hn : 1 ≤ n) (sa sb : Value) (A B : List Int) (hsz : A.length + B.length ≤ 9223372036854775807) (J Jx : List (Int × Int) → World → Prop) (W : World)
    (hJd : ∀ s w q, J s w → J s (w.drewN q))
    (hY : ∀ pre x W1, J pre W1 → pre.length < (walk A B).length → YieldAt Fence.wide (n - 1) Try.prog l (enc2 x) W1 fun e W' =>
      (e = .returned (.bool true) ∧ J (pre ++ [x]) W' ∧ Kr m n₀ W1 W') ∨ (e = .returned (.bool false) ∧ Jx (pre ++ [x]) W'))
    (h1 : W.cell? ⟨B1, 0, none⟩ = some sa) (h2 : W.cell? ⟨B2, 0, none⟩ = some sb) (hA : Low m n₀ W sa A) (hB : Low m n₀ W sb B) (h0 : J [] W) :
    CallsIn Fence.wide n Try.prog 52 #[.func (.yield l) #[] #[], .pointer (some ⟨B1, 0, none⟩), .pointer (some ⟨B2, 0, none⟩)] W fun e W' => (∃ v, e = .returned v) ∧
      ((∃ ys, ys = walk A B ∧ J ys W') ∨ (∃ pre, pre <+: walk A B ∧ Jx pre W')) := by
  refine callsIn_of_wp Try.func52 rfl trivial ?_ rfl
  simp only [Try.ntmps52, List.size_toArray, List.length_cons, List.length_nil, Nat.reduceAdd, Nat.reduceSub, Array.replicate_succ, Array.replicate_zero, List.push_toArray, List.append_toArray, List.nil_append, List.cons_append]
  have mixed : Try.prog.follows .mixedOrders = true := by kernel_rfl
  have hny := fun w => eql_yield w l
  obtain ⟨pa, ca, hsa⟩ := hA.form
  obtain ⟨pb, cb, hsb⟩ := hB.form
  subst hsa hsb
  gi_wp2
  gi_quiet (fail)
  gi_wp2
  have h0' := Lib.hid (fun q => hJd _ _ q h0)
  gi_loopw [4, 5] (fun sa sb wr => ∃ pre A' B', walk A B = pre ++ walk A' B' ∧ A'.length + B'.length ≤ A.length + B.length ∧ Low m n₀ wr sa A' ∧ Low m n₀ wr sb B' ∧ J pre wr) (fun sa sb _ => lenV sa + lenV sb)
  case atStart => exact ⟨[], A, B, rfl, Nat.le_refl _, hA, hB, h0'.out _⟩
  case round =>
    obtain ⟨pre, A', B', hw, hlen, hA', hB', hJ⟩ := hrel
    by_cases hne : A' ≠ [] ∨ B' ≠ []
    · obtain ⟨X, k, A2, B2', hst⟩ := stp_is A' B' hne
      have HW : Hid (walk A B = pre ++ [(X, k)] ++ walk A2 B2') := Lib.hid (by rw [hw, hst.2.1]; simp)
      have hlt : pre.length < (walk A B).length := by rw [HW.out]; simp
      have CL := Lib.hid fun u v hu hv => least_any A' B' u v m n₀ X k wr hu hv hne hst.1
      have HY := Lib.hid fun q => hY pre (X, k) (wr.drewN q) (hJd _ _ q hJ) hlt
      have HSZ : Hid (A'.length + B'.length ≤ 9223372036854775807) := Lib.hid (by omega)
      have HLEN := Lib.hid hlen
      have hcase := hst.2.2
      clear hw hne hst hlt hlen
      rcases hcase with ⟨rfl, rfl, rfl⟩ | ⟨rfl, rfl, rfl⟩ | ⟨rfl, rfl, rfl⟩
      · obtain ⟨g, off, c, rfl, hcell, hle, hl1, hl2⟩ := hA'.cons
        obtain ⟨pb', cb', hsb⟩ := hB'.form
        subst hsb
        have CL' := Lib.hid (CL.out _ _ hA' hB')
        have HB' := Lib.hid hB'
        have HL2 := Lib.hid hl2
        have e0 : (0 : Int) < (A2.length : Int) + 1 + (B2'.length : Int) := by omega
        have e1 : wrap64 ((A2.length : Int) + 1 + (B2'.length : Int)) = (A2.length : Int) + 1 + (B2'.length : Int) := wrapI _ (by have := HSZ.out; simp at this; omega)
        have e2 : (1 : Int) ≤ (A2.length : Int) + 1 := by omega
        have b1 : bits .and .i64 1 1 = 1 := by decide
        have b2 : bits .and .i64 1 2 = 0 := by decide
        clear CL hA' hB' hl1 hl2 hJ
        by_cases hc : c = 1
        · subst hc
          obtain rfl : A2 = [] := List.eq_nil_of_length_eq_zero (by omega)
          simp only [List.length_nil, Int.ofNat_zero, Int.natCast_zero, Int.zero_add, Nat.zero_add] at *
          gi_wp2_with (refine ⟨trivial, ?_⟩; gi_at_call 53; refine (callsIn_wide.2 CL'.out).mono ?_; rintro e w1 ⟨rfl, q, rfl⟩; obtain ⟨fn, tmps, assign, body, hy, hR⟩ := HY.out q; dsimp only [enc2] at hy)
          refine hR.mono ?_
          rintro e W3 (⟨rfl, hJ3, hk3⟩ | ⟨rfl, hJx3⟩)
          · have HJ3 := Lib.hid hJ3
            have HK3 := Lib.hid hk3
            clear hJ3 hk3
            gi_wp2
            go_roundw
            case rel => exact ⟨_, [], B2', HW.out, by have := HLEN.out; (try simp at this ⊢) <;> omega, .inl ⟨rfl, _, _, rfl⟩, (HB'.out.below (Kr.drewN _ _ _ q)).below HK3.out, HJ3.out⟩
            case measure => simp [lenV]
          · have HJx := Lib.hid hJx3
            clear hJx3
            gi_wp2
            refine bodyPost_ret (results_none rfl _ _ _) rfl ?_
            exact ⟨⟨_, rfl⟩, .inr ⟨_, ⟨_, HW.out.symm⟩, HJx.out⟩⟩
        · have hc' : (c = 1) = False := by simp [hc]
          clear hc
          gi_wp2_with (refine ⟨trivial, ?_⟩; gi_at_call 53; refine (callsIn_wide.2 CL'.out).mono ?_; rintro e w1 ⟨rfl, q, rfl⟩; obtain ⟨fn, tmps, assign, body, hy, hR⟩ := HY.out q; dsimp only [enc2] at hy)
          refine hR.mono ?_
          rintro e W3 (⟨rfl, hJ3, hk3⟩ | ⟨rfl, hJx3⟩)
          · have HJ3 := Lib.hid hJ3
            have HK3 := Lib.hid hk3
            clear hJ3 hk3
            gi_wp2
            go_roundw
            case rel => exact ⟨_, A2, B2', HW.out, by have := HLEN.out; (try simp at this ⊢) <;> omega, (HL2.out.below (Kr.drewN _ _ _ q)).below HK3.out, (HB'.out.below (Kr.drewN _ _ _ q)).below HK3.out, HJ3.out⟩
            case measure => simp [lenV]
          · have HJx := Lib.hid hJx3
            clear hJx3
            gi_wp2
            refine bodyPost_ret (results_none rfl _ _ _) rfl ?_
            exact ⟨⟨_, rfl⟩, .inr ⟨_, ⟨_, HW.out.symm⟩, HJx.out⟩⟩
      · obtain ⟨g, off, c, rfl, hcell, hle, hl1, hl2⟩ := hB'.cons
        obtain ⟨pa', ca', hsa⟩ := hA'.form
        subst hsa
        have CL' := Lib.hid (CL.out _ _ hA' hB')
        have HA' := Lib.hid hA'
        have HL2 := Lib.hid hl2
        have e0 : (0 : Int) < (A2.length : Int) + ((B2'.length : Int) + 1) := by omega
        have e1 : wrap64 ((A2.length : Int) + ((B2'.length : Int) + 1)) = (A2.length : Int) + ((B2'.length : Int) + 1) := wrapI _ (by have := HSZ.out; simp at this; omega)
        have e2 : (1 : Int) ≤ (B2'.length : Int) + 1 := by omega
        have b1 : bits .and .i64 2 1 = 0 := by decide
        have b2 : bits .and .i64 2 2 = 2 := by decide
        clear CL hA' hB' hl1 hl2 hJ
        by_cases hc : c = 1
        · subst hc
          obtain rfl : B2' = [] := List.eq_nil_of_length_eq_zero (by omega)
          simp only [List.length_nil, Int.ofNat_zero, Int.natCast_zero, Int.zero_add, Nat.zero_add] at *
          gi_wp2_with (refine ⟨trivial, ?_⟩; gi_at_call 53; refine (callsIn_wide.2 CL'.out).mono ?_; rintro e w1 ⟨rfl, q, rfl⟩; obtain ⟨fn, tmps, assign, body, hy, hR⟩ := HY.out q; dsimp only [enc2] at hy)
          refine hR.mono ?_
          rintro e W3 (⟨rfl, hJ3, hk3⟩ | ⟨rfl, hJx3⟩)
          · have HJ3 := Lib.hid hJ3
            have HK3 := Lib.hid hk3
            clear hJ3 hk3
            gi_wp2
            go_roundw
            case rel => exact ⟨_, A2, [], HW.out, by have := HLEN.out; (try simp at this ⊢) <;> omega, (HA'.out.below (Kr.drewN _ _ _ q)).below HK3.out, .inl ⟨rfl, _, _, rfl⟩, HJ3.out⟩
            case measure => simp [lenV]
          · have HJx := Lib.hid hJx3
            clear hJx3
            gi_wp2
            refine bodyPost_ret (results_none rfl _ _ _) rfl ?_
            exact ⟨⟨_, rfl⟩, .inr ⟨_, ⟨_, HW.out.symm⟩, HJx.out⟩⟩
        · have hc' : (c = 1) = False := by simp [hc]
          clear hc
          gi_wp2_with (refine ⟨trivial, ?_⟩; gi_at_call 53; refine (callsIn_wide.2 CL'.out).mono ?_; rintro e w1 ⟨rfl, q, rfl⟩; obtain ⟨fn, tmps, assign, body, hy, hR⟩ := HY.out q; dsimp only [enc2] at hy)
          refine hR.mono ?_
          rintro e W3 (⟨rfl, hJ3, hk3⟩ | ⟨rfl, hJx3⟩)
          · have HJ3 := Lib.hid hJ3
            have HK3 := Lib.hid hk3
            clear hJ3 hk3
            gi_wp2
            go_roundw
            case rel => exact ⟨_, A2, B2', HW.out, by have := HLEN.out; (try simp at this ⊢) <;> omega, (HA'.out.below (Kr.drewN _ _ _ q)).below HK3.out, (HL2.out.below (Kr.drewN _ _ _ q)).below HK3.out, HJ3.out⟩
            case measure => simp [lenV]
          · have HJx := Lib.hid hJx3
            clear hJx3
            gi_wp2
            refine bodyPost_ret (results_none rfl _ _ _) rfl ?_
            exact ⟨⟨_, rfl⟩, .inr ⟨_, ⟨_, HW.out.symm⟩, HJx.out⟩⟩
      · obtain ⟨g, off, c, rfl, hcell, hle, hl1, hl2⟩ := hA'.cons
        obtain ⟨g2, off2, c2, rfl, hcell2, hle2, hl3, hl4⟩ := hB'.cons
        have CL' := Lib.hid (CL.out _ _ hA' hB')
        have HL2 := Lib.hid hl2
        have HL4 := Lib.hid hl4
        have e0 : (0 : Int) < (A2.length : Int) + 1 + ((B2'.length : Int) + 1) := by omega
        have e1 : wrap64 ((A2.length : Int) + 1 + ((B2'.length : Int) + 1)) = (A2.length : Int) + 1 + ((B2'.length : Int) + 1) := wrapI _ (by have := HSZ.out; simp at this; omega)
        have e2 : (1 : Int) ≤ (B2'.length : Int) + 1 := by omega
        have e3 : (1 : Int) ≤ (A2.length : Int) + 1 := by omega
        have b1 : bits .and .i64 3 1 = 1 := by decide
        have b2 : bits .and .i64 3 2 = 2 := by decide
        clear CL hA' hB' hl1 hl2 hl3 hl4 hJ
        by_cases hc : c = 1
        · subst hc
          obtain rfl : A2 = [] := List.eq_nil_of_length_eq_zero (by omega)
          by_cases hd : c2 = 1
          · subst hd
            obtain rfl : B2' = [] := List.eq_nil_of_length_eq_zero (by omega)
            simp only [List.length_nil, Int.ofNat_zero, Int.natCast_zero, Int.zero_add, Nat.zero_add] at *
            gi_wp2_with (refine ⟨trivial, ?_⟩; gi_at_call 53; refine (callsIn_wide.2 CL'.out).mono ?_; rintro e w1 ⟨rfl, q, rfl⟩; obtain ⟨fn, tmps, assign, body, hy, hR⟩ := HY.out q; dsimp only [enc2] at hy)
            refine hR.mono ?_
            rintro e W3 (⟨rfl, hJ3, hk3⟩ | ⟨rfl, hJx3⟩)
            · have HJ3 := Lib.hid hJ3
              have HK3 := Lib.hid hk3
              clear hJ3 hk3
              gi_wp2
              go_roundw
              case rel => exact ⟨_, [], [], HW.out, by have := HLEN.out; (try simp at this ⊢) <;> omega, .inl ⟨rfl, _, _, rfl⟩, .inl ⟨rfl, _, _, rfl⟩, HJ3.out⟩
              case measure => simp [lenV]
            · have HJx := Lib.hid hJx3
              clear hJx3
              gi_wp2
              refine bodyPost_ret (results_none rfl _ _ _) rfl ?_
              exact ⟨⟨_, rfl⟩, .inr ⟨_, ⟨_, HW.out.symm⟩, HJx.out⟩⟩
          · have hd' : (c2 = 1) = False := by simp [hd]
            clear hd
            simp only [List.length_nil, Int.ofNat_zero, Int.natCast_zero, Int.zero_add, Nat.zero_add] at *
            gi_wp2_with (refine ⟨trivial, ?_⟩; gi_at_call 53; refine (callsIn_wide.2 CL'.out).mono ?_; rintro e w1 ⟨rfl, q, rfl⟩; obtain ⟨fn, tmps, assign, body, hy, hR⟩ := HY.out q; dsimp only [enc2] at hy)
            refine hR.mono ?_
            rintro e W3 (⟨rfl, hJ3, hk3⟩ | ⟨rfl, hJx3⟩)
            · have HJ3 := Lib.hid hJ3
              have HK3 := Lib.hid hk3
              clear hJ3 hk3
              gi_wp2
              go_roundw
              case rel => exact ⟨_, [], B2', HW.out, by have := HLEN.out; (try simp at this ⊢) <;> omega, .inl ⟨rfl, _, _, rfl⟩, (HL4.out.below (Kr.drewN _ _ _ q)).below HK3.out, HJ3.out⟩
              case measure => simp [lenV]; omega
            · have HJx := Lib.hid hJx3
              clear hJx3
              gi_wp2
              refine bodyPost_ret (results_none rfl _ _ _) rfl ?_
              exact ⟨⟨_, rfl⟩, .inr ⟨_, ⟨_, HW.out.symm⟩, HJx.out⟩⟩
        · have hc' : (c = 1) = False := by simp [hc]
          clear hc
          by_cases hd : c2 = 1
          · subst hd
            obtain rfl : B2' = [] := List.eq_nil_of_length_eq_zero (by omega)
            simp only [List.length_nil, Int.ofNat_zero, Int.natCast_zero, Int.zero_add, Nat.zero_add] at *
            gi_wp2_with (refine ⟨trivial, ?_⟩; gi_at_call 53; refine (callsIn_wide.2 CL'.out).mono ?_; rintro e w1 ⟨rfl, q, rfl⟩; obtain ⟨fn, tmps, assign, body, hy, hR⟩ := HY.out q; dsimp only [enc2] at hy)
            refine hR.mono ?_
            rintro e W3 (⟨rfl, hJ3, hk3⟩ | ⟨rfl, hJx3⟩)
            · have HJ3 := Lib.hid hJ3
              have HK3 := Lib.hid hk3
              clear hJ3 hk3
              gi_wp2
              go_roundw
              case rel => exact ⟨_, A2, [], HW.out, by have := HLEN.out; (try simp at this ⊢) <;> omega, (HL2.out.below (Kr.drewN _ _ _ q)).below HK3.out, .inl ⟨rfl, _, _, rfl⟩, HJ3.out⟩
              case measure => simp [lenV]; omega
            · have HJx := Lib.hid hJx3
              clear hJx3
              gi_wp2
              refine bodyPost_ret (results_none rfl _ _ _) rfl ?_
              exact ⟨⟨_, rfl⟩, .inr ⟨_, ⟨_, HW.out.symm⟩, HJx.out⟩⟩
          · have hd' : (c2 = 1) = False := by simp [hd]
            clear hd
            gi_wp2_with (refine ⟨trivial, ?_⟩; gi_at_call 53; refine (callsIn_wide.2 CL'.out).mono ?_; rintro e w1 ⟨rfl, q, rfl⟩; obtain ⟨fn, tmps, assign, body, hy, hR⟩ := HY.out q; dsimp only [enc2] at hy)
            refine hR.mono ?_
            rintro e W3 (⟨rfl, hJ3, hk3⟩ | ⟨rfl, hJx3⟩)
            · have HJ3 := Lib.hid hJ3
              have HK3 := Lib.hid hk3
              clear hJ3 hk3
              gi_wp2
              go_roundw
              case rel => exact ⟨_, A2, B2', HW.out, by have := HLEN.out; (try simp at this ⊢) <;> omega, (HL2.out.below (Kr.drewN _ _ _ q)).below HK3.out, (HL4.out.below (Kr.drewN _ _ _ q)).below HK3.out, HJ3.out⟩
              case measure => simp [lenV]; omega
            · have HJx := Lib.hid hJx3
              clear hJx3
              gi_wp2
              refine bodyPost_ret (results_none rfl _ _ _) rfl ?_
              exact ⟨⟨_, rfl⟩, .inr ⟨_, ⟨_, HW.out.symm⟩, HJx.out⟩⟩
    · obtain ⟨rfl, rfl⟩ : A' = [] ∧ B' = [] := by
        by_cases c1 : A' = []
        · by_cases c2 : B' = []
          · exact ⟨c1, c2⟩
          · exact absurd (.inr c2) hne
        · exact absurd (.inl c1) hne
      obtain ⟨pa', ca', hsa⟩ := hA'.form
      obtain ⟨pb', cb', hsb⟩ := hB'.form
      subst hsa hsb
      have HW : Hid (walk A B = pre) := Lib.hid (by rw [hw]; simp [walk])
      have HJ := Lib.hid hJ
      clear hw hne hJ hlen hA' hB'
      simp only [List.length_nil]
      gi_wp2
      go_end0
      exact ⟨⟨_, rfl⟩, .inl ⟨_, HW.out.symm, HJ.out⟩⟩
end Go.Proofs.Ytioidkbpjkcjeaa
