/- The document's Rows. Conditions: those that each theorem names. -/
import Derived.Test.YtfgmkdghpdpdkaaScK
namespace Go.Proofs.Ytfgmkdghpdpdkaa
set_option linter.unusedVariables false
open Go Go.RowKit Vc Rk
namespace Sc
theorem okR_ways (n : Nat) (u : List Int) : (okR n u = true ∧ ¬ u.length < 1 ∧ ¬ 64 < u.length ∧ u.length = n ∧ u.all partB = true) ∨
    (okR n u = false ∧ (u.length < 1 ∨ (¬ u.length < 1 ∧ (64 < u.length ∨ (¬ 64 < u.length ∧ (¬ u.length = n ∨ (u.length = n ∧ u.all partB = false))))))) := by
  unfold okR
  rw [vecB_is]
  by_cases h1 : u.length < 1
  · right; exact ⟨by rw [decide_eq_false (show ¬ 1 ≤ u.length by omega)]; simp, .inl h1⟩
  · by_cases h2 : 64 < u.length
    · right; exact ⟨by rw [decide_eq_false (show ¬ u.length ≤ 64 by omega)]; simp, .inr ⟨h1, .inl h2⟩⟩
    · by_cases h3 : u.length = n
      · cases h4 : u.all partB with
        | true => left; exact ⟨by rw [decide_eq_true (show 1 ≤ u.length by omega), decide_eq_true (show u.length ≤ 64 by omega), h3]; simp, h1, h2, h3, rfl⟩
        | false => right; exact ⟨by simp, .inr ⟨h1, .inr ⟨h2, .inr ⟨h3, rfl⟩⟩⟩⟩
      · right; exact ⟨by rw [decide_eq_false (show ¬ (u.length : Int) = (n : Int) by omega)]; simp, .inr ⟨h1, .inr ⟨h2, .inl h3⟩⟩⟩
set_option maxHeartbeats 8000000 in
set_option maxRecDepth 100000 in
theorem rows_any (M : List (List Int)) (v : Value) (w : World) (h : RowsAt w v M) (hl : ∀ u ∈ M, u.length ≤ maxLen) (hm : M.length ≤ maxLen) :
    Calls Try.prog 18 #[v] w fun e w' => e = .returned (.bool (rowsB M)) ∧ Below w.heap.size w w' := by
  cases M with
  | nil =>
    obtain ⟨p, c, rfl, _, _⟩ := h
    have hr : rowsB [] = false := rfl
    rw [hr]
    clear hl hm
    go_enter Try.func18, Try.ntmps18
    go_wp2_with fail
    go_loop [3] (fun i => i = .int .i64 0) (fun _ => 0)
    case atStart => rfl
    case round =>
      subst hrel
      go_wp2_with fail
      go_ret
      exact ⟨rfl, Below.refl _ _⟩
  | cons r R =>
    have hfrm := h
    obtain ⟨p, c, rfl, hcc, _⟩ := hfrm
    obtain ⟨b, off, p0, ck0, rfl, hbb, hx0, hi0⟩ := rows_cell h (k := 0) (u := r) rfl
    rw [Nat.add_zero] at hx0
    have HX0 := Lib.hid hx0
    obtain ⟨B, hB⟩ : ∃ B, B = rowsB (r :: R) := ⟨_, rfl⟩
    have hall := rowsB_cons r R
    rw [← hB] at hall ⊢
    have HALL := Lib.hid hall
    have HROW := Lib.hid h
    have HL := Lib.hid hl
    obtain ⟨m, hmm⟩ : ∃ m, m = (r :: R).length := ⟨_, rfl⟩
    have hm1 : (0 : Int) < (m : Int) := by rw [hmm, List.length_cons]; omega
    have HMM := Lib.hid hmm
    have HM := Lib.hid hm
    have hm9 : (m : Int) ≤ 9223372036854775807 := by unfold maxLen at hm; omega
    have HM8 : Hid (m ≤ maxLen) := Lib.hid (by rw [hmm]; exact hm)
    rw [← hmm]
    obtain ⟨n, hn⟩ : ∃ n, n = r.length := ⟨_, rfl⟩
    rw [← hn] at HX0
    have HN := Lib.hid hn
    clear hl hm h hall hB hmm hn hcc hi0 hbb hx0
    go_enter Try.func18, Try.ntmps18
    go_wp2_with fail
    go_loopw [3] (fun i wr => ∃ k : Nat, k ≤ m ∧ i = .int .i64 k ∧ Below w.heap.size w wr ∧ Hid (((r :: R).take k).all (okR n) = true)) (fun i _ => m - (intOf i).toNat)
    case atStart => exact ⟨0, Nat.zero_le _, rfl, Below.refl _ _, Lib.hid (by simp)⟩
    case round =>
      obtain ⟨k, hk, rfl, hbw, HA⟩ := hrel
      obtain ⟨wo, rfl⟩ : ∃ wo : World, wo = wr := ⟨_, rfl⟩
      have HBW := Lib.hid hbw
      by_cases hlt : k < m
      · have hu : (r :: R)[k]? = some ((r :: R)[k]'(by rw [← HMM.out]; exact hlt)) := List.getElem?_eq_getElem _
        generalize (r :: R)[k]'(by rw [← HMM.out]; exact hlt) = u at hu
        obtain ⟨b', off', pk, ck, e, hb', hcl, hiu⟩ := rows_cell HROW.out hu
        injection e with e
        injection e with e2 e3
        subst e2; subst e3
        have hcl := hcl wo hbw
        have hx0 := HX0.out wo hbw
        have HRG := Lib.hid (fun q => (range_any u _ (wo.drewN q) (hiu.below (hbw.trans ((below_drewN (Below.refl _ wo) q).mono hbw.size))) (HL.out u (List.mem_of_getElem? hu))).mono fun e w' h => (⟨h.1, h.2.symm⟩ : e = .returned (.bool (u.all partB)) ∧ w' = wo.drewN q))
        have HLT := Lib.hid hlt
        have HU := Lib.hid hu
        have hki : (k : Int) < (m : Int) := by omega
        have hways := okR_ways n u
        have mixed : Try.prog.follows .mixedOrders = true := by kernel_rfl
        generalize u.length = ul at *
        generalize u.all partB = ub at *
        rcases hways with ⟨ho, h1, h2, rfl, rfl⟩ | ⟨ho, hbad⟩
        · have HN2 := Lib.hid (all_next' hu HA.out ho)
          have i1 : decide ((ul : Int) < 1) = false := decide_eq_false (by omega)
          have i2 : decide ((64 : Int) < (ul : Int)) = false := decide_eq_false (by omega)
          have i3 : ((ul : Int) == (ul : Int)) = true := beq_self_eq_true _
          clear hu hiu ho HA hbw
          go_wp2_with fail
          go_quiet (first | (go_at_call 29; refine Calls.quiet_of_same (HRG.out _)))
          go_wp2_with fail
          go_roundw
          case rel => exact ⟨k + 1, HLT.out, by first | rfl | go_num, below_drewN HBW.out _, HN2⟩
          case measure => have := HLT.out; simp only [intOf]; omega
        · have hbf : B = false := by
            rw [HALL.out, ← HN.out]
            exact all_no' hu ho
          subst hbf
          clear hu hiu ho HA hbw HALL
          rcases hbad with h1 | ⟨h1, h2 | ⟨h2, h3 | ⟨rfl, rfl⟩⟩⟩
          · have i1 : (ul : Int) < 1 := by omega
            go_wp2_with fail
            go_quiet (fail)
            go_wp2_with fail
            go_ret
            exact ⟨rfl, below_drewN HBW.out _⟩
          · have i1 : decide ((ul : Int) < 1) = false := decide_eq_false (by omega)
            have i2 : (64 : Int) < (ul : Int) := by omega
            go_wp2_with fail
            go_quiet (fail)
            go_wp2_with fail
            go_ret
            exact ⟨rfl, below_drewN HBW.out _⟩
          · have i1 : decide ((ul : Int) < 1) = false := decide_eq_false (by omega)
            have i2 : decide ((64 : Int) < (ul : Int)) = false := decide_eq_false (by omega)
            have i3 : ¬ (ul : Int) = (n : Int) := by omega
            have i4 : ((ul : Int) == (n : Int)) = false := beq_eq_false_iff_ne.2 i3
            have i5 : ((ul : Int) != (n : Int)) = true := by simp [i4, bne]
            have i6 : decide (ul = n) = false := decide_eq_false h3
            have i7 : decide ((ul : Int) = (n : Int)) = false := decide_eq_false i3
            go_wp2_with fail
            go_quiet (fail)
            go_wp2_with fail
            go_ret
            exact ⟨rfl, below_drewN HBW.out _⟩
          · have i1 : decide ((ul : Int) < 1) = false := decide_eq_false (by omega)
            have i2 : decide ((64 : Int) < (ul : Int)) = false := decide_eq_false (by omega)
            have i3 : ((ul : Int) == (ul : Int)) = true := beq_self_eq_true _
            go_wp2_with fail
            go_quiet (first | (go_at_call 29; refine Calls.quiet_of_same (HRG.out _)))
            go_wp2_with fail
            go_ret
            exact ⟨rfl, below_drewN HBW.out _⟩
      · obtain rfl : k = m := by omega
        have hbt : B = true := by
          have h := HA.out
          rw [HMM.out, List.take_length] at h
          rw [HALL.out, ← HN.out]; exact h
        subst hbt
        clear hbw
        have hmd : decide (0 < k) = true := decide_eq_true (by omega)
        go_wp2_with fail
        go_ret
        exact ⟨rfl, HBW.out⟩
end Sc
end Go.Proofs.Ytfgmkdghpdpdkaa
