/- The heap of hits: sink. Conditions: those that each theorem names. -/
import Derived.Test.YtbgminlajcmomabTkC
import Derived.Deep.DeepCutAuto
namespace Go.Proofs.Ytbgminlajcmomab
set_option linter.unusedVariables false
open Go Go.RowKit Go.Shelf Go.Sort Tk
/-- The foremost child. -/
def ChildP (m : Int) (k : Nat) (R : List Ht) (d : Nat) : Prop :=
  par d = k ∧ 0 < d ∧ k < d ∧ d < R.length ∧ ∀ j, 0 < j → j < R.length → par j = k → ltH m R[d]! R[j]! = false
theorem child_of {m : Int} {k c : Nat} {R : List Ht} (hcc : c = 2 * k + 1) (hc : c < R.length) :
    ((decide (c + 1 < R.length) && ltH m R[c]! R[c + 1]!) = true → ChildP m k R (c + 1)) ∧ ((decide (c + 1 < R.length) && ltH m R[c]! R[c + 1]!) = false → ChildP m k R c) := by
  refine ⟨fun h => ?_, fun h => ?_⟩
  · simp only [Bool.and_eq_true, decide_eq_true_eq] at h
    refine ⟨by unfold par; omega, by omega, by omega, h.1, fun j j0 jn jp => ?_⟩
    have : j = c ∨ j = c + 1 := by unfold par at jp; omega
    rcases this with rfl | rfl
    · exact ltH_asym h.2
    · exact ltH_irrefl m _
  · refine ⟨by unfold par; omega, by omega, by omega, hc, fun j j0 jn jp => ?_⟩
    have : j = c ∨ j = c + 1 := by unfold par at jp; omega
    rcases this with rfl | rfl
    · exact ltH_irrefl m _
    · rw [decide_eq_true jn, Bool.true_and] at h; exact h
set_option maxHeartbeats 8000000 in
set_option maxRecDepth 100000 in
theorem sink_any (m : Int) (B X g cap : Nat) (R : List Ht) (w : World) (H : HpM w B X g cap m R) (hi : 0 < R.length) (hx : HpS m R.length (fun t => R[t]!) 0) (hsz : R.length ≤ 1125899906842624) :
    Calls Try.prog 36 #[.pointer (some ⟨B, 2, none⟩), .int .i64 0] w fun e w' => e = .returned (.tuple #[]) ∧ HeapP w B X g cap m R w' := by
  have hen := new1_enters
  have mixed : Try.prog.follows .mixedOrders = true := by kernel_rfl
  have HM0 := Lib.hid H
  have HX0 := Lib.hid hx
  have HS := Lib.hid hsz
  clear H hx hsz
  go_enter Try.func36, Try.ntmps36
  go_wp2
  go_loopw [1] (fun s wr => ∃ (k : Nat) (R1 : List Ht), s = .int .i64 k ∧ k < R1.length ∧ Hid (R1.length = R.length) ∧ Hid (HpS m R1.length (fun t => R1[t]!) k) ∧ Hid (R1.Perm R) ∧ Hid (HpM wr B X g cap m R1) ∧ Hid (Gr (one' g) w wr)) (fun s _ => R.length - (intOf s).toNat)
  case atStart => exact ⟨0, R, rfl, hi, rfl, HX0, List.Perm.refl _, HM0, Gr.refl _ _⟩
  case round =>
    obtain ⟨k, R1, rfl, hk, HL, HX, HP, HM, HG⟩ := hrel
    have hlz : R1.length ≤ 1125899906842624 := by have := HS.out; have h : R1.length = R.length := HL; omega
    have f1 := HM.out.rows
    rcases Nat.lt_or_ge (2 * k + 1) R1.length with hc | hc
    · have hc' : ¬ ((R1.length : Int) ≤ 2 * (k : Int) + 1) := by omega
      go_wp2_with fail
      rw [show 2 * (k : Int) + 1 = ((2 * k + 1 : Nat) : Int) by omega]
      have hcz : ((2 * k + 1 : Nat) : Int) < (R1.length : Int) := by omega
      obtain ⟨c, hcc⟩ : ∃ c, c = 2 * k + 1 := ⟨_, rfl⟩
      rw [← hcc] at hc hcz ⊢
      have e1 : IntKind.i64.wrap ((c : Int) + 1) = (c : Int) + 1 := by rw [IntKind.wrap_i64]; omega
      have ec : ((c : Int) + 1).toNat = c + 1 := by omega
      have pc : (0 : Int) ≤ (c : Int) + 1 := by omega
      have HCC : Hid (c = 2 * k + 1) := Lib.hid hcc
      have hkc0 : k < c := by omega
      have hq := fun n os => HM.out.gn (w' := grow (wr.drewN n) os) ⟨n, os, rfl⟩
      have f0 := fun n os => (hq n os).fn
      have f2 := fun n os => (hq n os).rows
      have a0 := fun n os => ((hq n os).at hc).1
      have a1 := fun n os => ((hq n os).at hc).2
      obtain ⟨x, hxe⟩ : ∃ x, x = R1[c]! := ⟨_, rfl⟩
      rw [← hxe] at a0 a1
      have HXE := Lib.hid hxe
      clear hxe
      clear hq
      go_cut [44] (fun s wx => s = .bool (decide (c + 1 < R1.length) && ltH m R1[c]! R1[c + 1]!) ∧ Hid (HpM wx B X g cap m R1) ∧ Hid (Gr (one' g) w wx))
      case first =>
        by_cases hd : c + 1 < R1.length
        · have hq := fun n os => HM.out.gn (w' := grow (wr.drewN n) os) ⟨n, os, rfl⟩
          have b0 := fun n os => ((hq n os).at hd).1
          have b1 := fun n os => ((hq n os).at hd).2
          have HC := Lib.hid (fun (n : Nat) (os : Array Obj) => new1_any m X R1[c + 1]! R1[c]! _ (hq n os).ltX (hq n os).met)
          obtain ⟨y, hye⟩ : ∃ y, y = R1[c + 1]! := ⟨_, rfl⟩
          rw [← hye] at b0 b1 HC
          rw [← HXE.out] at HC
          have HYE := Lib.hid hye
          clear hye hq
          have hdz : (c : Int) + 1 < (R1.length : Int) := by omega
          have HD := Lib.hid hd
          clear hcc hd
          obtain ⟨b, hb⟩ : ∃ b, b = ltH m x y := ⟨_, rfl⟩
          rw [← hb] at HC
          have HB := Lib.hid hb
          clear hb
          go_quiet_grown (first | (go_at_fn 28; refine Calls.grown_of (HC.out _ _)))
          dsimp only
          have HM1 := Lib.hid (HM.out.gn (w' := grow (wr.drewN nq) osq) ⟨nq, osq, rfl⟩)
          have HG1 := Lib.hid (HG.out.trans (Gn.gr (w' := grow (wr.drewN nq) osq) ⟨nq, osq, rfl⟩))
          clear f0 f1 f2 a0 a1 b0 b1 HC
          generalize grow (wr.drewN nq) osq = w1 at *
          go_wp2
          go_meet
          case rel => exact ⟨by rw [← HXE.out, ← HYE.out, ← HB.out, decide_eq_true HD.out, Bool.true_and], HM1, HG1⟩
        · have hdz : ¬ (c : Int) + 1 < (R1.length : Int) := by omega
          have hdd : decide ((c : Int) + 1 < (R1.length : Int)) = false := decide_eq_false hdz
          have HD := Lib.hid hd
          clear hcc hd
          go_region
          have HM1 := Lib.hid (HM.out.gn (w' := wr.drew) (Gn.refl _).drew)
          have HG1 := Lib.hid HG.out.drew
          clear f0 f1 f2 a0 a1
          generalize wr.drew = w1 at *
          go_wp2
          go_meet
          case rel => exact ⟨by rw [decide_eq_false HD.out, Bool.false_and], HM1, HG1⟩
      case rest =>
        obtain ⟨rfl, HM1, HG1⟩ := hcut
        clear f0 f1 f2 a0 a1 HM HG HXE x
        generalize wc = w1 at *
        go_upto_if 44 with fail
        go_cut [4] (fun s wx => ∃ d : Nat, s = .int .i64 d ∧ Hid (ChildP m k R1 d) ∧ wx = w1)
        case first =>
          have HR := Lib.hid (child_of (m := m) hcc hc)
          cases hbb : (decide (c + 1 < R1.length) && ltH m R1[c]! R1[c + 1]!) with
          | true =>
            have HB := Lib.hid hbb
            clear hbb hcc
            go_wp2_with fail
            go_meet
            case rel => exact ⟨c + 1, by rfl, Lib.hid (HR.out.1 HB.out), rfl⟩
          | false =>
            have HB := Lib.hid hbb
            clear hbb hcc
            go_wp2_with fail
            go_meet
            case rel => exact ⟨c, rfl, Lib.hid (HR.out.2 HB.out), rfl⟩
        case rest =>
          obtain ⟨d, rfl, HCH, rfl⟩ := hcut
          generalize wc = w1 at *
          clear e1 ec pc HCC hkc0 hc' hcz hc hcc
          obtain ⟨hcp, hc0, hkc, HCL, hmx⟩ := HCH.out
          have hmax := Lib.hid hmx
          clear hmx
          go_upto_region 4 with fail
          have hqq := fun n os => HM1.out.gn (w' := grow (w1.drewN n) os) ⟨n, os, rfl⟩
          have f0 := fun n os => (hqq n os).fn
          have f1 := fun n os => (hqq n os).rows
          have a0 := fun n os => ((hqq n os).at HCL).1
          have a1 := fun n os => ((hqq n os).at HCL).2
          have b0 := fun n os => ((hqq n os).at hk).1
          have b1 := fun n os => ((hqq n os).at hk).2
          have HC := Lib.hid (fun (n : Nat) (os : Array Obj) => new1_any m X R1[d]! R1[k]! _ (hqq n os).ltX (hqq n os).met)
          obtain ⟨u, hue⟩ : ∃ u, u = R1[d]! := ⟨_, rfl⟩
          obtain ⟨v, hve⟩ : ∃ v, v = R1[k]! := ⟨_, rfl⟩
          rw [← hue] at a0 a1 HC
          rw [← hve] at b0 b1 HC
          have HU := Lib.hid hue
          have HV := Lib.hid hve
          have hkz : (k : Int) < (R1.length : Int) := by omega
          have hcl : ((d : Nat) : Int) < (R1.length : Int) := by omega
          have HCP := Lib.hid hcp
          have HCLL := Lib.hid HCL
          clear hue hve hqq hcp
          cases hb2 : ltH m v u with
          | false =>
            rw [hb2] at HC
            have HB2 := Lib.hid hb2
            clear hb2
            go_quiet_grown (first | (go_at_fn 28; refine Calls.grown_of (HC.out _ _)))
            dsimp only
            have HM2 := Lib.hid (HM1.out.gn (w' := grow (w1.drewN nq) osq) ⟨nq, osq, rfl⟩)
            have HG2 := Lib.hid (HG1.out.trans (Gn.gr (w' := grow (w1.drewN nq) osq) ⟨nq, osq, rfl⟩))
            clear f0 f1 a0 a1 b0 b1 HC
            generalize grow (w1.drewN nq) osq = w2 at *
            go_wp2
            (try simp only [Exit.inBlock, Exit.then]); refine bodyPost_ret (results_none rfl _ _ _) rfl ?_
            exact ⟨rfl, R1, HM2.out, HX.out.stop (fun j j0 jn jp => (swo m).ntrans _ _ _ (show ltH m R1[k]! R1[d]! = false by rw [← HU.out, ← HV.out]; exact HB2.out) (hmax.out j j0 jn jp)), HP.out, HG2.out⟩
          | true =>
            rw [hb2] at HC
            have HB2 := Lib.hid hb2
            clear hb2
            go_quiet_grown (first | (go_at_fn 28; refine Calls.grown_of (HC.out _ _)))
            dsimp only
            have HM2 := Lib.hid (HM1.out.gn (w' := grow (w1.drewN nq) osq) ⟨nq, osq, rfl⟩)
            have HG2 := Lib.hid (HG1.out.trans (Gn.gr (w' := grow (w1.drewN nq) osq) ⟨nq, osq, rfl⟩))
            clear f0 f1 a0 a1 b0 b1 HC
            generalize grow (w1.drewN nq) osq = w2 at *
            have f1 := HM2.out.rows
            obtain ⟨a0, a1⟩ := HM2.out.at hk
            obtain ⟨b0, b1⟩ := HM2.out.at HCLL.out
            have z0 := HM2.out.own.frozenAt (k * 2)
            have z1 := HM2.out.own.frozenAt (k * 2 + 1)
            have z2 := HM2.out.own.frozenAt (d * 2)
            have z3 := HM2.out.own.frozenAt (d * 2 + 1)
            have hne : g ≠ B := HM2.out.neB
            have hne' : B ≠ g := fun e => hne e.symm
            have hp2 : ¬ k * 2 = d * 2 := by omega
            have hp3 : ¬ k * 2 + 1 = d * 2 := by omega
            have hp4 : ¬ k * 2 = d * 2 + 1 := by omega
            have hp5 : ¬ k * 2 + 1 = d * 2 + 1 := by omega
            rw [← HV.out] at a0 a1
            rw [← HU.out] at b0 b1
            go_wp2_with fail
            go_region
            have HM4 : Hid (HpM (((((w2.setCell ⟨g, k * 2, none⟩ (.int .i64 u.1)).setCell ⟨g, k * 2 + 1, none⟩ (.int .i64 u.2)).setCell ⟨g, d * 2, none⟩ (.int .i64 v.1)).setCell ⟨g, d * 2 + 1, none⟩ (.int .i64 v.2)).drew) B X g cap m (sw R1 k d)) := Lib.hid (by
              have h := HM2.out.swap k d
              rw [← HU.out, ← HV.out] at h
              exact h.gn (Gn.refl _).drew)
            have HG4 : Hid (Gr (one' g) w (((((w2.setCell ⟨g, k * 2, none⟩ (.int .i64 u.1)).setCell ⟨g, k * 2 + 1, none⟩ (.int .i64 u.2)).setCell ⟨g, d * 2, none⟩ (.int .i64 v.1)).setCell ⟨g, d * 2 + 1, none⟩ (.int .i64 v.2)).drew)) := Lib.hid ((gr_set (gr_set (gr_set (gr_set HG2.out _ _) _ _) _ _) _ _).drew)
            clear f1 a0 a1 b0 b1 z0 z1 z2 z3
            generalize ((((w2.setCell ⟨g, k * 2, none⟩ (.int .i64 u.1)).setCell ⟨g, k * 2 + 1, none⟩ (.int .i64 u.2)).setCell ⟨g, d * 2, none⟩ (.int .i64 v.1)).setCell ⟨g, d * 2 + 1, none⟩ (.int .i64 v.2)).drew = w3 at *
            go_wp2
            go_roundw
            case rel =>
              refine ⟨d, sw R1 k d, rfl, by rw [sw_length]; exact HCLL.out, ?_, ?_, (sw_perm R1 hk HCLL.out).trans HP.out, HM4.out, HG4.out⟩
              · show (sw R1 k d).length = R.length
                rw [sw_length]; exact HL
              · show HpS m (sw R1 k d).length (fun t => (sw R1 k d)[t]!) d
                rw [sw_length]
                exact HX.out.sink HCP.out hc0 HCLL.out hmax.out (by show ltH m R1[k]! R1[d]! = true; rw [← HU.out, ← HV.out]; exact HB2.out) (fun t => sw_get R1 hk HCLL.out t)
            case measure =>
              have h : R1.length = R.length := HL
              have h2 := HCLL.out
              simp only [intOf, Int.toNat_natCast]
              omega
    · have hc' : (R1.length : Int) ≤ 2 * (k : Int) + 1 := by omega
      go_wp2
      (try simp only [Exit.inBlock, Exit.then]); refine bodyPost_ret (results_none rfl _ _ _) rfl ?_
      exact ⟨rfl, R1, HM.out, HX.out.stop (fun j j0 jn jp => by unfold par at jp; omega), HP.out, HG.out⟩
end Go.Proofs.Ytbgminlajcmomab
