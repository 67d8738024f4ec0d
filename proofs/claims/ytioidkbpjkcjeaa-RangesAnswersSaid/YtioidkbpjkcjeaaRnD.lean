/- The library's CompactFunc at entries, walked. Conditions: those that each theorem names. -/
import Derived.Test.YtioidkbpjkcjeaaRnC
namespace Go.Proofs.Ytioidkbpjkcjeaa
set_option linter.unusedVariables false
open Go Go.RowKit Go.Shelf Go.Sort
namespace Rn
theorem compact_short {R : List En} (h : R.length < 2) : Lib.compact R = R := Lib.compact_all R (fun j hj => Lib.keeps_lt_one _ j (by omega))
theorem compact_take {R R1 : List En} {k : Nat} (h : Lib.CompInv R.toArray R.length k R1.toArray) : Lib.compact R = R1.take k := by
  have hl : (Lib.compact R).length = k := h.len
  have hs : R1.length = R.length := by simpa using h.size
  have hlt := h.lt
  apply List.ext_getElem?
  intro j
  by_cases hj : j < k
  · have := h.low j hj
    rw [show (Lib.compact R)[j]? = (Lib.compactUpTo R.toArray R.length)[j]? from rfl, this, List.getElem?_take, if_pos hj, List.getElem?_eq_getElem (by omega)]
    simp [show j < R1.length by omega]
  · rw [List.getElem?_eq_none (by omega), List.getElem?_eq_none (by simp; omega)]
set_option maxHeartbeats 4000000 in
set_option maxRecDepth 100000 in
theorem compact_any (R : List En) (B X g cap : Nat) (w : World) (H : RwM w B X g cap R) (hsz : R.length ≤ 1125899906842624) :
    Calls Try.prog 30 #[.slice (some ⟨g, 0, none⟩) R.length cap, fnV X] w fun e w' => e = .returned (.slice (some ⟨g, 0, none⟩) (Lib.compact R).length cap) ∧ OwnH w' B (.slice (some ⟨g, 0, none⟩) (Lib.compact R).length cap) (Lib.compact R) ∧ Gr (one' g) w w' := by
  have hcap : R.length ≤ cap := by
    rcases H.own.2 with ⟨e, _⟩ | ⟨g', cap', cur, e, hb, hg, h1, h2, h3, h4⟩
    · cases e
    · injection e with e1 e2 e3
      omega
  have HM0 := Lib.hid H
  have HS := Lib.hid hsz
  have hen := alike_enters
  unfold fnV
  by_cases h2 : R.length < 2
  · have HC := Lib.hid (compact_short h2)
    rw [HC.out]
    clear H hsz
    go_enter Try.func30, Try.ntmps30
    go_wp2
    go_ret
    exact ⟨rfl, HM0.out.own, Gr.refl _ _⟩
  · obtain ⟨n, hn⟩ : ∃ n, n = R.length := ⟨_, rfl⟩
    have HN := Lib.hid hn
    rw [← hn] at hcap h2 ⊢
    have hnb : n ≤ 1125899906842624 := by omega
    clear H hsz hn
    obtain ⟨Q, hQ⟩ : ∃ Q : World → Prop, Q = fun w' => OwnH w' B (.slice (some ⟨g, 0, none⟩) (Lib.compact R).length cap) (Lib.compact R) ∧ Gr (one' g) w w' := ⟨_, rfl⟩
    obtain ⟨m, hm⟩ : ∃ m, m = (Lib.compact R).length := ⟨_, rfl⟩
    have HQ : Hid (∀ w', OwnH w' B (.slice (some ⟨g, 0, none⟩) (Lib.compact R).length cap) (Lib.compact R) → Gr (one' g) w w' → Q w') := Lib.hid (fun w' h1 h2 => by rw [hQ]; exact ⟨h1, h2⟩)
    have HMM := Lib.hid hm
    suffices hmain : Calls Try.prog 30 #[.slice (some ⟨g, 0, none⟩) n cap, .func (.func 29) #[] #[.pointer (some ⟨X, 0, none⟩)]] w fun e w' => e = .returned (.slice (some ⟨g, 0, none⟩) m cap) ∧ Q w' by
      rw [hm, hQ] at hmain
      exact hmain
    clear hm hQ
    go_enter Try.func30, Try.ntmps30
    go_wp2
    go_loopg [5] n (fun gg s5 wr => ∃ k : Nat, 1 ≤ k ∧ k ≤ n ∧ n - k ≤ gg ∧ s5 = .int .i64 k ∧ Hid (RwM wr B X g cap R) ∧ Hid (Gr (one' g) w wr) ∧ Hid (∀ j, j < k → Lib.keeps R.toArray j = true))
    case atStart => exact ⟨1, Nat.le_refl _, by omega, by omega, rfl, HM0, Lib.hid (Gr.refl _ _), Lib.hid (Lib.keeps_lt_one _)⟩
    case round =>
      obtain ⟨k, hk1, hk, hg, rfl, HM, HG, HA⟩ := hrel
      by_cases hlt : k < n
      · have hkR : k < R.length := by rw [← HN.out]; exact hlt
        obtain ⟨p, hp⟩ : ∃ p, p = k - 1 := ⟨_, rfl⟩
        have hkR1 : p < R.length := by omega
        have hq := fun nn os => HM.out.gn (w' := grow (wr.drewN nn) os) ⟨nn, os, rfl⟩
        have a0 := fun nn os => ((hq nn os).at hkR).1
        have a1 := fun nn os => ((hq nn os).at hkR).2
        have b0 := fun nn os => ((hq nn os).at hkR1).1
        have b1 := fun nn os => ((hq nn os).at hkR1).2
        have HC := Lib.hid (fun (nn : Nat) (os : Array Obj) => alike_any X R[k]! R[p]! _ (hq nn os).ltX (hq nn os).met)
        have hk' : (k : Int) < (n : Int) := by omega
        have hkm : wrap64 ((k : Int) - 1) = (p : Int) := by unfold wrap64; omega
        have hkm' : IntKind.i64.wrap ((k : Int) - 1) = (p : Int) := by rw [IntKind.wrap_i64]; omega
        have hkl : (p : Int) < (n : Int) := by omega
        have hkn : wrap64 ((k : Int) + 1) = ((k + 1 : Nat) : Int) := by unfold wrap64; omega
        obtain ⟨x, hxe⟩ : ∃ x, x = R[k]! := ⟨_, rfl⟩
        obtain ⟨y, hye⟩ : ∃ y, y = R[p]! := ⟨_, rfl⟩
        rw [← hxe] at a0 a1 HC
        rw [← hye] at b0 b1 HC
        have HXE : Hid (R.toArray[k]! = x ∧ R.toArray[k - 1]! = y) := Lib.hid ⟨by rw [hxe]; simp [hkR], by rw [hye, ← hp]; simp [hkR1]⟩
        have mixed : Try.prog.follows .mixedOrders = true := by kernel_rfl
        clear hq hxe hye hkR hkR1 hp
        by_cases hdup : x = y
        · have HD : Hid (Lib.keeps R.toArray k = false) := Lib.hid (Lib.keeps_neg (by omega) (by rw [HXE.out.1, HXE.out.2, hdup]))
          rw [decide_eq_true hdup] at HC
          clear hdup
          go_wp2_with fail
          go_quiet_grown (first | (go_at_fn 29; refine Calls.grown_of (HC.out _ _)))
          dsimp only
          have HM2 := Lib.hid (HM.out.gn (w' := grow (wr.drewN nq) osq) ⟨nq, osq, rfl⟩)
          have HG2 := Lib.hid (HG.out.trans (Gn.gr (w' := grow (wr.drewN nq) osq) ⟨nq, osq, rfl⟩))
          have HI0 : Hid (Lib.CompInv R.toArray (k + 1) k R.toArray) := Lib.hid (Lib.CompInv.start HA.out HD.out)
          clear a0 a1 b0 b1 HC HM HG
          generalize grow (wr.drewN nq) osq = w2 at *
          go_wp2
          clear hkm hkm' hkn
          go_loopg [5, 7] n (fun gg s5 s7 wr => ∃ (kk k2 : Nat) (R1 : List En), s5 = .int .i64 kk ∧ s7 = .int .i64 k2 ∧ 1 ≤ k2 ∧ k + k2 ≤ n ∧ n - (k + k2) ≤ gg ∧ kk < k + k2 ∧ Hid (R1.length = n) ∧ Hid (RwM wr B X g cap R1) ∧ Hid (Gr (one' g) w wr) ∧ Hid (Lib.CompInv R.toArray (k + k2) kk R1.toArray))
          case atStart => exact ⟨k, 1, R, rfl, rfl, Nat.le_refl _, by omega, by omega, by omega, Lib.hid HN.out.symm, HM2, HG2, HI0⟩
          case round =>
            clear HM2 HG2 HI0
            obtain ⟨kk, k2, R1, rfl, rfl, h1, hle, hg2, hkk, HL, HM, HG, HI⟩ := hrel
            by_cases hlt2 : k + k2 < n
            · have hkR : k + k2 < R1.length := by rw [HL.out]; exact hlt2
              obtain ⟨p2, hp2⟩ : ∃ p2, p2 = k2 - 1 := ⟨_, rfl⟩
              have hkR1 : k + p2 < R1.length := by omega
              have hq := fun nn os => HM.out.gn (w' := grow (wr.drewN nn) os) ⟨nn, os, rfl⟩
              have a0 := fun nn os => ((hq nn os).at hkR).1
              have a1 := fun nn os => ((hq nn os).at hkR).2
              have b0 := fun nn os => ((hq nn os).at hkR1).1
              have b1 := fun nn os => ((hq nn os).at hkR1).2
              rw [show (k + k2) * 2 = k * 2 + k2 * 2 by omega] at a0 a1
              rw [show (k + p2) * 2 = k * 2 + p2 * 2 by omega] at b0 b1
              have HC := Lib.hid (fun (nn : Nat) (os : Array Obj) => alike_any X R1[k + k2]! R1[k + p2]! _ (hq nn os).ltX (hq nn os).met)
              have hk3 : (k2 : Int) < ((n - k : Nat) : Int) := by omega
              have hkn4 : (kk : Int) < (n : Int) := by omega
              have hkl2 : (p2 : Int) < ((n - k : Nat) : Int) := by omega
              have hXX : k ≤ n ∧ kk < R1.length ∧ kk ≤ k + k2 ∧ kk ≤ k + p2 ∧ k + k2 - 1 = k + p2 ∧ 0 < k + k2 ∧ k + k2 < R.length := ⟨by omega, by rw [HL.out]; omega, by omega, by omega, by omega, by omega, by rw [← HN.out]; exact hlt2⟩
              have hmea : n - (k + (k2 + 1)) < n - (k + k2) ∧ 1 ≤ k2 + 1 ∧ k + (k2 + 1) ≤ n ∧ kk < k + (k2 + 1) ∧ kk + 1 < k + (k2 + 1) := by omega
              have HXX := Lib.hid hXX
              have HMEA := Lib.hid hmea
              have HME1 := Lib.hid (Nat.lt_of_lt_of_le hmea.1 hg2)
              clear hXX hmea
              have hkm2 : wrap64 ((k2 : Int) - 1) = (p2 : Int) := by unfold wrap64; omega
              have hkm2' : IntKind.i64.wrap ((k2 : Int) - 1) = (p2 : Int) := by rw [IntKind.wrap_i64]; omega
              have hkn2 : wrap64 ((k2 : Int) + 1) = ((k2 + 1 : Nat) : Int) := by unfold wrap64; omega
              have hkn3 : wrap64 ((kk : Int) + 1) = ((kk + 1 : Nat) : Int) := by unfold wrap64; omega
              obtain ⟨x, hxe⟩ : ∃ x, x = R1[k + k2]! := ⟨_, rfl⟩
              obtain ⟨y, hye⟩ : ∃ y, y = R1[k + p2]! := ⟨_, rfl⟩
              rw [← hxe] at a0 a1 HC
              rw [← hye] at b0 b1 HC
              have HXE : Hid (R.toArray[k + k2]! = x ∧ R.toArray[k + k2 - 1]! = y) := Lib.hid ⟨by rw [hxe, ← HI.out.high _ HXX.out.2.2.1]; simp [hkR], by rw [hye, HXX.out.2.2.2.2.1, ← HI.out.high _ HXX.out.2.2.2.1]; simp [hkR1]⟩
              clear hq hxe hye hkR hkR1 hp2
              by_cases hdup : x = y
              · have HD : Hid (Lib.keeps R.toArray (k + k2) = false) := Lib.hid (Lib.keeps_neg HXX.out.2.2.2.2.2.1 (by rw [HXE.out.1, HXE.out.2, hdup]))
                rw [decide_eq_true hdup] at HC
                clear hdup
                go_wp2_with fail
                go_quiet_grown (first | (go_at_fn 29; refine Calls.grown_of (HC.out _ _)))
                dsimp only
                have HM2 := Lib.hid (HM.out.gn (w' := grow (wr.drewN nq) osq) ⟨nq, osq, rfl⟩)
                have HG2 := Lib.hid (HG.out.trans (Gn.gr (w' := grow (wr.drewN nq) osq) ⟨nq, osq, rfl⟩))
                clear a0 a1 b0 b1 HC HM HG
                generalize grow (wr.drewN nq) osq = w2 at *
                clear hen hkm2 hkm2' hkl2 hk3 hkn3 hkn4 hle h1 hg2 hkk hlt2
                go_wp2_with fail
                go_roundg (n - (k + (k2 + 1)))
                case measure => exact HME1.out
                case rel => exact ⟨kk, k2 + 1, R1, rfl, by first | rfl | exact congrArg _ hkn2 | go_num, HMEA.out.2.1, HMEA.out.2.2.1, Nat.le_refl _, HMEA.out.2.2.2.1, HL, HM2, HG2, Lib.hid (HI.out.skip HD.out)⟩
              · have HD : Hid (Lib.keeps R.toArray (k + k2) = true) := Lib.hid (Lib.keeps_pos (by rw [HXE.out.1, HXE.out.2]; exact hdup))
                rw [decide_eq_false hdup] at HC
                clear hdup
                go_wp2_with fail
                go_quiet_grown (first | (go_at_fn 29; refine Calls.grown_of (HC.out _ _)))
                dsimp only
                have HM2 := Lib.hid (HM.out.gn (w' := grow (wr.drewN nq) osq) ⟨nq, osq, rfl⟩)
                have HG2 := Lib.hid (HG.out.trans (Gn.gr (w' := grow (wr.drewN nq) osq) ⟨nq, osq, rfl⟩))
                replace a0 := a0 nq osq
                replace a1 := a1 nq osq
                clear b0 b1 HC HM HG
                generalize grow (wr.drewN nq) osq = w2 at *
                have hkR2 : kk < R1.length := HXX.out.2.1
                obtain ⟨o0, o1⟩ := HM2.out.at hkR2
                have z0 := HM2.out.own.frozenAt (kk * 2)
                have z1 := HM2.out.own.frozenAt (kk * 2 + 1)
                have HM3 := Lib.hid (HM2.out.set kk x)
                have HG3 := Lib.hid (gr_set (gr_set HG2.out (kk * 2) (.int .i64 x.1)) (kk * 2 + 1) (.int .i64 x.2))
                have HI3 : Hid (Lib.CompInv R.toArray (k + (k2 + 1)) (kk + 1) (R1.set kk x).toArray) := Lib.hid (by
                  have := HI.out.keep (by simpa using HXX.out.2.2.2.2.2.2) HD.out
                  rw [HXE.out.1] at this
                  rw [← Nat.add_assoc]
                  simpa using this)
                clear hkR2
                generalize R1[kk]! = old at *
                clear hen hkm2 hkm2' hkl2 hle h1 hg2 hkk hlt2
                go_wp2_with fail
                clear hkn2 hkn3
                generalize (w2.setCell ⟨g, kk * 2, none⟩ (.int .i64 x.1)).setCell ⟨g, kk * 2 + 1, none⟩ (.int .i64 x.2) = w3 at *
                go_roundg (n - (k + (k2 + 1)))
                case measure => exact HME1.out
                case rel => exact ⟨kk + 1, k2 + 1, R1.set kk x, by first | rfl | go_num, by first | rfl | go_num, HMEA.out.2.1, HMEA.out.2.2.1, Nat.le_refl _, HMEA.out.2.2.2.2, Lib.hid (by rw [List.length_set]; exact HL.out), HM3, HG3, HI3⟩
            · have hend : k + k2 = n := by omega
              have hkk2 : kk < n := by omega
              have hk0 : 0 < kk := by
                have := HI.out.len
                rcases Nat.eq_zero_or_pos kk with e | e
                · exfalso
                  rw [e] at this
                  have h0 : Lib.compactUpTo R.toArray (k + k2) = [] := List.length_eq_zero_iff.1 this
                  have h1 : (0 : Nat) ∈ (List.range (k + k2)).filter (Lib.keeps R.toArray) := List.mem_filter.2 ⟨List.mem_range.2 (by omega), Lib.keeps_lt_one _ 0 (by omega)⟩
                  unfold Lib.compactUpTo at h0
                  rw [List.map_eq_nil_iff] at h0
                  rw [h0] at h1
                  cases h1
                · exact e
              have hcl : ∀ ty, (Builtin.clear_ #[22] ty #[.slice (some ⟨g, kk * 2, none⟩) (n - kk) (cap - kk)]).run Try.prog wr = .ok (.tuple #[]) (wr.setCells g (kk * 2) (List.replicate ((n - kk) * 2) (.int .i64 0))) :=
                fun ty => run_clear_en wr ty g (kk * 2) (n - kk) (cap - kk) (by omega) (fun j hj => by
                    have := HM.out.own.cellAt (kk * 2 + j) (by rw [HL.out]; omega)
                    rw [this, List.getElem?_eq_getElem (by rw [hCells_len, HL.out]; omega)]
                    rfl) (fun j _ => HM.out.own.frozenAt _)
              have HW : Hid (Lib.CompInv R.toArray R.length kk R1.toArray) := Lib.hid (by rw [← HN.out, ← hend]; exact HI.out)
              have HE : Hid (m = kk) := Lib.hid (by rw [HMM.out]; exact HW.out.len)
              have HF : Hid (Q (wr.setCells g (kk * 2) (List.replicate ((n - kk) * 2) (.int .i64 0)))) := Lib.hid (HQ.out _ (by
                rw [compact_take HW.out]
                exact own_cleared HM.out.own (by rw [HL.out]; omega) hk0 _) (gr_setCells _ _ HG.out))
              clear hend
              go_wp2
              go_ret
              exact ⟨by rw [HE.out]; rfl, HF.out⟩
        · have HD : Hid (Lib.keeps R.toArray k = true) := Lib.hid (Lib.keeps_pos (by rw [HXE.out.1, HXE.out.2]; exact hdup))
          rw [decide_eq_false hdup] at HC
          clear hdup
          go_wp2_with fail
          go_quiet_grown (first | (go_at_fn 29; refine Calls.grown_of (HC.out _ _)))
          dsimp only
          have HM2 := Lib.hid (HM.out.gn (w' := grow (wr.drewN nq) osq) ⟨nq, osq, rfl⟩)
          have HG2 := Lib.hid (HG.out.trans (Gn.gr (w' := grow (wr.drewN nq) osq) ⟨nq, osq, rfl⟩))
          clear a0 a1 b0 b1 HC HM HG hkm hkm' hkl hk' hen
          generalize grow (wr.drewN nq) osq = w2 at *
          have HMO := Lib.hid (Nat.lt_of_lt_of_le (show n - (k + 1) < n - k from Nat.sub_lt_sub_left hlt (Nat.lt_succ_self k)) hg)
          clear hg
          go_wp2_with fail
          clear hkn
          go_roundg (n - (k + 1))
          case measure => exact HMO.out
          case rel =>
            refine ⟨k + 1, by omega, by omega, Nat.le_refl _, by first | rfl | go_num, HM2, HG2, Lib.hid (fun j hj => ?_)⟩
            by_cases e : j = k
            · subst e; exact HD.out
            · exact HA.out j (by omega)
      · obtain rfl : k = n := by omega
        have hall : Lib.compact R = R := Lib.compact_all R (fun j hj => HA.out j (by rw [HN.out]; exact hj))
        have HE : Hid (m = k) := Lib.hid (by rw [HMM.out, hall]; exact HN.out.symm)
        have HF : Hid (Q wr) := Lib.hid (HQ.out _ (by rw [hall]; exact HM.out.own) HG.out)
        clear hall
        go_wp2
        go_ret
        exact ⟨by rw [HE.out]; rfl, HF.out⟩
end Rn
end Go.Proofs.Ytioidkbpjkcjeaa
