/- The document's sorted. Conditions: those that each theorem names. -/
import Derived.Test.YtmkilmglmeohmaaSsI
import Derived.BigQuiet
namespace Go.Proofs.Ytmkilmglmeohmaa
set_option linter.unusedVariables false
open Go Go.RowKit Go.Sort
namespace Ss
theorem below_drewN (w : World) (n : Nat) : Below w.heap.size w (w.drewN n) := ⟨rfl, rfl, rfl, Nat.le_refl _, fun _ _ => rfl⟩
set_option maxHeartbeats 4000000 in
set_option maxRecDepth 100000 in
theorem rsorted_any (L : List Int) (v : Value) (w : World) (h : IntsAt w v L) (hl : L.length * 8 + 16 ≤ 140737488355328) :
    Calls Try.prog 19 #[v] w fun e w' => ∃ u, e = .returned u ∧ Own w' w.heap.size u (srt L) ∧ Below w.heap.size w w' := by
  obtain ⟨p, c, rfl⟩ := h.form
  have HC := Lib.hid (Rx.row_cells h)
  obtain ⟨n, hn⟩ : ∃ n, n = L.length := ⟨_, rfl⟩
  have HN := Lib.hid hn
  have HNB : Hid (n * 8 + 16 ≤ 140737488355328) := Lib.hid (by omega)
  have HMX : Hid (n ≤ maxLen) := Lib.hid (by unfold maxLen; omega)
  have HFIN : Hid (sortL L = srt L) := Lib.hid (sortL_is L)
  rw [← hn]
  clear h hl hn
  go_enter Try.func19, Try.ntmps19
  go_wp2_with fail
  go_loopw [3, 4, 5, 6, 7] (fun o i nx pl kk wr => ∃ j : Nat, j ≤ n ∧ i = .int .i64 j ∧ Own wr w.heap.size o (sortL (L.take j)) ∧ Below w.heap.size w wr) (fun _ i _ _ _ _ => n - (intOf i).toNat)
  case atStart => exact ⟨0, Nat.zero_le _, rfl, World.ownsRow_nil _ _ _ _, Below.refl _ _⟩
  case round =>
    obtain ⟨j, hj, rfl, ho, hb⟩ := hrel
    have HB := Lib.hid hb
    have HO := Lib.hid ho
    clear ho hb
    obtain ⟨wo, rfl⟩ : ∃ wo : World, wo = wr := ⟨_, rfl⟩
    by_cases hlt : j < n
    · have hjl : j < L.length := by rw [← HN.out]; exact hlt
      obtain ⟨b, off, rfl, hbl, hc⟩ := HC.out j hjl
      obtain ⟨x, hxe⟩ : ∃ x, x = L[j] := ⟨_, rfl⟩
      have HX : Hid (∀ W, Below wo.heap.size wo W → W.cell? ⟨b, off + j, none⟩ = some (.int .i64 x)) := Lib.hid (fun W hW => by
        rw [hxe]
        exact hc W (HB.out.trans (hW.mono HB.out.size)))
      have HNXT : Hid (sortL (L.take (j + 1)) = insS x (sortL (L.take j))) := Lib.hid (by rw [hxe]; exact sortL_next hjl)
      obtain ⟨O, hO⟩ : ∃ O, O = sortL (L.take j) := ⟨_, rfl⟩
      have hOl : O.length = j := by rw [hO, sortL_len, List.length_take]; omega
      rw [← hO] at HO HNXT
      obtain ⟨po, co, rfl⟩ := HO.out.at.form
      have HCO := Lib.hid (Rx.row_cells HO.out.at)
      rw [hOl] at HO ⊢
      have HOL := Lib.hid hOl
      have hjn : (j : Int) < (n : Int) := by omega
      have HJN := Lib.hid hlt
      have HMJ : Hid (j ≤ maxLen) := Lib.hid (Nat.le_trans hj HMX.out)
      clear hxe hO hOl hc hjl
      go_wp2_with fail
      go_loopw [5, 6, 7] (fun s pl i wr => ∃ k : Nat, k ≤ j ∧ i = .int .i64 k ∧ pl = .bool (putS x O k).2 ∧ Own wr wo.heap.size s (putS x O k).1 ∧ Below wo.heap.size wo wr) (fun _ _ i _ => j - (intOf i).toNat)
      case atStart => exact ⟨0, Nat.zero_le _, rfl, rfl, World.ownsRow_nil _ _ _ _, Below.refl _ _⟩
      case round =>
        obtain ⟨k, hk, rfl, rfl, ho, hb⟩ := hrel
        have HB2 := Lib.hid hb
        have HO2 := Lib.hid ho
        clear ho hb
        obtain ⟨wi, rfl⟩ : ∃ wi : World, wi = wr := ⟨_, rfl⟩
        have hpl := putS_len x O k (by rw [HOL.out]; exact hk)
        by_cases hlt2 : k < j
        · have hkO : k < O.length := by rw [HOL.out]; exact hlt2
          have hy : O[k]? = some O[k] := List.getElem?_eq_getElem hkO
          obtain ⟨g2, off2, rfl, _, hc2⟩ := HCO.out k hkO
          obtain ⟨y, hye⟩ : ∃ y, y = O[k] := ⟨_, rfl⟩
          rw [← hye] at hy
          have HNX := Lib.hid (putS_next (x := x) hy)
          have HY : Hid (∀ W, Below wo.heap.size wo W → W.cell? ⟨g2, off2 + k, none⟩ = some (.int .i64 y)) := Lib.hid (fun W hW => by rw [hye]; exact hc2 W hW)
          obtain ⟨N, pb, hst⟩ : ∃ N pb, putS x O k = (N, pb) := ⟨_, _, rfl⟩
          have HST := Lib.hid hst
          rw [hst] at HO2 hpl HNX ⊢
          simp only at HO2 hpl
          have HBD : Hid ((N.length + 1) * 8 ≤ 140737488355328 ∧ (pb = false → (N.length + 1 + 1) * 8 ≤ 140737488355328)) := Lib.hid (by
            have h1 := HNB.out; have h2 := HJN.out
            refine ⟨by split at hpl <;> omega, fun hf => ?_⟩
            rw [hf] at hpl
            simp at hpl
            omega)
          have hkm : (k : Int) < (j : Int) := by omega
          have hkm1 : k + 1 ≤ j := hlt2
          have a0 := HX.out wi HB2.out
          have b0 := HY.out wi HB2.out
          clear hc2 hye hy hkO hst hpl
          by_cases hcase : pb = false ∧ x < y
          · obtain ⟨rfl, hxy⟩ := hcase
            have hd : decide (x < y) = true := by simpa using hxy
            have HN2 : Hid (putS x O (k + 1) = (N ++ [x] ++ [y], true)) := Lib.hid (by rw [HNX.out]; simp [stS, hxy])
            clear hxy HNX
            go_wp2_with fail
            go_quiet (fail)
            have HB3 := Lib.hid (HB2.out.trans ((below_drewN wi nq).mono HB2.out.size))
            have HO3 := Lib.hid (own_below HO2.out (below_drewN wi nq))
            clear a0 b0 HB2 HO2
            generalize wi.drewN nq = w1 at *
            have a0 := HX.out w1 HB3.out
            obtain ⟨v3, w3, hr3, ho3, hb3⟩ := Rx.append_one x HO3.out HBD.out.1 HB3.out.size
            have HB4 := Lib.hid (HB3.out.trans hb3)
            have b0 := HY.out w3 HB4.out
            obtain ⟨v4, w4, hr4, ho4, hb4⟩ := Rx.append_one y ho3 (by have := HBD.out.2 (by trivial); simpa using this) HB4.out.size
            have HO6 := Lib.hid ho4
            have HB6 := Lib.hid (HB4.out.trans hb4)
            clear ho3 hb3 ho4 hb4 HB3 HO3 HST HBD
            go_wp2_with (first | (at_builtin; refine wpList_append_run rfl _ _ _ _ rfl _ _ _ _ rfl rfl hr3 ?_; clear hr3) | (at_builtin; refine wpList_append_run rfl _ _ _ _ rfl _ _ _ _ rfl rfl hr4 ?_; clear hr4))
            go_roundw
            case rel => exact ⟨k + 1, hkm1, congrArg _ (wrap_s HMJ.out hlt2), by rw [HN2.out], by rw [HN2.out]; exact HO6.out, HB6.out⟩
            case measure =>
              rw [wrap_s HMJ.out hlt2]
              exact int_less hlt2
          · have HN2 : Hid (putS x O (k + 1) = (N ++ [y], pb)) := Lib.hid (by rw [HNX.out]; unfold stS; rw [if_neg hcase])
            have hd2 : pb = true ∨ (pb = false ∧ decide (x < y) = false) := by
              cases pb
              · refine .inr ⟨rfl, ?_⟩
                simp at hcase ⊢
                exact hcase
              · exact .inl rfl
            clear hcase HNX
            rcases hd2 with rfl | ⟨rfl, hd⟩
            all_goals go_wp2_with fail
            all_goals go_quiet (fail)
            all_goals
              have HB3 := Lib.hid (HB2.out.trans ((below_drewN wi nq).mono HB2.out.size))
              have HO3 := Lib.hid (own_below HO2.out (below_drewN wi nq))
              clear a0 b0 HB2 HO2
              generalize wi.drewN nq = w1 at *
              have b0 := HY.out w1 HB3.out
              obtain ⟨v3, w3, hr3, ho3, hb3⟩ := Rx.append_one y HO3.out HBD.out.1 HB3.out.size
              have HO6 := Lib.hid ho3
              have HB6 := Lib.hid (HB3.out.trans hb3)
              clear ho3 hb3 HB3 HO3 HST HBD
            all_goals go_wp2_with (first | (at_builtin; refine wpList_append_run rfl _ _ _ _ rfl _ _ _ _ rfl rfl hr3 ?_; clear hr3))
            all_goals go_roundw
            case rel => exact ⟨k + 1, hkm1, congrArg _ (wrap_s HMJ.out hlt2), by rw [HN2.out], by rw [HN2.out]; exact HO6.out, HB6.out⟩
            case measure =>
              rw [wrap_s HMJ.out hlt2]
              exact int_less hlt2
            case rel => exact ⟨k + 1, hkm1, congrArg _ (wrap_s HMJ.out hlt2), by rw [HN2.out], by rw [HN2.out]; exact HO6.out, HB6.out⟩
            case measure =>
              rw [wrap_s HMJ.out hlt2]
              exact int_less hlt2
        · obtain rfl : k = j := by omega
          have hall := putS_all x O
          rw [HOL.out] at hall
          obtain ⟨N, pb, hst⟩ : ∃ N pb, putS x O k = (N, pb) := ⟨_, _, rfl⟩
          rw [hst] at HO2 hpl hall ⊢
          simp only at HO2 hpl
          unfold finS at hall
          simp only at hall
          have a0 := HX.out wi HB2.out
          cases pb with
          | true =>
            rw [if_pos rfl] at hall
            have HR : Hid (Own wi w.heap.size u5 (sortL (L.take (k + 1)))) := Lib.hid (by rw [HNXT.out, ← hall]; exact own_base HO2.out HB.out.size)
            have HB9 := Lib.hid (HB.out.trans (HB2.out.mono HB.out.size))
            clear hall hst hpl HO2
            go_wp2_with fail
            go_roundw
            case rel => exact ⟨k + 1, HJN.out, congrArg _ (wrap_s HMX.out HJN.out), HR.out, HB9.out⟩
            case measure =>
              rw [wrap_s HMX.out HJN.out]
              exact int_less HJN.out
          | false =>
            simp at hpl
            obtain ⟨v3, w3, hr3, ho3, hb3⟩ := Rx.append_one x HO2.out (by have := HNB.out; have := HJN.out; omega) HB2.out.size
            have hall : N ++ [x] = insS x O := by simpa using hall
            have HR : Hid (Own w3 w.heap.size v3 (sortL (L.take (k + 1)))) := Lib.hid (by rw [HNXT.out, ← hall]; exact own_base ho3 HB.out.size)
            have HB9 := Lib.hid (HB.out.trans ((HB2.out.trans hb3).mono HB.out.size))
            clear hall hst hpl HO2 ho3 hb3
            go_wp2_with (first | (at_builtin; refine wpList_append_run rfl _ _ _ _ rfl _ _ _ _ rfl rfl hr3 ?_; clear hr3))
            go_roundw
            case rel => exact ⟨k + 1, HJN.out, congrArg _ (wrap_s HMX.out HJN.out), HR.out, HB9.out⟩
            case measure =>
              rw [wrap_s HMX.out HJN.out]
              exact int_less HJN.out
    · obtain rfl : j = n := by omega
      have ho := HO.out
      rw [HN.out, List.take_length, HFIN.out] at ho
      have HOE := Lib.hid ho
      clear ho HO
      go_wp2_with fail
      go_ret
      exact ⟨_, rfl, HOE.out, HB.out⟩
end Ss
end Go.Proofs.Ytmkilmglmeohmaa
