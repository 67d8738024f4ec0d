/- The document's Same of two JSON values. Conditions: those that each theorem names. -/
import Derived.Test.YtdooeedemgmpiaaDoorJgB
import Derived.BigQuiet
import Derived.Deep.DeepCutAuto
import Derived.Deep.CutRange
namespace Go.Proofs.YtdooeedemgmpiaaDoor
set_option linter.unusedVariables false
open Go Go.RowKit Js
namespace Jg
def SameOkR (j : J) : Prop := ∀ (j2 : J) (S S2 : Nat → Prop) (u v : Value) (w : World), JAt S w j u → JAt S2 w j2 v → Big j → Big j2 →
  Calls Tryd.prog 6 #[u, v] w fun e w' => e = .returned (.bool (same j j2)) ∧ Below w.heap.size w w'
theorem five_cells {W : World} {g : Nat} {a b c d e : Value} {T : TypeId} (hg : W.heap[g]? = some (.cells #[a, b, c, d, e] T (0, 0))) : W.cell? ⟨g, 0, none⟩ = some a ∧ W.cell? ⟨g, 1, none⟩ = some b ∧ W.cell? ⟨g, 2, none⟩ = some c ∧ W.cell? ⟨g, 3, none⟩ = some d ∧ W.cell? ⟨g, 4, none⟩ = some e := by
  simp [World.cell?, hg]
set_option maxHeartbeats 4000000 in
set_option maxRecDepth 100000 in
theorem rsame_step (k n : Int) (t : ByteArray) (ns : List ByteArray) (l : List J) (hl : ∀ j ∈ l, SameOkR j) : SameOkR (.mk k n t ns l) := by
  intro j2 S S2 u v w h h2 b1 b2
  obtain ⟨k2, n2, t2, ns2, l2⟩ := j2
  unfold JAt at h h2
  obtain ⟨np, nc, lp, lc, rfl, hn, hk⟩ := h
  obtain ⟨np2, nc2, lp2, lc2, rfl, hn2, hk2⟩ := h2
  unfold Big at b1 b2
  obtain ⟨_, bn1, bl1, _, ba1⟩ := b1
  obtain ⟨_, bn2, bl2, _, ba2⟩ := b2
  have HM := Lib.hid (same_mk k n k2 n2 t t2 ns ns2 l l2)
  have ht := text_same t t2
  have HBW : Hid (Below w.heap.size w ((w.alloc (jO k n t (.slice np ns.length nc) (.slice lp l.length lc))).alloc (jO k2 n2 t2 (.slice np2 ns2.length nc2) (.slice lp2 l2.length lc2)))) := Lib.hid (((Below.refl _ w).alloc (Nat.le_refl _) _).alloc (by simp) _)
  rw [HM.out]
  by_cases h1 : k = k2
  · have g1 : (k != k2) = false := by simpa using h1
    rw [decide_eq_true h1]
    by_cases h2 : n = n2
    · have g2 : (n != n2) = false := by simpa using h2
      rw [decide_eq_true h2]
      by_cases h3 : t = t2
      · rw [decide_eq_true h3] at ht ⊢
        by_cases h4 : ns.length = ns2.length
        · have g4 : ((ns.length : Int) != (ns2.length : Int)) = false := by simp; omega
          by_cases h5 : l.length = l2.length
          · have g5 : ((l.length : Int) != (l2.length : Int)) = false := by simp; omega
            obtain ⟨w1, hw1⟩ : ∃ w1, w1 = (w.alloc (jO k n t (.slice np ns.length nc) (.slice lp l.length lc))).alloc (jO k2 n2 t2 (.slice np2 ns2.length nc2) (.slice lp2 l2.length lc2)) := ⟨_, rfl⟩
            have hB : Below w.heap.size w w1 := by rw [hw1]; exact HBW.out
            have z1 : w1.heap[w.heap.size]? = some (.cells #[.int .i64 k, .int .i64 n, .string t, .slice np ns.length nc, .slice lp l.length lc] 25 (0, 0)) := by
              rw [hw1, heapO _ _ (by simp), heapN]
            have z2 : w1.heap[w.heap.size + 1]? = some (.cells #[.int .i64 k2, .int .i64 n2, .string t2, .slice np2 ns2.length nc2, .slice lp2 l2.length lc2] 25 (0, 0)) := by
              have := heapN (w.alloc (jO k n t (.slice np ns.length nc) (.slice lp l.length lc))) (jO k2 n2 t2 (.slice np2 ns2.length nc2) (.slice lp2 l2.length lc2))
              rw [show (w.alloc (jO k n t (.slice np ns.length nc) (.slice lp l.length lc))).heap.size = w.heap.size + 1 by simp] at this
              rw [hw1]
              exact this
            rw [← h4, ← h5] at z2 hw1
            rw [← h4] at g4 ⊢
            rw [← h5] at g5 ⊢
            have HN := Lib.hid (hn.frame (S' := S) (fun _ _ h => h) (fun b _ hlt => hB.block b hlt) hB.size)
            have HN2 := Lib.hid (hn2.frame (S' := S2) (fun _ _ h => h) (fun b _ hlt => hB.block b hlt) hB.size)
            have HK := Lib.hid (kids_below hk hB)
            have HK2 := Lib.hid (kids_below hk2 hB)
            have HB := Lib.hid hB
            have HZ1 := Lib.hid z1
            have HZ2 := Lib.hid z2
            have HH4 := Lib.hid h4
            have HH5 := Lib.hid h5
            have HL := Lib.hid hl
            have HA1 := Lib.hid ba1.mem
            have HA2 := Lib.hid ba2.mem
            have HNM : Hid (ns.length ≤ maxLen) := Lib.hid (by unfold maxLen; omega)
            have HLM : Hid (l.length ≤ maxLen) := Lib.hid (by unfold maxLen; omega)
            obtain ⟨y1, hy1⟩ : ∃ y1, y1 = l.length := ⟨_, rfl⟩
            obtain ⟨y3, hy3⟩ : ∃ y3, y3 = ns.length := ⟨_, rfl⟩
            have HY1 := Lib.hid hy1
            have HY3 := Lib.hid hy3
            rw [← hy1] at HLM HZ1 HZ2 hw1 g5 ⊢
            rw [← hy3] at HNM HZ1 HZ2 hw1 g4 ⊢
            clear h1 h2 h3 h4 h5 hn hn2 hk hk2 bn1 bn2 bl1 bl2 ba1 ba2 HM hl hB z1 z2 hy1 hy3 HBW
            go_enter Tryd.func6, Tryd.ntmps6
            go_wp2_with fail
            rw [← hw1]
            clear hw1
            go_loopw [5] (fun i wr => ∃ q : Nat, q ≤ y3 ∧ i = .int .i64 q ∧ Hid (∀ i (h1 : i < ns.length) (h2 : i < ns2.length), i < q → ns[i] = ns2[i]) ∧ ∃ nq, wr = w1.drewN nq) (fun i _ => y3 - (intOf i).toNat)
            case atStart => exact ⟨0, Nat.zero_le _, rfl, Lib.hid (fun i _ _ h => absurd h (by omega)), 0, rfl⟩
            case round =>
              obtain ⟨q, hq, rfl, HS, nq, rfl⟩ := hrel
              have HNQ : Hid (∀ n, ∃ nq', (w1.drewN nq).drewN n = w1.drewN nq') := Lib.hid (fun n => ⟨nq + n, World.drewN_drewN ..⟩)
              obtain ⟨_, _, _, a3, a4⟩ := five_cells (W := w1.drewN nq) HZ1.out
              obtain ⟨_, _, _, c3, c4⟩ := five_cells (W := w1.drewN nq) HZ2.out
              by_cases hlt : q < y3
              · have hq1 : q < ns.length := by rw [← HY3.out]; exact hlt
                have hq2 : q < ns2.length := by rw [← HH4.out]; exact hq1
                obtain ⟨g, off, hgo, _, hc⟩ := names_cells HN.out (by omega)
                obtain ⟨g2, off2, hgo2, _, hc2⟩ := names_cells HN2.out (by omega)
                have x0 := hc (w1.drewN nq) rfl q hq1
                have x1 := hc2 (w1.drewN nq) rfl q hq2
                subst hgo hgo2
                have hx : ns.getD q ByteArray.empty = ns[q] := by simp [List.getD, List.getElem?_eq_getElem hq1]
                have hx2 : ns2.getD q ByteArray.empty = ns2[q] := by simp [List.getD, List.getElem?_eq_getElem hq2]
                rw [hx] at x0
                rw [hx2] at x1
                have hts := text_same ns[q] ns2[q]
                have hlt' : (q : Int) < (y3 : Int) := by omega
                obtain ⟨s1, hs1⟩ : ∃ s1, s1 = ns[q] := ⟨_, rfl⟩
                obtain ⟨s2, hs2⟩ : ∃ s2, s2 = ns2[q] := ⟨_, rfl⟩
                rw [← hs1] at x0 hts
                rw [← hs2] at x1 hts
                have HS1 := Lib.hid hs1
                have HS2 := Lib.hid hs2
                have HQ1 := Lib.hid hq1
                have HQ2 := Lib.hid hq2
                have HBO : Hid (Below w.heap.size w (w1.drewN nq)) := Lib.hid (HB.out.trans ((below_drewN w1 nq).mono HB.out.size))
                clear hc hc2 hx hx2 hs1 hs2 hq
                generalize w1.drewN nq = wo at *
                by_cases he : s1 = s2
                · rw [decide_eq_true he] at hts
                  have HSN : Hid (∀ i (h1 : i < ns.length) (h2 : i < ns2.length), i < q + 1 → ns[i] = ns2[i]) := Lib.hid (fun i h1 h2 hi => by
                    rcases Nat.lt_or_ge i q with c | c
                    · exact HS.out i h1 h2 c
                    · obtain rfl : i = q := by omega
                      rw [← HS1.out, ← HS2.out]; exact he)
                  clear he
                  go_wp2_with fail
                  go_quiet (fail)
                  go_wp2_with fail
                  go_roundw
                  case rel => exact ⟨q + 1, hlt, congrArg _ (wrap_q HNM.out hlt), HSN, HNQ.out _⟩
                  case measure =>
                    rw [wrap_q HNM.out hlt]
                    exact less_q hlt
                · rw [decide_eq_false he] at hts
                  have HNE : Hid (decide (ns = ns2) = false) := Lib.hid (decide_eq_false (fun e => he (by rw [HS1.out, HS2.out]; simp only [e])))
                  clear he
                  go_wp2_with fail
                  go_quiet (fail)
                  go_wp2_with fail
                  go_ret
                  exact ⟨by rw [HNE.out]; simp, HBO.out.trans ((below_drewN wo _).mono HBO.out.size)⟩
              · obtain rfl : q = y3 := by omega
                have hne : decide (ns = ns2) = true := decide_eq_true (List.ext_getElem HH4.out fun i h1 h2 => HS.out i h1 h2 (by rw [HY3.out]; exact h1))
                have HNE := Lib.hid hne
                clear hlt hq hne
                have HBO : Hid (Below w1.heap.size w1 (w1.drewN nq)) := Lib.hid (below_drewN w1 nq)
                clear HNQ
                generalize w1.drewN nq = w2 at *
                go_wp2_with fail
                go_loopw [6] (fun i wr => ∃ q : Nat, q ≤ y1 ∧ i = .int .i64 q ∧ Hid (∀ i (h1 : i < l.length) (h2 : i < l2.length), i < q → same l[i] l2[i] = true) ∧ Below w1.heap.size w1 wr) (fun i _ => y1 - (intOf i).toNat)
                case atStart => exact ⟨0, Nat.zero_le _, rfl, Lib.hid (fun i _ _ h => absurd h (by omega)), HBO.out⟩
                case round =>
                  obtain ⟨z, hz, rfl, HS2, hb⟩ := hrel
                  obtain ⟨wo, rfl⟩ : ∃ wo : World, wo = wr := ⟨_, rfl⟩
                  have HBR := Lib.hid hb
                  obtain ⟨_, _, _, a3, a4⟩ := five_cells (W := wo) ((hb.block _ (Array.getElem?_eq_some_iff.1 HZ1.out).1).trans HZ1.out)
                  obtain ⟨_, _, _, c3, c4⟩ := five_cells (W := wo) ((hb.block _ (Array.getElem?_eq_some_iff.1 HZ2.out).1).trans HZ2.out)
                  by_cases hlt : z < y1
                  · have hz1 : z < l.length := by rw [← HY1.out]; exact hlt
                    have hz2 : z < l2.length := by rw [← HH5.out]; exact hz1
                    obtain ⟨g, off, np', nc', lp', lc', hgo, hg, hn, hk, hj, hc⟩ := kid_cells HK.out z hz1
                    obtain ⟨g2, off2, np2', nc2', lp2', lc2', hgo2, hg2, hn2, hk2, hj2, hc2⟩ := kid_cells HK2.out z hz2
                    subst hgo hgo2
                    obtain ⟨x0, x1, x2, x3, x4⟩ := hc wo (hb.block g hg)
                    obtain ⟨v0, v1, v2, v3, v4⟩ := hc2 wo (hb.block g2 hg2)
                    have hbd : Below w1.heap.size w1 wo.drew := hb.drew
                    have CS := Lib.hid (HL.out l[z] (List.getElem_mem hz1) l2[z] S S2 _ _ wo.drew (jat_below hj hbd) (jat_below hj2 hbd) (HA1.out _ (List.getElem_mem hz1)) (HA2.out _ (List.getElem_mem hz2)))
                    have hlt' : (z : Int) < (y1 : Int) := by omega
                    obtain ⟨r, hr⟩ : ∃ r, r = same l[z] l2[z] := ⟨_, rfl⟩
                    rw [← hr] at CS
                    have HR := Lib.hid hr
                    have HZ := Lib.hid hz1
                    generalize l[z].names.length = m1 at *
                    generalize l[z].list.length = m2 at *
                    generalize l2[z].names.length = m3 at *
                    generalize l2[z].list.length = m4 at *
                    generalize l[z].kind = k1 at *
                    generalize l[z].num = k2' at *
                    generalize l[z].text = k3 at *
                    generalize l2[z].kind = k4 at *
                    generalize l2[z].num = k5 at *
                    generalize l2[z].text = k6 at *
                    clear hr hc hc2 hn hn2 hk hk2 hj hj2 hg hg2 hb hbd hz
                    go_upto_region 11 with fail
                    go_cut [80] (fun b wx => b = .bool (!r) ∧ Below w1.heap.size w1 wx)
                    case first =>
                      go_region_with (go_at_call 6; refine CS.out.mono ?_; rintro e w5 ⟨rfl, hb5⟩)
                      all_goals go_wp2_with fail
                      all_goals go_meet
                      all_goals exact ⟨rfl, HBR.out.drew.trans (hb5.mono HBR.out.size)⟩
                    case rest =>
                      obtain ⟨rfl, hb6⟩ := hcut
                      have HB6 := Lib.hid hb6
                      clear hb6
                      cases hrr : r
                      · have HF : Hid (sameAll l l2 = false) := Lib.hid (all_differ HZ.out hz2 (by rw [← HR.out]; exact hrr))
                        go_wp2_with fail
                        go_ret
                        exact ⟨by rw [HF.out]; simp, HB.out.trans (HB6.out.mono HB.out.size)⟩
                      · have HSN : Hid (∀ i (h1 : i < l.length) (h2 : i < l2.length), i < z + 1 → same l[i] l2[i] = true) := Lib.hid (fun i h1 h2 hi => by
                          rcases Nat.lt_or_ge i z with c | c
                          · exact HS2.out i h1 h2 c
                          · obtain rfl : i = z := by omega
                            rw [← HR.out]; exact hrr)
                        go_wp2_with fail
                        go_roundw
                        case rel => exact ⟨z + 1, hlt, congrArg _ (wrap_q HLM.out hlt), HSN, HB6.out⟩
                        case measure =>
                          rw [wrap_q HLM.out hlt]
                          exact less_q hlt
                  · obtain rfl : z = y1 := by omega
                    have HF : Hid (sameAll l l2 = true) := Lib.hid (all_same HH5.out (fun i h1 h2 => HS2.out i h1 h2 (by rw [HY1.out]; exact h1)))
                    clear hb
                    go_wp2_with fail
                    go_ret
                    exact ⟨by rw [HF.out, HNE.out]; simp, HB.out.trans (HBR.out.mono HB.out.size)⟩
          · have g5 : ((l.length : Int) != (l2.length : Int)) = true := by simp; omega
            rw [all_lens h5, Bool.and_false]
            clear h1 h2 h3 h4 h5 hn hn2 hk hk2 bn1 bn2 bl1 bl2 ba1 ba2 HM hl
            generalize l.length = y1 at *
            generalize l2.length = y2 at *
            generalize ns.length = y3 at *
            generalize ns2.length = y4 at *
            go_enter Tryd.func6, Tryd.ntmps6
            go_wp2_with fail
            go_ret
            exact ⟨rfl, HBW.out⟩
        · have g4 : ((ns.length : Int) != (ns2.length : Int)) = true := by simp; omega
          rw [decide_eq_false (fun e : ns = ns2 => h4 (by rw [e]))]
          clear h1 h2 h3 h4 hn hn2 hk hk2 bn1 bn2 bl1 bl2 ba1 ba2 HM hl
          generalize l.length = y1 at *
          generalize l2.length = y2 at *
          generalize ns.length = y3 at *
          generalize ns2.length = y4 at *
          go_enter Tryd.func6, Tryd.ntmps6
          go_wp2_with fail
          go_ret
          exact ⟨by simp, HBW.out⟩
      · rw [decide_eq_false h3] at ht ⊢
        clear h1 h2 h3 hn hn2 hk hk2 bn1 bn2 bl1 bl2 ba1 ba2 HM hl
        go_enter Tryd.func6, Tryd.ntmps6
        go_wp2_with fail
        go_ret
        exact ⟨by simp, HBW.out⟩
    · have g2 : (n != n2) = true := by simpa using h2
      rw [decide_eq_false h2]
      clear h1 h2 hn hn2 hk hk2 bn1 bn2 bl1 bl2 ba1 ba2 HM hl
      go_enter Tryd.func6, Tryd.ntmps6
      go_wp2_with fail
      go_ret
      exact ⟨by simp, HBW.out⟩
  · have g1 : (k != k2) = true := by simpa using h1
    rw [decide_eq_false h1]
    clear h1 hn hn2 hk hk2 bn1 bn2 bl1 bl2 ba1 ba2 HM hl
    go_enter Tryd.func6, Tryd.ntmps6
    go_wp2_with fail
    go_ret
    exact ⟨by simp, HBW.out⟩
mutual
theorem rsame_ok : ∀ j : J, SameOkR j
  | .mk k n t ns l => rsame_step k n t ns l (rall_ok l)
theorem rall_ok : ∀ l : List J, ∀ j ∈ l, SameOkR j
  | [], _, h => by simp at h
  | a :: l, j, h => by
    rcases List.mem_cons.1 h with h | h
    · rw [h]; exact rsame_ok a
    · exact rall_ok l j h
end
end Jg
end Go.Proofs.YtdooeedemgmpiaaDoor
