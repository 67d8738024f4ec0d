/- The document's Get of a JSON value. Conditions: those that each theorem names. -/
import Derived.Test.YtdooeedemgmpiaaDoorJgF
namespace Go.Proofs.YtdooeedemgmpiaaDoor
set_option linter.unusedVariables false
open Go Go.RowKit Js
namespace Jg
theorem get_late {k n : Int} {t s : ByteArray} {ns : List ByteArray} {l : List J} {q : Nat} (h : ∀ j, j < q → ns.getD j ByteArray.empty ≠ s) (hq : ¬ q < ns.length ∨ ¬ q < l.length) : get (.mk k n t ns l) s = (noJ, false) := by
  rcases idx_cases ns s with ⟨p, h1, h2, h3, h4⟩ | ⟨_, h4⟩
  · have hp : ¬ p < q := fun c => h p c h2
    exact get_far h4 (by omega)
  · exact get_miss h4
set_option maxHeartbeats 4000000 in
set_option maxRecDepth 100000 in
theorem rget_any (k n : Int) (t : ByteArray) (ns : List ByteArray) (l : List J) (s : ByteArray) (S : Nat → Prop) (v : Value) (w : World) (h : JAt S w (.mk k n t ns l) v) (hbig : Big (.mk k n t ns l)) :
    Calls Tryd.prog 5 #[v, .string s] w fun e w' => ∃ u, e = .returned (.tuple #[u, .bool (get (.mk k n t ns l) s).2]) ∧ JAt S w' (get (.mk k n t ns l) s).1 u ∧ Below w.heap.size w w' := by
  unfold JAt at h
  obtain ⟨np, nc, lp, lc, rfl, hn, hk⟩ := h
  unfold Big at hbig
  obtain ⟨_, bn, bl, _, ba⟩ := hbig
  have hb1 : Below w.heap.size w ((w.alloc (jO k n t (.slice np ns.length nc) (.slice lp l.length lc))).alloc zJ) := ((Below.refl _ w).alloc (Nat.le_refl _) _).alloc (by simp) _
  have z1 : ((w.alloc (jO k n t (.slice np ns.length nc) (.slice lp l.length lc))).alloc zJ).heap[w.heap.size]? = some (.cells #[.int .i64 k, .int .i64 n, .string t, .slice np ns.length nc, .slice lp l.length lc] 25 (0, 0)) := by rw [heapO _ _ (by simp), heapN]
  have z2 : ((w.alloc (jO k n t (.slice np ns.length nc) (.slice lp l.length lc))).alloc zJ).heap[w.heap.size + 1]? = some (.cells #[.int .i64 0, .int .i64 0, .string ⟨#[]⟩, .slice none 0 0, .slice none 0 0] 25 (0, 0)) := by
    have := heapN (w.alloc (jO k n t (.slice np ns.length nc) (.slice lp l.length lc))) zJ
    rw [show (w.alloc (jO k n t (.slice np ns.length nc) (.slice lp l.length lc))).heap.size = w.heap.size + 1 by simp] at this
    exact this
  have HN := Lib.hid hn
  have HK := Lib.hid hk
  have HB1 := Lib.hid hb1
  have HZ1 := Lib.hid z1
  have HZ2 := Lib.hid z2
  have HNM : Hid (ns.length ≤ maxLen) := Lib.hid (by unfold maxLen; omega)
  clear hn hk bn bl ba hb1 z1 z2
  go_enter Tryd.func5, Tryd.ntmps5
  go_wp2_with fail
  generalize (w.alloc (jO k n t (.slice np ns.length nc) (.slice lp l.length lc))).alloc zJ = w1 at *
  obtain ⟨a0, a1, a2, a3, a4⟩ := five_at HZ1.out
  obtain ⟨q0, q1, q2, q3, q4⟩ := five_at HZ2.out
  have f0 : w1.frozen? ⟨w.heap.size + 1, 0, none⟩ = false := Lib.frozen_of_heap HZ2.out 0
  have f1 : w1.frozen? ⟨w.heap.size + 1, 1, none⟩ = false := Lib.frozen_of_heap HZ2.out 1
  have f2 : w1.frozen? ⟨w.heap.size + 1, 2, none⟩ = false := Lib.frozen_of_heap HZ2.out 2
  have f3 : w1.frozen? ⟨w.heap.size + 1, 3, none⟩ = false := Lib.frozen_of_heap HZ2.out 3
  have f4 : w1.frozen? ⟨w.heap.size + 1, 4, none⟩ = false := Lib.frozen_of_heap HZ2.out 4
  have hfin : ∀ (e : Ending) (w' : World), e = .returned (.tuple #[leaf 0 0 ⟨#[]⟩, .bool false]) → w' = w1.setCells (w.heap.size + 1) 0 [.int .i64 0, .int .i64 0, .string ⟨#[]⟩, .slice none 0 0, .slice none 0 0] → get (.mk k n t ns l) s = (noJ, false) → ∃ u, e = .returned (.tuple #[u, .bool (get (.mk k n t ns l) s).2]) ∧ JAt S w' (get (.mk k n t ns l) s).1 u ∧ Below w.heap.size w w' := by
    rintro e w' rfl rfl hg
    rw [hg]
    exact ⟨_, rfl, JAt.leaf _ _ _ _ _, (put_frame _ _ _ _ _ _ _).2.2 _ _ (Nat.le_succ _) HB1.out⟩
  have HF := Lib.hid hfin
  clear hfin
  go_wp2_with fail
  go_loopw [6] (fun i wr => ∃ q : Nat, q ≤ ns.length ∧ i = .int .i64 q ∧ Hid (∀ j, j < q → ns.getD j ByteArray.empty ≠ s) ∧ wr = w1) (fun i _ => ns.length - (intOf i).toNat)
  case atStart => exact ⟨0, Nat.zero_le _, rfl, Lib.hid (fun i h => absurd h (by omega)), rfl⟩
  case round =>
    obtain ⟨q, hq, rfl, HS, rfl⟩ := hrel
    by_cases hlt : q < ns.length
    · by_cases hll : q < l.length
      · by_cases hk : k = 6
        · subst hk
          have g1 : (q : Int) < (ns.length : Int) := by omega
          have g2 : (q : Int) < (l.length : Int) := by omega
          obtain ⟨g, off, hgo, hg, hc⟩ := names_cells HN.out (by omega)
          have x0 := hc wr (HB1.out.block g hg) q hlt
          subst hgo
          by_cases he : ns.getD q ByteArray.empty = s
          · rw [he] at x0
            have hidx := Lib.idxOfS_hit ns ns.length q s hlt (Nat.le_refl _) he HS.out
            rw [List.take_length] at hidx
            have HG := Lib.hid (get_hit (k := 6) (n := n) (t := t) rfl hidx hll)
            obtain ⟨g2', off2, np', nc', lp', lc', hgo2, hg2, hn9, hk9, hj, hc2⟩ := kid_cells HK.out q hll
            subst hgo2
            obtain ⟨v0, v1, v2, v3, v4⟩ := hc2 wr (HB1.out.block g2' hg2)
            have HJ := Lib.hid hj
            clear hc hc2 hn9 hk9 hj hidx he hg hg2
            obtain ⟨jq, hjq⟩ : ∃ jq, jq = l[q] := ⟨_, rfl⟩
            rw [← hjq] at HJ HG v0 v1 v2 v3 v4
            clear hjq
            have HFN : Hid (∃ u, Ending.returned (.tuple #[.agg #[.int .i64 jq.kind, .int .i64 jq.num, .string jq.text, .slice np' jq.names.length nc', .slice lp' jq.list.length lc'], .bool true]) = .returned (.tuple #[u, .bool (get (.mk 6 n t ns l) s).2]) ∧ JAt S (wr.setCells (w.heap.size + 1) 0 [.int .i64 jq.kind, .int .i64 jq.num, .string jq.text, .slice np' jq.names.length nc', .slice lp' jq.list.length lc']) (get (.mk 6 n t ns l) s).1 u ∧ Below w.heap.size w (wr.setCells (w.heap.size + 1) 0 [.int .i64 jq.kind, .int .i64 jq.num, .string jq.text, .slice np' jq.names.length nc', .slice lp' jq.list.length lc'])) := by
              have hp := put_frame wr (w.heap.size + 1) (.int .i64 jq.kind) (.int .i64 jq.num) (.string jq.text) (.slice np' jq.names.length nc') (.slice lp' jq.list.length lc')
              have hbw := hp.2.2 _ _ (Nat.le_succ _) HB1.out
              rw [HG.out]
              exact Lib.hid ⟨_, rfl, jat_below HJ.out hbw, hbw⟩
            clear HJ HG
            generalize jq.kind = r1 at *
            generalize jq.num = r2 at *
            generalize jq.text = r3 at *
            generalize jq.names.length = r4 at *
            generalize jq.list.length = r5 at *
            go_wp2_with fail
            refine bodyPost_ret (v := .tuple #[.agg #[.int .i64 r1, .int .i64 r2, .string r3, .slice np' r4 nc', .slice lp' r5 lc'], .bool true]) (by simp [results, Tryd.results5, go_sem, q0, q1, q2, q3, q4]) rfl HFN.out
          · have HSN : Hid (∀ j, j < q + 1 → ns.getD j ByteArray.empty ≠ s) := Lib.hid (fun j hj => by
              rcases Nat.lt_or_ge j q with c | c
              · exact HS.out j c
              · rw [show j = q by omega]; exact he)
            obtain ⟨s1, hs1⟩ : ∃ s1, s1 = ns.getD q ByteArray.empty := ⟨_, rfl⟩
            rw [← hs1] at x0 he
            have hts := text_same s1 s
            rw [decide_eq_false he] at hts
            clear hc hs1 he hg
            go_wp2_with fail
            go_roundw
            case rel => exact ⟨q + 1, hlt, congrArg _ (wrap_q HNM.out hlt), HSN, trivial⟩
            case measure =>
              rw [wrap_q HNM.out hlt]
              exact less_q hlt
        · have HG := Lib.hid (get_kind (k := k) (n := n) (t := t) (s := s) (ns := ns) (l := l) hk)
          have g1 : (q : Int) < (ns.length : Int) := by omega
          have g2 : (q : Int) < (l.length : Int) := by omega
          have g3 : (k == 6) = false := by simpa using hk
          clear hk
          go_wp2_with fail
          refine bodyPost_ret (v := .tuple #[leaf 0 0 ⟨#[]⟩, .bool false]) (by simp [results, Tryd.results5, go_sem, leaf, q0, q1, q2, q3, q4]) rfl (HF.out _ _ rfl rfl HG.out)
      · have HG := Lib.hid (get_late (k := k) (n := n) (t := t) (l := l) HS.out (.inr hll))
        have g1 : (q : Int) < (ns.length : Int) := by omega
        have g2 : ¬ (q : Int) < (l.length : Int) := by omega
        clear hll
        go_wp2_with fail
        refine bodyPost_ret (v := .tuple #[leaf 0 0 ⟨#[]⟩, .bool false]) (by simp [results, Tryd.results5, go_sem, leaf, q0, q1, q2, q3, q4]) rfl (HF.out _ _ rfl rfl HG.out)
    · have HG := Lib.hid (get_late (k := k) (n := n) (t := t) (l := l) HS.out (.inl hlt))
      have g1 : ¬ (q : Int) < (ns.length : Int) := by omega
      clear hlt
      go_wp2_with fail
      refine bodyPost_ret (v := .tuple #[leaf 0 0 ⟨#[]⟩, .bool false]) (by simp [results, Tryd.results5, go_sem, leaf, q0, q1, q2, q3, q4]) rfl (HF.out _ _ rfl rfl HG.out)
end Jg
end Go.Proofs.YtdooeedemgmpiaaDoor
