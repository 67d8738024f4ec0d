/- Get of a JSON value, plain, and the program's. Conditions: those that each theorem names. -/
import Derived.Test.YtdooeedemgmpiaaDoorJgE
namespace Go.Proofs.YtdooeedemgmpiaaDoor
set_option linter.unusedVariables false
open Go Go.RowKit Js
namespace Jg
abbrev noJ : J := .mk 0 0 ⟨#[]⟩ [] []
def get : J → ByteArray → J × Bool
  | .mk k _ _ ns l, s => if k = 6 ∧ 0 ≤ Lib.idxOfS ns s ∧ (Lib.idxOfS ns s).toNat < l.length then (l.getD (Lib.idxOfS ns s).toNat noJ, true) else (noJ, false)
theorem get_mk (k n : Int) (t s : ByteArray) (ns : List ByteArray) (l : List J) : get (.mk k n t ns l) s = if k = 6 ∧ 0 ≤ Lib.idxOfS ns s ∧ (Lib.idxOfS ns s).toNat < l.length then (l.getD (Lib.idxOfS ns s).toNat noJ, true) else (noJ, false) := rfl
theorem idx_cases (ns : List ByteArray) (s : ByteArray) : (∃ q, q < ns.length ∧ ns.getD q ByteArray.empty = s ∧ (∀ j, j < q → ns.getD j ByteArray.empty ≠ s) ∧ Lib.idxOfS ns s = (q : Int)) ∨ ((∀ j, j < ns.length → ns.getD j ByteArray.empty ≠ s) ∧ Lib.idxOfS ns s = -1) := by
  have hm : ∀ m, m ≤ ns.length → (∃ q, q < m ∧ ns.getD q ByteArray.empty = s ∧ ∀ j, j < q → ns.getD j ByteArray.empty ≠ s) ∨ (∀ j, j < m → ns.getD j ByteArray.empty ≠ s) := by
    intro m
    induction m with
    | zero => exact fun _ => .inr fun j hj => absurd hj (Nat.not_lt_zero _)
    | succ m ih =>
      intro hm
      rcases ih (by omega) with ⟨q, h1, h2, h3⟩ | h
      · exact .inl ⟨q, by omega, h2, h3⟩
      · by_cases he : ns.getD m ByteArray.empty = s
        · exact .inl ⟨m, by omega, he, h⟩
        · refine .inr fun j hj => ?_
          rcases Nat.lt_or_ge j m with c | c
          · exact h j c
          · rw [show j = m by omega]; exact he
  rcases hm ns.length (Nat.le_refl _) with ⟨q, h1, h2, h3⟩ | h
  · have := Lib.idxOfS_hit ns ns.length q s h1 (Nat.le_refl _) h2 h3
    rw [List.take_length] at this
    exact .inl ⟨q, h1, h2, h3, this⟩
  · have := Lib.idxOfS_miss ns ns.length s h
    rw [List.take_length] at this
    exact .inr ⟨h, this⟩
theorem idx_names {S : Nat → Prop} {p : Option Addr} {c : Nat} {ns : List ByteArray} (s : ByteArray) (w : World) (h : NamesAt S w p ns) (hl : ns.length ≤ 8796093022208) :
    Calls Tryd.prog 9 #[.slice p ns.length c, .string s] w fun e w' => e = .returned (.int .i64 (Lib.idxOfS ns s)) ∧ w' = w := by
  rcases Nat.eq_zero_or_pos ns.length with h0 | h0
  · have e1 : ns = [] := List.length_eq_zero_iff.1 h0
    subst e1
    exact Tryd.slices_Index_string_empty p c s w
  · obtain ⟨g, off, rfl, _, hc⟩ := names_cells h h0
    have := Tryd.slices_Index_string g off ns.length c ns s w (Nat.le_refl _) (by omega) (hc w rfl)
    rw [List.take_length] at this
    exact this
theorem get_hit {k n : Int} {t s : ByteArray} {ns : List ByteArray} {l : List J} {q : Nat} (h1 : k = 6) (h2 : Lib.idxOfS ns s = (q : Int)) (h3 : q < l.length) : get (.mk k n t ns l) s = (l[q], true) := by
  rw [get_mk, h2, if_pos ⟨h1, by omega, by simpa using h3⟩]
  simp [h3]
theorem get_kind {k n : Int} {t s : ByteArray} {ns : List ByteArray} {l : List J} (h1 : ¬ k = 6) : get (.mk k n t ns l) s = (noJ, false) := by
  rw [get_mk, if_neg fun h => h1 h.1]
theorem get_miss {k n : Int} {t s : ByteArray} {ns : List ByteArray} {l : List J} (h1 : Lib.idxOfS ns s = -1) : get (.mk k n t ns l) s = (noJ, false) := by
  rw [get_mk, if_neg fun h => by have := h.2.1; omega]
theorem get_far {k n : Int} {t s : ByteArray} {ns : List ByteArray} {l : List J} {q : Nat} (h2 : Lib.idxOfS ns s = (q : Int)) (h3 : ¬ q < l.length) : get (.mk k n t ns l) s = (noJ, false) := by
  rw [get_mk, if_neg fun h => h3 (by have := h.2.2; rw [h2] at this; simpa using this)]
/-- What Get answers is as bounded as what it was given. -/
theorem get_big {j : J} (s : ByteArray) (h : Big j) : Big (get j s).1 := by
  obtain ⟨k, n, t, ns, l⟩ := j
  have h0 : Big noJ := by
    unfold Big BigAll
    exact ⟨Nat.zero_le _, Nat.zero_le _, Nat.zero_le _, fun _ h => by simp at h, trivial⟩
  unfold Big at h
  obtain ⟨_, _, _, _, ba⟩ := h
  rw [get_mk]
  by_cases hc : k = 6 ∧ 0 ≤ Lib.idxOfS ns s ∧ (Lib.idxOfS ns s).toNat < l.length
  · rw [if_pos hc]
    show Big (l.getD _ noJ)
    rw [List.getD_eq_getElem?_getD, List.getElem?_eq_getElem hc.2.2]
    exact ba.mem _ (List.getElem_mem hc.2.2)
  · rw [if_neg hc]
    exact h0
theorem put_frame (W : World) (A : Nat) (a b c d e : Value) : (∀ g, g ≠ A → (W.setCells A 0 [a, b, c, d, e]).heap[g]? = W.heap[g]?) ∧ (W.setCells A 0 [a, b, c, d, e]).heap.size = W.heap.size ∧ ∀ B w, B ≤ A → Below B w W → Below B w (W.setCells A 0 [a, b, c, d, e]) := by
  refine ⟨fun g hg => ?_, ?_, fun B w hB hb => ?_⟩
  · show ((((((W.setCell ⟨A, 0, none⟩ _).setCell ⟨A, 0 + 1, none⟩ _).setCell ⟨A, 0 + 1 + 1, none⟩ _).setCell ⟨A, 0 + 1 + 1 + 1, none⟩ _).setCell ⟨A, 0 + 1 + 1 + 1 + 1, none⟩ _)).heap[g]? = _
    rw [heap_setCell_other _ _ _ _ hg, heap_setCell_other _ _ _ _ hg, heap_setCell_other _ _ _ _ hg, heap_setCell_other _ _ _ _ hg, heap_setCell_other _ _ _ _ hg]
  · show ((((((W.setCell ⟨A, 0, none⟩ _).setCell ⟨A, 0 + 1, none⟩ _).setCell ⟨A, 0 + 1 + 1, none⟩ _).setCell ⟨A, 0 + 1 + 1 + 1, none⟩ _).setCell ⟨A, 0 + 1 + 1 + 1 + 1, none⟩ _)).heap.size = _
    simp
  · exact ((((hb.setCell (p := ⟨A, 0, none⟩) hB _).setCell (p := ⟨A, 0 + 1, none⟩) hB _).setCell (p := ⟨A, 0 + 1 + 1, none⟩) hB _).setCell (p := ⟨A, 0 + 1 + 1 + 1, none⟩) hB _).setCell (p := ⟨A, 0 + 1 + 1 + 1 + 1, none⟩) hB _
set_option maxHeartbeats 4000000 in
set_option maxRecDepth 100000 in
theorem get_any (k n : Int) (t : ByteArray) (ns : List ByteArray) (l : List J) (s : ByteArray) (S : Nat → Prop) (v : Value) (w : World) (h : JAt S w (.mk k n t ns l) v) (hbig : Big (.mk k n t ns l)) :
    Calls Tryd.prog 4 #[v, .string s] w fun e w' => ∃ u, e = .returned (.tuple #[u, .bool (get (.mk k n t ns l) s).2]) ∧ JAt (fun b => w.heap.size ≤ b) w' (get (.mk k n t ns l) s).1 u ∧ Below w.heap.size w w' := by
  unfold JAt at h
  obtain ⟨np, nc, lp, lc, rfl, hn, hk⟩ := h
  unfold Big at hbig
  obtain ⟨_, bn, bl, _, ba⟩ := hbig
  have hb1 : Below w.heap.size w ((w.alloc (jO k n t (.slice np ns.length nc) (.slice lp l.length lc))).alloc zJ) := ((Below.refl _ w).alloc (Nat.le_refl _) _).alloc (by simp) _
  have z1 : ((w.alloc (jO k n t (.slice np ns.length nc) (.slice lp l.length lc))).alloc zJ).heap[w.heap.size]? = some (.cells #[.int .i64 k, .int .i64 n, .string t, .slice np ns.length nc, .slice lp l.length lc] 25 (0, 0)) := by rw [heapO _ _ (by simp), heapN]
  have z2 : ((w.alloc (jO k n t (.slice np ns.length nc) (.slice lp l.length lc))).alloc zJ).heap[w.heap.size + 1]? = some (.cells #[.int .i64 0, .int .i64 0, .string ⟨#[]⟩, .slice none 0 0, .slice none 0 0] 25 (0, 0)) := by
    have := heapN (w.alloc (jO k n t (.slice np ns.length nc) (.slice lp l.length lc))) zJ
    rw [show (w.alloc (jO k n t (.slice np ns.length nc) (.slice lp l.length lc))).heap.size = w.heap.size + 1 by simp] at this
    exact this
  have hs1 : ((w.alloc (jO k n t (.slice np ns.length nc) (.slice lp l.length lc))).alloc zJ).heap.size = w.heap.size + 2 := by simp
  have C1 := Lib.hid (idx_names (c := nc) s _ (hn.frame (S' := S) (fun _ _ h => h) (fun b _ hlt => hb1.block b hlt) hb1.size) bn)
  have HK := Lib.hid (kids_below hk hb1)
  have HB1 := Lib.hid hb1
  have HZ1 := Lib.hid z1
  have HZ2 := Lib.hid z2
  have HS1 := Lib.hid hs1
  have HBA := Lib.hid ba.mem
  have HNL := Lib.hid bn
  have HLB := Lib.hid bl
  have HIC := Lib.hid (idx_cases ns s)
  clear hn hk bn bl ba hb1 z1 z2 hs1
  go_enter Tryd.func4, Tryd.ntmps4
  go_wp2_with fail
  generalize (w.alloc (jO k n t (.slice np ns.length nc) (.slice lp l.length lc))).alloc zJ = w1 at *
  obtain ⟨a0, a1, a2, a3, a4⟩ := five_at HZ1.out
  obtain ⟨q0, q1, q2, q3, q4⟩ := five_at HZ2.out
  have f0 : w1.frozen? ⟨w.heap.size + 1, 0, none⟩ = false := Lib.frozen_of_heap HZ2.out 0
  have f1 : w1.frozen? ⟨w.heap.size + 1, 1, none⟩ = false := Lib.frozen_of_heap HZ2.out 1
  have f2 : w1.frozen? ⟨w.heap.size + 1, 2, none⟩ = false := Lib.frozen_of_heap HZ2.out 2
  have f3 : w1.frozen? ⟨w.heap.size + 1, 3, none⟩ = false := Lib.frozen_of_heap HZ2.out 3
  have f4 : w1.frozen? ⟨w.heap.size + 1, 4, none⟩ = false := Lib.frozen_of_heap HZ2.out 4
  go_wp2_with fail
  refine C1.out.mono ?_
  clear C1
  rintro e w2 ⟨rfl, rfl⟩
  have hfin : ∀ (e : Ending) (w' : World), e = .returned (.tuple #[leaf 0 0 ⟨#[]⟩, .bool false]) → w' = w2.setCells (w.heap.size + 1) 0 [.int .i64 0, .int .i64 0, .string ⟨#[]⟩, .slice none 0 0, .slice none 0 0] → get (.mk k n t ns l) s = (noJ, false) → ∃ u, e = .returned (.tuple #[u, .bool (get (.mk k n t ns l) s).2]) ∧ JAt (fun b => w.heap.size ≤ b) w' (get (.mk k n t ns l) s).1 u ∧ Below w.heap.size w w' := by
    rintro e w' rfl rfl hg
    rw [hg]
    exact ⟨_, rfl, JAt.leaf _ _ _ _ _, (put_frame _ _ _ _ _ _ _).2.2 _ _ (Nat.le_succ _) HB1.out⟩
  have HF := Lib.hid hfin
  clear hfin
  by_cases hk : k = 6
  · subst hk
    rcases HIC.out with ⟨q, hqn, _, _, hq⟩ | ⟨_, hq⟩
    · rw [hq]
      by_cases hl : q < l.length
      · have HG := Lib.hid (get_hit (k := 6) (n := n) (t := t) rfl hq hl)
        obtain ⟨g, off, np', nc', lp', lc', rfl, hg, hn9, hk9, hj, hc⟩ := kid_cells HK.out q hl
        obtain ⟨x0, x1, x2, x3, x4⟩ := hc w2 rfl
        have CC := Lib.hid (clone_ok l[q] S _ w2 hj (HBA.out _ (List.getElem_mem hl)))
        have c1 : ¬ (q : Int) < 0 := by omega
        have c2 : ¬ (l.length : Int) ≤ (q : Int) := by omega
        have c3 : (q : Int) < (l.length : Int) := by omega
        clear hj hc hq hqn hn9 hk9
        obtain ⟨jq, hjq⟩ : ∃ jq, jq = l[q] := ⟨_, rfl⟩
        rw [← hjq] at CC HG x0 x1 x2 x3 x4
        clear hjq hl
        go_wp2_with fail
        refine CC.out.mono ?_
        clear CC
        rintro e w6 ⟨u, rfl, hju, hb6⟩
        obtain ⟨np6, nc6, lp6, lc6, rfl, hn6, hk6⟩ := hju.five
        have hs := HS1.out
        have zz := (hb6.block (w.heap.size + 1) (by omega)).trans HZ2.out
        clear q0 q1 q2 q3 q4 f0 f1 f2 f3 f4 x0 x1 x2 x3 x4
        obtain ⟨q0, q1, q2, q3, q4⟩ := five_at zz
        have f0 : w6.frozen? ⟨w.heap.size + 1, 0, none⟩ = false := Lib.frozen_of_heap zz 0
        have f1 : w6.frozen? ⟨w.heap.size + 1, 1, none⟩ = false := Lib.frozen_of_heap zz 1
        have f2 : w6.frozen? ⟨w.heap.size + 1, 2, none⟩ = false := Lib.frozen_of_heap zz 2
        have f3 : w6.frozen? ⟨w.heap.size + 1, 3, none⟩ = false := Lib.frozen_of_heap zz 3
        have f4 : w6.frozen? ⟨w.heap.size + 1, 4, none⟩ = false := Lib.frozen_of_heap zz 4
        have HFN : Hid (∃ u, Ending.returned (.tuple #[.agg #[.int .i64 jq.kind, .int .i64 jq.num, .string jq.text, .slice np6 jq.names.length nc6, .slice lp6 jq.list.length lc6], .bool true]) = .returned (.tuple #[u, .bool (get (.mk 6 n t ns l) s).2]) ∧ JAt (fun b => w.heap.size ≤ b) (w6.setCells (w.heap.size + 1) 0 [.int .i64 jq.kind, .int .i64 jq.num, .string jq.text, .slice np6 jq.names.length nc6, .slice lp6 jq.list.length lc6]) (get (.mk 6 n t ns l) s).1 u ∧ Below w.heap.size w (w6.setCells (w.heap.size + 1) 0 [.int .i64 jq.kind, .int .i64 jq.num, .string jq.text, .slice np6 jq.names.length nc6, .slice lp6 jq.list.length lc6])) := by
          have hp := put_frame w6 (w.heap.size + 1) (.int .i64 jq.kind) (.int .i64 jq.num) (.string jq.text) (.slice np6 jq.names.length nc6) (.slice lp6 jq.list.length lc6)
          rw [HG.out]
          exact Lib.hid ⟨_, rfl, JAt.frame (fun b _ hb => Nat.le_trans (by omega) hb) (fun b hb _ => hp.1 b (by omega)) (by rw [hp.2.1]; exact Nat.le_refl _) _ _ hju, hp.2.2 _ _ (Nat.le_succ _) (HB1.out.trans (hb6.mono (by omega)))⟩
        clear hju hb6 hn6 hk6 zz hs HG
        generalize jq.kind = r1 at *
        generalize jq.num = r2 at *
        generalize jq.text = r3 at *
        generalize jq.names.length = r4 at *
        generalize jq.list.length = r5 at *
        go_wp2_with fail
        refine bodyPost_ret (v := .tuple #[.agg #[.int .i64 r1, .int .i64 r2, .string r3, .slice np6 r4 nc6, .slice lp6 r5 lc6], .bool true]) (by simp [results, Tryd.results4, go_sem, q0, q1, q2, q3, q4]) rfl HFN.out
      · have HG := Lib.hid (get_far (k := 6) (n := n) (t := t) hq hl)
        have c1 : ¬ (q : Int) < 0 := by omega
        have c2 : (l.length : Int) ≤ (q : Int) := by omega
        clear hl hq hqn
        go_wp2_with fail
        refine bodyPost_ret (v := .tuple #[leaf 0 0 ⟨#[]⟩, .bool false]) (by simp [results, Tryd.results4, go_sem, leaf, q0, q1, q2, q3, q4]) rfl (HF.out _ _ rfl rfl HG.out)
    · have HG := Lib.hid (get_miss (k := 6) (n := n) (t := t) (l := l) hq)
      rw [hq]
      clear hq
      go_wp2_with fail
      refine bodyPost_ret (v := .tuple #[leaf 0 0 ⟨#[]⟩, .bool false]) (by simp [results, Tryd.results4, go_sem, leaf, q0, q1, q2, q3, q4]) rfl (HF.out _ _ rfl rfl HG.out)
  · have HG := Lib.hid (get_kind (k := k) (n := n) (t := t) (s := s) (ns := ns) (l := l) hk)
    have c0 : (k != 6) = true := by simpa using hk
    clear hk
    go_wp2_with fail
    refine bodyPost_ret (v := .tuple #[leaf 0 0 ⟨#[]⟩, .bool false]) (by simp [results, Tryd.results4, go_sem, leaf, q0, q1, q2, q3, q4]) rfl (HF.out _ _ rfl rfl HG.out)
end Jg
end Go.Proofs.YtdooeedemgmpiaaDoor
