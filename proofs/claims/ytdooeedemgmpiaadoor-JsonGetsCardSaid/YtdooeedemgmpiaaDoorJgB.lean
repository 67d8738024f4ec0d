/- The program's Same of two JSON values, whole. Conditions: those that each theorem names. -/
import Derived.Test.YtdooeedemgmpiaaDoorJgA
import Derived.Test.YtdooeedemgmpiaaDoorShelf
namespace Go.Proofs.YtdooeedemgmpiaaDoor
set_option linter.unusedVariables false
open Go Go.RowKit Js
namespace Jg
theorem text_same (a b : ByteArray) : (a.toList == b.toList) = decide (a = b) := by
  by_cases h : a = b
  · subst h; simp
  · rw [decide_eq_false h]
    cases hh : (a.toList == b.toList)
    · rfl
    · exfalso
      apply h
      have h' : a.toList = b.toList := by simpa using hh
      rw [Go.ByteArray.toList_eq, Go.ByteArray.toList_eq] at h'
      cases a; cases b
      congr
      exact Array.ext' h'
theorem names_cells {S : Nat → Prop} {w : World} {p : Option Addr} {ns : List ByteArray} (h : NamesAt S w p ns) (h0 : 0 < ns.length) : ∃ g off, p = some ⟨g, off, none⟩ ∧ g < w.heap.size ∧ ∀ W : World, W.heap[g]? = w.heap[g]? → ∀ j, j < ns.length → W.cell? ⟨g, off + j, none⟩ = some (.string (ns.getD j ByteArray.empty)) := by
  rcases h with rfl | ⟨g, off, h1, _, h3, h4⟩
  · simp at h0
  · exact ⟨g, off, h1, h3, fun W hW j hj => by rw [h4 W hW j hj]; simp [List.getD, List.getElem?_eq_getElem hj]⟩
theorem below_drewN (w : World) (n : Nat) : Below w.heap.size w (w.drewN n) := ⟨rfl, rfl, rfl, Nat.le_refl _, fun _ _ => rfl⟩
theorem equal_any {S S2 : Nat → Prop} {p p2 : Option Addr} {c c2 : Nat} {ns ns2 : List ByteArray} (w : World) (h : NamesAt S w p ns) (h2 : NamesAt S2 w p2 ns2) (hl : ns.length ≤ 8796093022208) (hl2 : ns2.length ≤ 8796093022208) :
    Calls Tryd.prog 11 #[.slice p ns.length c, .slice p2 ns2.length c2] w fun e w' => e = .returned (.bool (decide (ns = ns2))) ∧ Below w.heap.size w w' := by
  by_cases hlen : ns.length = ns2.length
  · rcases Nat.eq_zero_or_pos ns.length with h0 | h0
    · have e1 : ns = [] := List.length_eq_zero_iff.1 h0
      have e2 : ns2 = [] := List.length_eq_zero_iff.1 (by omega)
      subst e1 e2
      refine (Tryd.slices_Equal_string_empty p p2 c 0 c2 w (by decide)).mono ?_
      rintro e w' ⟨rfl, rfl⟩
      exact ⟨by simp, Below.refl _ _⟩
    · obtain ⟨g, off, rfl, _, hc⟩ := names_cells h h0
      obtain ⟨g2, off2, rfl, _, hc2⟩ := names_cells h2 (by omega)
      refine (Tryd.slices_Equal_string g off ns.length c g2 off2 ns2.length c2 ns ns2 w (Nat.le_refl _) (Nat.le_refl _) (by omega) (by omega) (hc w rfl) (hc2 w rfl)).mono ?_
      rintro e w' ⟨rfl, q, rfl⟩
      exact ⟨by rw [List.take_length, List.take_length], below_drewN w q⟩
  · refine (Tryd.slices_Equal_string_lens p p2 ns.length c ns2.length c2 w hlen).mono ?_
    rintro e w' ⟨rfl, rfl⟩
    rw [decide_eq_false (fun e : ns = ns2 => hlen (by rw [e]))]
    exact ⟨rfl, Below.refl _ _⟩
theorem heapN (w : World) (o : Obj) : (w.alloc o).heap[w.heap.size]? = some o := by show (w.heap.push o)[w.heap.size]? = some o; simp
theorem heapO (w : World) (o : Obj) {k : Nat} (hk : k < w.heap.size) : (w.alloc o).heap[k]? = w.heap[k]? := Below.heap_alloc _ _ _ hk
abbrev jO (k n : Int) (t : ByteArray) (a b : Value) : Obj := .cells #[.int .i64 k, .int .i64 n, .string t, a, b] 25
theorem same_mk (k n k2 n2 : Int) (t t2 : ByteArray) (ns ns2 : List ByteArray) (l l2 : List J) : same (.mk k n t ns l) (.mk k2 n2 t2 ns2 l2) = (decide (k = k2) && decide (n = n2) && decide (t = t2) && decide (ns = ns2) && sameAll l l2) := by rw [same]
set_option maxHeartbeats 2000000 in
set_option maxRecDepth 100000 in
theorem same_step (k n : Int) (t : ByteArray) (ns : List ByteArray) (l : List J) (hl : ∀ j ∈ l, SameOk j) : SameOk (.mk k n t ns l) := by
  intro j2 S S2 u v w h h2 b1 b2
  obtain ⟨k2, n2, t2, ns2, l2⟩ := j2
  unfold JAt at h h2
  obtain ⟨np, nc, lp, lc, rfl, hn, hk⟩ := h
  obtain ⟨np2, nc2, lp2, lc2, rfl, hn2, hk2⟩ := h2
  unfold Big at b1 b2
  obtain ⟨_, bn1, bl1, _, ba1⟩ := b1
  obtain ⟨_, bn2, bl2, _, ba2⟩ := b2
  obtain ⟨w1, hw1⟩ : ∃ w1, w1 = (w.alloc (jO k n t (.slice np ns.length nc) (.slice lp l.length lc))).alloc (jO k2 n2 t2 (.slice np2 ns2.length nc2) (.slice lp2 l2.length lc2)) := ⟨_, rfl⟩
  have hB : Below w.heap.size w w1 := by rw [hw1]; exact ((Below.refl _ w).alloc (Nat.le_refl _) _).alloc (by simp) _
  have z1 : w1.heap[w.heap.size]? = some (.cells #[.int .i64 k, .int .i64 n, .string t, .slice np ns.length nc, .slice lp l.length lc] 25 (0, 0)) := by
    rw [hw1, heapO _ _ (by simp), heapN]
  have z2 : w1.heap[w.heap.size + 1]? = some (.cells #[.int .i64 k2, .int .i64 n2, .string t2, .slice np2 ns2.length nc2, .slice lp2 l2.length lc2] 25 (0, 0)) := by
    have := heapN (w.alloc (jO k n t (.slice np ns.length nc) (.slice lp l.length lc))) (jO k2 n2 t2 (.slice np2 ns2.length nc2) (.slice lp2 l2.length lc2))
    rw [show (w.alloc (jO k n t (.slice np ns.length nc) (.slice lp l.length lc))).heap.size = w.heap.size + 1 by simp] at this
    rw [hw1]
    exact this
  have CE := Lib.hid (equal_any (c := nc) (c2 := nc2) w1 (hn.frame (S' := S) (fun _ _ h => h) (fun b _ hlt => hB.block b hlt) hB.size) (hn2.frame (S' := S2) (fun _ _ h => h) (fun b _ hlt => hB.block b hlt) hB.size) bn1 bn2)
  have CF := Lib.hid (fun W (hW : Below w1.heap.size w1 W) => eqfunc_any l l2 hl S S2 lp lp2 lc lc2 W (kids_below hk (hB.trans (hW.mono hB.size))) (kids_below hk2 (hB.trans (hW.mono hB.size))) ba1 ba2 bl1)
  have HB := Lib.hid hB
  have HM := Lib.hid (same_mk k n k2 n2 t t2 ns ns2 l l2)
  have HZ1 := Lib.hid z1
  have HZ2 := Lib.hid z2
  have hcell : ∀ (W : World) g a b c d e, W.heap[g]? = some (.cells #[a, b, c, d, e] 25 (0, 0)) → W.cell? ⟨g, 0, none⟩ = some a ∧ W.cell? ⟨g, 1, none⟩ = some b ∧ W.cell? ⟨g, 2, none⟩ = some c ∧ W.cell? ⟨g, 3, none⟩ = some d ∧ W.cell? ⟨g, 4, none⟩ = some e := fun W g a b c d e hg => by
    simp [World.cell?, hg]
  obtain ⟨a0, a1, a2, a3, a4⟩ := hcell _ _ _ _ _ _ _ z1
  obtain ⟨c0, c1, c2', c3, c4⟩ := hcell _ _ _ _ _ _ _ z2
  have ht := text_same t t2
  rw [HM.out]
  clear hn hn2 hk hk2 bn1 bn2 bl1 bl2 ba1 ba2 hB z1 z2 hl HM
  generalize l.length = y1 at *
  generalize l2.length = y2 at *
  generalize ns.length = y3 at *
  generalize ns2.length = y4 at *
  have HBW : Hid (Below w.heap.size w ((w.alloc (jO k n t (.slice np y3 nc) (.slice lp y1 lc))).alloc (jO k2 n2 t2 (.slice np2 y4 nc2) (.slice lp2 y2 lc2)))) := Lib.hid (by rw [← hw1]; exact HB.out)
  by_cases h1 : k = k2
  · have g1 : (k == k2) = true := by simpa using h1
    rw [decide_eq_true h1]
    by_cases h2 : n = n2
    · have g2 : (n == n2) = true := by simpa using h2
      rw [decide_eq_true h2]
      by_cases h3 : t = t2
      · rw [decide_eq_true h3] at ht ⊢
        generalize decide (ns = ns2) = r at *
        generalize sameAll l l2 = r2 at *
        clear h1 h2 h3
        go_enter Tryd.func7, Tryd.ntmps7
        go_wp2_with fail
        rw [← hw1]
        clear hw1
        refine CE.out.mono ?_
        clear CE
        rintro e w5 ⟨rfl, hb5⟩
        have HB5 := Lib.hid hb5
        have e4 : w5.cell? ⟨w.heap.size, 4, none⟩ = some (.slice lp y1 lc) := by
          rw [← a4]; exact World.cell?_of_block (hb5.block _ (Array.getElem?_eq_some_iff.1 HZ1.out).1)
        have e5 : w5.cell? ⟨w.heap.size + 1, 4, none⟩ = some (.slice lp2 y2 lc2) := by
          rw [← c4]; exact World.cell?_of_block (hb5.block _ (Array.getElem?_eq_some_iff.1 HZ2.out).1)
        clear hb5
        cases r
        · clear CF
          go_wp2_with fail
          go_ret
          exact ⟨rfl, HB.out.trans (HB5.out.mono HB.out.size)⟩
        · go_wp2_with fail
          refine (CF.out _ HB5.out).mono ?_
          clear CF
          rintro e w6 ⟨rfl, hb6⟩
          have HB6 := Lib.hid (HB.out.trans ((HB5.out.trans (hb6.mono HB5.out.size)).mono HB.out.size))
          clear hb6
          go_wp2_with fail
          go_ret
          exact ⟨by simp, HB6.out⟩
      · rw [decide_eq_false h3] at ht ⊢
        clear h1 h2 h3 CE CF hw1
        go_enter Tryd.func7, Tryd.ntmps7
        go_wp2_with fail
        go_ret
        exact ⟨by simp, HBW.out⟩
    · have g2 : (n == n2) = false := by simpa using h2
      rw [decide_eq_false h2]
      clear h1 h2 CE CF hw1
      go_enter Tryd.func7, Tryd.ntmps7
      go_wp2_with fail
      go_ret
      exact ⟨by simp, HBW.out⟩
  · have g1 : (k == k2) = false := by simpa using h1
    rw [decide_eq_false h1]
    clear h1 CE CF hw1
    go_enter Tryd.func7, Tryd.ntmps7
    go_wp2_with fail
    go_ret
    exact ⟨by simp, HBW.out⟩
mutual
theorem same_ok : ∀ j : J, SameOk j
  | .mk k n t ns l => same_step k n t ns l (all_ok l)
theorem all_ok : ∀ l : List J, ∀ j ∈ l, SameOk j
  | [], _, h => by simp at h
  | a :: l, j, h => by
    rcases List.mem_cons.1 h with h | h
    · rw [h]; exact same_ok a
    · exact all_ok l j h
end
end Jg
end Go.Proofs.YtdooeedemgmpiaaDoor
