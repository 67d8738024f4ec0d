/- The program's Same of two JSON values. Conditions: those that each theorem names. -/
import Derived.Test.YtdooeedemgmpiaaDoorJsDeeper
namespace Go.Proofs.YtdooeedemgmpiaaDoor
set_option linter.unusedVariables false
open Go Go.RowKit Js
namespace Jg
mutual
/-- No text and no row within is greater than a text or a row can be. -/
def Big : J → Prop
  | .mk k n t ns l => t.size ≤ maxLen ∧ ns.length ≤ 8796093022208 ∧ l.length ≤ 1759218604441 ∧ (∀ n ∈ ns, n.size ≤ maxLen) ∧ BigAll l
def BigAll : List J → Prop
  | [] => True
  | j :: l => Big j ∧ BigAll l
end
theorem BigAll.mem : ∀ {l : List J}, BigAll l → ∀ j ∈ l, Big j
  | [], _, _, h => by simp at h
  | a :: l, hf, j, h => by
    unfold BigAll at hf
    rcases List.mem_cons.1 h with h | h
    · rw [h]; exact hf.1
    · exact BigAll.mem hf.2 j h
theorem jat_below {S : Nat → Prop} {w w' : World} {j : J} {v : Value} (h : JAt S w j v) (hb : Below w.heap.size w w') : JAt S w' j v :=
  JAt.frame (fun _ _ h => h) (fun b _ hlt => hb.block b hlt) hb.size _ _ h
theorem kids_below {S : Nat → Prop} {w w' : World} {p : Option Addr} {i : Nat} {l : List J} (h : KidsAt S w p i l) (hb : Below w.heap.size w w') : KidsAt S w' p i l :=
  KidsAt.frame (fun _ _ h => h) (fun b _ hlt => hb.block b hlt) hb.size p i l h
/-- A value of a row, cell by cell. -/
theorem kid_cells {S : Nat → Prop} {w : World} {p : Option Addr} {l : List J} (h : KidsAt S w p 0 l) (q : Nat) (hq : q < l.length) :
    ∃ g off np nc lp lc, p = some ⟨g, off, none⟩ ∧ g < w.heap.size ∧ NamesAt S w np l[q].names ∧ KidsAt S w lp 0 l[q].list ∧
      JAt S w l[q] (.agg #[.int .i64 l[q].kind, .int .i64 l[q].num, .string l[q].text, .slice np l[q].names.length nc, .slice lp l[q].list.length lc]) ∧
      ∀ W : World, W.heap[g]? = w.heap[g]? → W.cell? ⟨g, off + q * 5, none⟩ = some (.int .i64 l[q].kind) ∧ W.cell? ⟨g, off + q * 5 + 1, none⟩ = some (.int .i64 l[q].num) ∧ W.cell? ⟨g, off + q * 5 + 2, none⟩ = some (.string l[q].text) ∧ W.cell? ⟨g, off + q * 5 + 3, none⟩ = some (.slice np l[q].names.length nc) ∧ W.cell? ⟨g, off + q * 5 + 4, none⟩ = some (.slice lp l[q].list.length lc) := by
  obtain ⟨g, off, v, rfl, hs, hgl, hf, hj⟩ := h.at q hq
  have hj' := hj
  obtain ⟨np, nc, lp, lc, rfl, hn, hk⟩ := hj.five
  obtain ⟨a, b, c, d, e, he, hc⟩ := hf
  simp only [Value.agg.injEq] at he
  simp at he
  obtain ⟨rfl, rfl, rfl, rfl, rfl⟩ := he
  rw [Nat.zero_add] at hc
  exact ⟨g, off, np, nc, lp, lc, rfl, hgl, hn, hk, hj', hc⟩
theorem wrap_q {n k : Nat} (h : n ≤ maxLen) (hk : k < n) : wrap64 ((k : Int) + 1) = ((k + 1 : Nat) : Int) := by
  unfold maxLen at h; unfold wrap64; omega
theorem less_q {n k : Nat} (h : k < n) : n - (intOf (.int .i64 ((k + 1 : Nat) : Int))).toNat < n - (intOf (.int .i64 (k : Int))).toNat := by
  simp only [intOf, Int.toNat_natCast]; omega
def SameOk (j : J) : Prop := ∀ (j2 : J) (S S2 : Nat → Prop) (u v : Value) (w : World), JAt S w j u → JAt S2 w j2 v → Big j → Big j2 →
  Calls Tryd.prog 7 #[u, v] w fun e w' => e = .returned (.bool (same j j2)) ∧ Below w.heap.size w w'
theorem all_lens {l l2 : List J} (h : l.length ≠ l2.length) : sameAll l l2 = false := by
  rw [← Bool.not_eq_true, sameAll_iff]
  rintro rfl
  exact h rfl
theorem all_differ {l l2 : List J} {q : Nat} (h1 : q < l.length) (h2 : q < l2.length) (h : same l[q] l2[q] = false) : sameAll l l2 = false := by
  rw [← Bool.not_eq_true, sameAll_iff]
  rintro rfl
  have := (same_iff l[q] l[q]).2 rfl
  rw [this] at h
  cases h
theorem all_same {l l2 : List J} (h : l.length = l2.length) (hs : ∀ q (h1 : q < l.length) (h2 : q < l2.length), same l[q] l2[q] = true) : sameAll l l2 = true := by
  rw [sameAll_iff]
  exact List.ext_getElem h fun q h1 h2 => (same_iff _ _).1 (hs q h1 h2)
set_option maxHeartbeats 2000000 in
set_option maxRecDepth 100000 in
theorem eqfunc_any (l l2 : List J) (hl : ∀ j ∈ l, SameOk j) (S S2 : Nat → Prop) (p p2 : Option Addr) (c c2 : Nat) (w : World) (h : KidsAt S w p 0 l) (h2 : KidsAt S2 w p2 0 l2) (b1 : BigAll l) (b2 : BigAll l2) (n1 : l.length ≤ 1759218604441) :
    Calls Tryd.prog 12 #[.slice p l.length c, .slice p2 l2.length c2, .func (.func 7) #[] #[]] w fun e w' => e = .returned (.bool (sameAll l l2)) ∧ Below w.heap.size w w' := by
  by_cases hlen : l.length = l2.length
  · have HK := Lib.hid h
    have HK2 := Lib.hid h2
    have HL := Lib.hid hl
    have HB1 := Lib.hid b1.mem
    have HB2 := Lib.hid b2.mem
    have HLEN := Lib.hid hlen
    have HML : Hid (l.length ≤ maxLen) := Lib.hid (by unfold maxLen; omega)
    rw [← hlen]
    clear h h2 hl b1 b2 n1 hlen
    have hne : ((l.length : Int) != (l.length : Int)) = false := by simp
    go_enter Tryd.func12, Tryd.ntmps12
    go_wp2_with fail
    go_loopw [7, 8, 9, 17] (fun i a b kk wr => ∃ q : Nat, q ≤ l.length ∧ kk = .int .i64 q ∧ Hid (∀ i (h1 : i < l.length) (h2 : i < l2.length), i < q → same l[i] l2[i] = true) ∧ Below w.heap.size w wr) (fun _ _ _ kk _ => l.length - (intOf kk).toNat)
    case atStart => exact ⟨0, Nat.zero_le _, rfl, Lib.hid (fun i _ _ h => absurd h (by omega)), Below.refl _ _⟩
    case round =>
      obtain ⟨q, hq, rfl, HS, hb⟩ := hrel
      have HB := Lib.hid hb
      clear hb
      obtain ⟨wo, rfl⟩ : ∃ wo : World, wo = wr := ⟨_, rfl⟩
      by_cases hlt : q < l.length
      · have hlt2 : q < l2.length := by rw [← HLEN.out]; exact hlt
        obtain ⟨g, off, np, nc, lp, lc, rfl, hg, hn, hk, hj, hc⟩ := kid_cells HK.out q hlt
        obtain ⟨g2, off2, np2, nc2, lp2, lc2, rfl, hg2, hn2, hk2, hj2, hc2⟩ := kid_cells HK2.out q hlt2
        obtain ⟨x0, x1, x2, x3, x4⟩ := hc wo (HB.out.block g hg)
        obtain ⟨y0, y1, y2, y3, y4⟩ := hc2 (wo.alloc (.cells #[.int .i64 l[q].kind, .int .i64 l[q].num, .string l[q].text, .slice np l[q].names.length nc, .slice lp l[q].list.length lc] 25)) ((HB.out.alloc HB.out.size _).block g2 hg2)
        have HW2 : Hid (Below w.heap.size w ((wo.alloc (.cells #[.int .i64 l[q].kind, .int .i64 l[q].num, .string l[q].text, .slice np l[q].names.length nc, .slice lp l[q].list.length lc] 25)).alloc (.cells #[.int .i64 l2[q].kind, .int .i64 l2[q].num, .string l2[q].text, .slice np2 l2[q].names.length nc2, .slice lp2 l2[q].list.length lc2] 25))) := Lib.hid ((HB.out.alloc HB.out.size _).alloc (by have := HB.out.size; simp; omega) _)
        have CS := Lib.hid (HL.out l[q] (List.getElem_mem hlt) l2[q] S S2 _ _ _ (jat_below hj HW2.out) (jat_below hj2 HW2.out) (HB1.out _ (List.getElem_mem hlt)) (HB2.out _ (List.getElem_mem hlt2)))
        have hqn : (q : Int) < (l.length : Int) := by omega
        obtain ⟨r, hr⟩ : ∃ r, r = same l[q] l2[q] := ⟨_, rfl⟩
        rw [← hr] at CS
        have HR := Lib.hid hr
        have HLT := Lib.hid hlt
        have HLT2 := Lib.hid hlt2
        generalize l[q].names.length = m1 at *
        generalize l[q].list.length = m2 at *
        generalize l2[q].names.length = m3 at *
        generalize l2[q].list.length = m4 at *
        generalize l[q].kind = k1 at *
        generalize l[q].num = k2 at *
        generalize l[q].text = k3 at *
        generalize l2[q].kind = k4 at *
        generalize l2[q].num = k5 at *
        generalize l2[q].text = k6 at *
        clear hr hc hc2 hn hn2 hk hk2 hj hj2 hg hg2
        go_wp2_with fail
        refine CS.out.mono ?_
        clear CS
        rintro e w5 ⟨rfl, hb5⟩
        have HB5 : Hid (Below w.heap.size w w5) := Lib.hid (HW2.out.trans (hb5.mono HW2.out.size))
        clear hb5
        cases hrr : r
        · have HF : Hid (sameAll l l2 = false) := Lib.hid (all_differ HLT.out HLT2.out (by rw [← HR.out]; exact hrr))
          go_wp2_with fail
          go_ret
          exact ⟨by rw [HF.out]; rfl, HB5.out⟩
        · have HS2 : Hid (∀ i (h1 : i < l.length) (h2 : i < l2.length), i < q + 1 → same l[i] l2[i] = true) := Lib.hid (fun i h1 h2 hi => by
            rcases Nat.lt_or_ge i q with c | c
            · exact HS.out i h1 h2 c
            · obtain rfl : i = q := by omega
              rw [← HR.out]; exact hrr)
          go_wp2_with fail
          go_roundw
          case rel => exact ⟨q + 1, HLT.out, congrArg _ (Jg.wrap_q HML.out HLT.out), HS2, HB5.out⟩
          case measure =>
            rw [Jg.wrap_q HML.out HLT.out]
            exact Jg.less_q HLT.out
      · obtain rfl : q = l.length := by omega
        have hr := all_same HLEN.out (fun i h1 h2 => HS.out i h1 h2 h1)
        have HR := Lib.hid hr
        clear hr
        go_wp2_with fail
        go_ret
        exact ⟨by rw [HR.out]; rfl, HB.out⟩
  · rw [all_lens hlen]
    have hne : ((l.length : Int) != (l2.length : Int)) = true := by simp; omega
    clear h h2 hl b1 b2 n1 hlen
    generalize l.length = n at *
    generalize l2.length = n2 at *
    go_enter Tryd.func12, Tryd.ntmps12
    go_wp2_with fail
    go_ret
    exact ⟨rfl, Below.refl _ _⟩
end Jg
end Go.Proofs.YtdooeedemgmpiaaDoor
