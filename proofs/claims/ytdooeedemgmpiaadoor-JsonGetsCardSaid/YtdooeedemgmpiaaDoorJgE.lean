/- The program's clone of a JSON value, whole. Conditions: those that each theorem names. -/
import Derived.Test.YtdooeedemgmpiaaDoorJgD
import Derived.Test.YtdooeedemgmpiaaDoorRk
import Derived.BigQuiet
import Derived.Lib.SliceRun
namespace Go.Proofs.YtdooeedemgmpiaaDoor
set_option linter.unusedVariables false
open Go Go.RowKit Js
namespace Jg
set_option maxHeartbeats 1000000 in
set_option maxRecDepth 100000 in
theorem clone_zero (a : Addr) (c : Nat) (w : World) :
    Calls Tryd.prog 16 #[.slice (some a) 0 c] w fun e w' => ∃ u, e = .returned u ∧ w'.ownsRow w.heap.size 25 5 u 0 [] ∧ Below w.heap.size w w' := by
  obtain ⟨i0, hi, hz0, hz1, hz2⟩ := info_parts infoJ
  have q22 : ∀ (w : World) (a : Option Addr) (n c n' c' : Nat), (binOp .eql 23 (.slice a n c) (.slice none n' c')).run Tryd.prog w = .ok (.bool a.isNone) w := fun w a n c n' c' => Lib.run_eql_slice_nil w _ _ a n c n' c' Tryd.underlying23
  go_enter Tryd.func16, Tryd.ntmps16
  go_wp2_with (at_builtin; refine wpList_append_own _ rfl _ _ 23 rfl w.heap.size 25 i0 (.agg #[.int .i64 0, .int .i64 0, .string ⟨#[]⟩, .slice none 0 0, .slice none 0 0]) 5 80 Tryd.underlying23 hi hz0 hz1 hz2 rfl (by decide) _ _ _ rfl (World.ownsRow_made w #[] 0 (Nat.le_refl _) (Nat.zero_le _) rfl) a 0 c [] rfl rfl (by intro j u hj; simp at hj) (by intro u hu; cases hu) (by unfold maxLen; omega) (by omega) (by simp) ?_)
  intro v' w1 hown hgrow hnil
  go_wp2
  go_ret
  exact ⟨v', rfl, by simpa using hown, ((Below.refl _ w).alloc (Nat.le_refl _) _).grown hgrow (by simp) (by intro k hk; simp [Value.ownBlock] at hk; omega)⟩
theorem flat_len : ∀ (vs : List Value), (∀ v ∈ vs, (vcells v).length = 5) → (vs.flatMap vcells).length = vs.length * 5
  | [], _ => rfl
  | v :: vs, h => by
    rw [List.flatMap_cons, List.length_append, h v (by simp), flat_len vs (fun u hu => h u (by simp [hu])), List.length_cons]
    omega
theorem clone_list {S : Nat → Prop} {p : Option Addr} {c : Nat} {l : List J} (w : World) (h : KidsAt S w p 0 l) (hl : l.length ≤ 1759218604441) :
    Calls Tryd.prog 16 #[.slice p l.length c] w fun e w' => ∃ (u : Value) (vs : List Value), e = .returned u ∧ vs.length = l.length ∧ w'.ownsRow w.heap.size 25 5 u l.length (vs.flatMap vcells) ∧ Below w.heap.size w w' ∧
      ∀ q (hq : q < l.length), ∃ np nc lp lc, vs[q]? = some (.agg #[.int .i64 l[q].kind, .int .i64 l[q].num, .string l[q].text, .slice np l[q].names.length nc, .slice lp l[q].list.length lc]) ∧ JAt S w l[q] (.agg #[.int .i64 l[q].kind, .int .i64 l[q].num, .string l[q].text, .slice np l[q].names.length nc, .slice lp l[q].list.length lc]) := by
  obtain ⟨vs, ⟨hvl, hlies⟩, hvs⟩ := kids_lie h
  rcases Nat.eq_zero_or_pos l.length with h0 | h0
  · have e1 : l = [] := List.length_eq_zero_iff.1 h0
    subst e1
    have e2 : vs = [] := List.length_eq_zero_iff.1 hvl
    subst e2
    cases p with
    | none =>
      have hcon := AnyE.slices_Clone_nil Tryd.cloneJ 0 c w
      change Calls Tryd.prog 16 _ _ _ at hcon
      refine hcon.mono ?_
      rintro e w' ⟨rfl, rfl⟩
      exact ⟨_, [], rfl, rfl, World.ownsRow_nil _ _ _ _, Below.refl _ _, fun q hq => by simp at hq⟩
    | some a =>
      refine (clone_zero a c w).mono ?_
      rintro e w' ⟨u, rfl, h1, h2⟩
      exact ⟨u, [], rfl, rfl, h1, h2, fun q hq => by simp at hq⟩
  · obtain ⟨g, off, rfl, hc⟩ := hlies h0
    obtain ⟨i0, hi, hz0, hz1, hz2⟩ := info_parts infoJ
    have h5 : ∀ v ∈ vs, (vcells v).length = 5 ∧ ∀ u ∈ vcells v, u.oneCell' = true := fun v hv => by
      obtain ⟨i, hi, rfl⟩ := List.getElem_of_mem hv
      obtain ⟨np, nc, lp, lc, he, _⟩ := hvs i (by omega)
      rw [List.getElem?_eq_getElem hi] at he
      injection he with he
      rw [he]
      refine ⟨rfl, fun u hu => ?_⟩
      simp [vcells] at hu
      rcases hu with rfl | rfl | rfl | rfl | rfl <;> rfl
    have hcon := AnyE.slices_Clone Tryd.cloneJ i0 _ 5 80 hi hz0 hz1 hz2 rfl (by decide) Tryd.sizeOf25 g off l.length c (vs.flatMap vcells) w (by rw [flat_len vs (fun v hv => (h5 v hv).1), hvl]) (by unfold maxLen; omega) (by omega) hc (fun u hu => by
      obtain ⟨v, hv, hu⟩ := List.mem_flatMap.1 hu
      exact (h5 v hv).2 u hu)
    change Calls Tryd.prog 16 _ _ _ at hcon
    refine hcon.mono ?_
    rintro e w' ⟨u, rfl, ho, _, hb⟩
    exact ⟨u, vs, rfl, hvl, ho, hb, hvs⟩
theorem five_at {W : World} {g : Nat} {a b c d e : Value} {T : TypeId} (hg : W.heap[g]? = some (.cells #[a, b, c, d, e] T (0, 0))) : W.cell? ⟨g, 0, none⟩ = some a ∧ W.cell? ⟨g, 1, none⟩ = some b ∧ W.cell? ⟨g, 2, none⟩ = some c ∧ W.cell? ⟨g, 3, none⟩ = some d ∧ W.cell? ⟨g, 4, none⟩ = some e := by
  simp [World.cell?, hg]
def CloneOk (j : J) : Prop := ∀ (S : Nat → Prop) (v : Value) (w : World), JAt S w j v → Big j →
  Calls Tryd.prog 10 #[v] w fun e w' => ∃ u, e = .returned u ∧ JAt (fun b => w.heap.size ≤ b) w' j u ∧ Below w.heap.size w w'
theorem row_put {w : World} {base g n c : Nat} {T : TypeId} {cs old new rest : List Value} (h : w.ownsRow base T 5 (.slice (some ⟨g, 0, none⟩) n c) n (cs ++ old ++ rest)) (ho : old.length = 5) (hn : new.length = 5) :
    (w.setCells g cs.length new).ownsRow base T 5 (.slice (some ⟨g, 0, none⟩) n c) n (cs ++ new ++ rest) := by
  obtain ⟨ys, h1, h2, h3, h4⟩ := Rk.own_stored new cs.length w _ h
  have e : ys = cs ++ new ++ rest := by
    have hl : ys.length = (cs ++ old ++ rest).length := by rw [h1.1, h.1]
    apply List.ext_getElem?
    intro j
    rcases Nat.lt_or_ge j cs.length with c1 | c1
    · rw [h2 j c1, List.append_assoc, List.append_assoc, List.getElem?_append_left c1, List.getElem?_append_left c1]
    · rcases Nat.lt_or_ge j (cs.length + 5) with c2 | c2
      · obtain ⟨i, rfl⟩ : ∃ i, j = cs.length + i := ⟨j - cs.length, by omega⟩
        rw [h3 i (by omega) (by simp; omega), List.append_assoc, List.getElem?_append_right (by omega), List.getElem?_append_left (by omega)]
        congr 1
        omega
      · rw [h4 j (by omega), List.getElem?_append_right (by simp; omega), List.getElem?_append_right (by simp; omega)]
        simp [ho, hn]
  rw [← e]
  exact h1
theorem own_keep_raw {w w' : World} {base n k : Nat} {T : TypeId} {v : Value} {xs : List Value} (h : w.ownsRow base T k v n xs) (hk : ∀ g, v.ownBlock = some g → g < w.heap.size → w'.heap[g]? = w.heap[g]?) : w'.ownsRow base T k v n xs := by
  refine ⟨h.1, ?_⟩
  rcases h.2 with h0 | ⟨g, cap, cur, rfl, h1, hg, h2⟩
  · exact .inl h0
  · exact .inr ⟨g, cap, cur, rfl, h1, (hk g rfl (Array.getElem?_eq_some_iff.1 hg).1).trans hg, h2⟩
theorem jat_old {S : Nat → Prop} {w w' : World} {j : J} {v : Value} (h : JAt S w j v) (hb : Below w.heap.size w w') : JAt (fun b => S b ∧ b < w.heap.size) w' j v :=
  JAt.frame (fun b hlt hs => ⟨hs, hlt⟩) (fun b _ hlt => hb.block b hlt) hb.size _ _ h
theorem kids_old {S : Nat → Prop} {w w' : World} {p : Option Addr} {i : Nat} {l : List J} (h : KidsAt S w p i l) (hb : Below w.heap.size w w') : KidsAt (fun b => S b ∧ b < w.heap.size) w' p i l :=
  KidsAt.frame (fun b hlt hs => ⟨hs, hlt⟩) (fun b _ hlt => hb.block b hlt) hb.size p i l h
abbrev zJ : Obj := .cells #[.int .i64 0, .int .i64 0, .string ⟨#[]⟩, .slice none 0 0, .slice none 0 0] 25
/-- The clone's row behind q rounds. -/
def CR (w w1 w3 : World) (k n : Int) (t : ByteArray) (np2 : Option Addr) (ns : List ByteArray) (nc2 : Nat) (lp2 : Option Addr) (lc2 : Nat) (l : List J) (vs : List Value) (q : Nat) (cs : List Value) (wr : World) : Prop :=
  cs.length = q * 5 ∧ wr.ownsRow w3.heap.size 25 5 (.slice lp2 l.length lc2) l.length (cs ++ (vs.drop q).flatMap vcells) ∧ Kids w3.heap.size wr (.slice lp2 l.length lc2) (l.take q) cs ∧
  wr.heap[w.heap.size]? = some (.cells #[.int .i64 k, .int .i64 n, .string t, .slice np2 ns.length nc2, .slice lp2 l.length lc2] 25 (0, 0)) ∧
  wr.heap[w.heap.size + 1]? = some (.cells #[.int .i64 0, .int .i64 0, .string ⟨#[]⟩, .slice none 0 0, .slice none 0 0] 25 (0, 0)) ∧
  NamesAt (fun b => w1.heap.size ≤ b ∧ b < w3.heap.size) wr np2 ns ∧ Below w.heap.size w wr ∧ w3.heap.size ≤ wr.heap.size
/-- What lies there at a round, and behind whatever makes new blocks alone. -/
theorem CR.at {w w1 w3 : World} {k n : Int} {t : ByteArray} {np2 : Option Addr} {ns : List ByteArray} {nc2 : Nat} {lp2 : Option Addr} {lc2 : Nat} {l : List J} {vs : List Value} {q : Nat} {cs : List Value} {wr : World} (h : CR w w1 w3 k n t np2 ns nc2 lp2 lc2 l vs q cs wr) {a b : Int} {c : ByteArray} {d e : Value} (hv : vs[q]? = some (.agg #[.int .i64 a, .int .i64 b, .string c, d, e])) (hq : q < l.length) :
    ∃ lg, lp2 = some ⟨lg, 0, none⟩ ∧ w3.heap.size ≤ lg ∧ lg < wr.heap.size ∧ ∀ W, Below wr.heap.size wr W → (W.cell? ⟨w.heap.size, 4, none⟩ = some (.slice lp2 l.length lc2) ∧ W.cell? ⟨lg, q * 5, none⟩ = some (.int .i64 a) ∧ W.cell? ⟨lg, q * 5 + 1, none⟩ = some (.int .i64 b) ∧ W.cell? ⟨lg, q * 5 + 2, none⟩ = some (.string c) ∧ W.cell? ⟨lg, q * 5 + 3, none⟩ = some d ∧ W.cell? ⟨lg, q * 5 + 4, none⟩ = some e) ∧ (W.frozen? ⟨lg, q * 5, none⟩ = false ∧ W.frozen? ⟨lg, q * 5 + 1, none⟩ = false ∧ W.frozen? ⟨lg, q * 5 + 2, none⟩ = false ∧ W.frozen? ⟨lg, q * 5 + 3, none⟩ = false ∧ W.frozen? ⟨lg, q * 5 + 4, none⟩ = false) := by
  obtain ⟨h1, h2, h3, h4, h5, h6, h7, h8⟩ := h
  obtain ⟨hqv, hvq⟩ := List.getElem?_eq_some_iff.1 hv
  have hd : vs.drop q = vs[q] :: vs.drop (q + 1) := List.drop_eq_getElem_cons hqv
  obtain ⟨lg, rfl, hl1, hl2⟩ : ∃ lg, lp2 = some ⟨lg, 0, none⟩ ∧ w3.heap.size ≤ lg ∧ lg < wr.heap.size := by
    rcases h2.2 with ⟨_, h0⟩ | ⟨g, cap, cur, e, hb, hg, _⟩
    · omega
    · injection e with e1
      exact ⟨g, e1, hb, (Array.getElem?_eq_some_iff.1 hg).1⟩
  refine ⟨lg, rfl, hl1, hl2, fun W hW => ?_⟩
  have hown : W.ownsRow w3.heap.size 25 5 (.slice (some ⟨lg, 0, none⟩) l.length lc2) l.length (cs ++ (vs.drop q).flatMap vcells) := own_keep_raw h2 (fun g _ hlt => hW.block g hlt)
  rw [hd, List.flatMap_cons, hvq] at hown
  have hc : ∀ i (u : Value), i < 5 → (#[.int .i64 a, .int .i64 b, .string c, d, e] : Array Value).toList[i]? = some u → W.cell? ⟨lg, q * 5 + i, none⟩ = some u := fun i u hi hu => by
    have hlt : q * 5 + i < l.length * 5 := by omega
    rw [hown.cellAt _ hlt, List.getElem?_append_right (by omega), show q * 5 + i - cs.length = i by omega, List.getElem?_append_left (by simp [vcells]; omega)]
    exact hu
  have hz := (hW.block _ (Array.getElem?_eq_some_iff.1 h4).1).trans h4
  refine ⟨⟨(five_at hz).2.2.2.2, hc 0 _ (by omega) rfl, hc 1 _ (by omega) rfl, hc 2 _ (by omega) rfl, hc 3 _ (by omega) rfl, hc 4 _ (by omega) rfl⟩, hown.frozenAt _, hown.frozenAt _, hown.frozenAt _, hown.frozenAt _, hown.frozenAt _⟩
/-- One value more, cloned: stored at its place. -/
theorem CR.next {w w1 w3 : World} {k n : Int} {t : ByteArray} {np2 : Option Addr} {ns : List ByteArray} {nc2 : Nat} {lg : Nat} {lc2 : Nat} {l : List J} {vs : List Value} {q : Nat} {cs : List Value} {wr : World} (h : CR w w1 w3 k n t np2 ns nc2 (some ⟨lg, 0, none⟩) lc2 l vs q cs wr) (hq : q < l.length) (hvl : vs.length = l.length) (h5v : (vcells (vs[q]'(by omega))).length = 5) (hA : w.heap.size + 1 < w3.heap.size) (hlg : w3.heap.size ≤ lg) (hlg2 : lg < wr.heap.size)
    {W : World} (hb : Below wr.heap.size wr W) {a b c d e : Value} (hj : JAt (fun x => wr.heap.size ≤ x) W l[q] (.agg #[a, b, c, d, e])) : CR w w1 w3 k n t np2 ns nc2 (some ⟨lg, 0, none⟩) lc2 l vs (q + 1) (cs ++ [a, b, c, d, e]) (W.setCells lg (q * 5) [a, b, c, d, e]) := by
  obtain ⟨h1, h2, h3, h4, h5, h6, h7, h8⟩ := h
  have hset : ∀ g, g ≠ lg → (W.setCells lg (q * 5) [a, b, c, d, e]).heap[g]? = W.heap[g]? := fun g hg => by
    show ((((((W.setCell ⟨lg, q * 5, none⟩ a).setCell ⟨lg, q * 5 + 1, none⟩ b).setCell ⟨lg, q * 5 + 1 + 1, none⟩ c).setCell ⟨lg, q * 5 + 1 + 1 + 1, none⟩ d).setCell ⟨lg, q * 5 + 1 + 1 + 1 + 1, none⟩ e)).heap[g]? = _
    rw [heap_setCell_other _ _ _ _ hg, heap_setCell_other _ _ _ _ hg, heap_setCell_other _ _ _ _ hg, heap_setCell_other _ _ _ _ hg, heap_setCell_other _ _ _ _ hg]
  have hsz : (W.setCells lg (q * 5) [a, b, c, d, e]).heap.size = W.heap.size := by
    show ((((((W.setCell ⟨lg, q * 5, none⟩ a).setCell ⟨lg, q * 5 + 1, none⟩ b).setCell ⟨lg, q * 5 + 1 + 1, none⟩ c).setCell ⟨lg, q * 5 + 1 + 1 + 1, none⟩ d).setCell ⟨lg, q * 5 + 1 + 1 + 1 + 1, none⟩ e)).heap.size = _
    simp
  have hd : vs.drop q = vs[q] :: vs.drop (q + 1) := List.drop_eq_getElem_cons (by omega)
  have hown : W.ownsRow w3.heap.size 25 5 (.slice (some ⟨lg, 0, none⟩) l.length lc2) l.length (cs ++ (vs.drop q).flatMap vcells) := own_keep_raw h2 (fun g _ hlt => hb.block g hlt)
  rw [hd, List.flatMap_cons, ← List.append_assoc] at hown
  have hput := row_put (new := [a, b, c, d, e]) hown h5v rfl
  rw [h1] at hput
  have hkf : Kids w3.heap.size (W.setCells lg (q * 5) [a, b, c, d, e]) (.slice (some ⟨lg, 0, none⟩) l.length lc2) (l.take q) cs := h3.frame (fun b _ _ hne => hne) (fun b hb1 hlt hne => by
    rw [hset b (fun e => hne (by rw [e]; rfl))]
    exact hb.block b hlt) (by rw [hsz]; exact hb.size)
  have hjn : JAt (fun b => w3.heap.size ≤ b ∧ some b ≠ (Value.slice (some ⟨lg, 0, none⟩) l.length lc2).ownBlock) (W.setCells lg (q * 5) [a, b, c, d, e]) l[q] (.agg #[a, b, c, d, e]) := JAt.frame (fun b _ hb2 => ⟨Nat.le_trans h8 hb2, fun e => by simp [Value.ownBlock] at e; omega⟩) (fun b hb2 _ => hset b (by omega)) (by rw [hsz]; exact Nat.le_refl _) _ _ hj
  have hk2 := hkf.push hjn
  have ht : l.take q ++ [l[q]] = l.take (q + 1) := by rw [List.take_add_one, List.getElem?_eq_getElem hq]; rfl
  rw [ht] at hk2
  refine ⟨by simp; omega, hput, hk2, ?_, ?_, ?_, ?_, ?_⟩
  · rw [hset _ (by omega)]; exact (hb.block _ (Array.getElem?_eq_some_iff.1 h4).1).trans h4
  · rw [hset _ (by omega)]; exact (hb.block _ (Array.getElem?_eq_some_iff.1 h5).1).trans h5
  · exact h6.frame (fun _ _ h => h) (fun b hb2 hlt => by rw [hset b (by omega)]; exact hb.block b hlt) (by rw [hsz]; exact hb.size)
  · have hbw := h7.trans (hb.mono h7.size)
    exact ((((hbw.setCell (p := ⟨lg, q * 5, none⟩) (by show w.heap.size ≤ lg; omega) a).setCell (p := ⟨lg, q * 5 + 1, none⟩) (by show w.heap.size ≤ lg; omega) b).setCell (p := ⟨lg, q * 5 + 1 + 1, none⟩) (by show w.heap.size ≤ lg; omega) c).setCell (p := ⟨lg, q * 5 + 1 + 1 + 1, none⟩) (by show w.heap.size ≤ lg; omega) d).setCell (p := ⟨lg, q * 5 + 1 + 1 + 1 + 1, none⟩) (by show w.heap.size ≤ lg; omega) e
  · rw [hsz]; exact Nat.le_trans h8 hb.size
set_option maxHeartbeats 4000000 in
set_option maxRecDepth 100000 in
theorem clone_step (k n : Int) (t : ByteArray) (ns : List ByteArray) (l : List J) (hl : ∀ j ∈ l, CloneOk j) : CloneOk (.mk k n t ns l) := by
  intro S v w h hbig
  unfold JAt at h
  obtain ⟨np, nc, lp, lc, rfl, hn, hk⟩ := h
  unfold Big at hbig
  obtain ⟨_, bn, bl, _, ba⟩ := hbig
  have hb1 : Below w.heap.size w ((w.alloc (jO k n t (.slice np ns.length nc) (.slice lp l.length lc))).alloc zJ) := ((Below.refl _ w).alloc (Nat.le_refl _) _).alloc (by simp) _
  have z1 : ((w.alloc (jO k n t (.slice np ns.length nc) (.slice lp l.length lc))).alloc zJ).heap[w.heap.size]? = some (.cells #[.int .i64 k, .int .i64 n, .string t, .slice np ns.length nc, .slice lp l.length lc] 25 (0, 0)) := by rw [heapO _ _ (by simp), heapN]
  have z2 : ((w.alloc (jO k n t (.slice np ns.length nc) (.slice lp l.length lc))).alloc zJ).heap[w.heap.size + 1]? = some (.cells #[.int .i64 0, .int .i64 0, .string ⟨#[]⟩, .slice none 0 0, .slice none 0 0] 25 (0, 0)) := by
    have := heapN (w.alloc (jO k n t (.slice np ns.length nc) (.slice lp l.length lc))) zJ
    rw [show (w.alloc (jO k n t (.slice np ns.length nc) (.slice lp l.length lc))).heap.size = w.heap.size + 1 by simp] at this
    exact this
  have hs1 : ((w.alloc (jO k n t (.slice np ns.length nc) (.slice lp l.length lc))).alloc zJ).heap.size = w.heap.size + 2 := by simp
  have C1 := Lib.hid (clone_names (c := nc) _ (hn.frame (S' := S) (fun _ _ h => h) (fun b _ hlt => hb1.block b hlt) hb1.size) bn)
  have C2 := Lib.hid (fun W (hW : Below w.heap.size w W) => clone_list (c := lc) W (kids_old hk hW) bl)
  have HB1 := Lib.hid hb1
  have HZ1 := Lib.hid z1
  have HZ2 := Lib.hid z2
  have HS1 := Lib.hid hs1
  have HBA := Lib.hid ba.mem
  have HL := Lib.hid hl
  have HLM : Hid (l.length ≤ maxLen) := Lib.hid (by unfold maxLen; omega)
  have HLB := Lib.hid bl
  clear hn hk bn bl ba hb1 z1 z2 hs1 hl
  go_enter Tryd.func10, Tryd.ntmps10
  go_wp2_with fail
  generalize (w.alloc (jO k n t (.slice np ns.length nc) (.slice lp l.length lc))).alloc zJ = w1 at *
  refine C1.out.mono ?_
  clear C1
  rintro e w2 ⟨nu, rfl, hnu, hb2⟩
  obtain ⟨np2, nc2, rfl, hnn⟩ := names_done hnu
  have z21 := (hb2.block _ (by rw [HS1.out]; omega)).trans HZ1.out
  have z22 := (hb2.block _ (by rw [HS1.out]; omega)).trans HZ2.out
  obtain ⟨a0, a1, a2, a3, a4⟩ := five_at z21
  have f3 : w2.frozen? ⟨w.heap.size, 3, none⟩ = false := Lib.frozen_of_heap z21 3
  have y31 : (w2.setCell ⟨w.heap.size, 3, none⟩ (.slice np2 ns.length nc2)).heap[w.heap.size]? = some (.cells #[.int .i64 k, .int .i64 n, .string t, .slice np2 ns.length nc2, .slice lp l.length lc] 25 (0, 0)) := by
    rw [heap_setCell_same _ _ _ _ _ _ z21]; rfl
  have y32 : (w2.setCell ⟨w.heap.size, 3, none⟩ (.slice np2 ns.length nc2)).heap[w.heap.size + 1]? = some (.cells #[.int .i64 0, .int .i64 0, .string ⟨#[]⟩, .slice none 0 0, .slice none 0 0] 25 (0, 0)) := by
    rw [heap_setCell_other _ _ _ _ (by simp)]; exact z22
  have hb13 : Below w.heap.size w (w2.setCell ⟨w.heap.size, 3, none⟩ (.slice np2 ns.length nc2)) := (HB1.out.trans (hb2.mono HB1.out.size)).setCell (p := ⟨w.heap.size, 3, none⟩) (Nat.le_refl _) _
  have hs3 : w1.heap.size ≤ (w2.setCell ⟨w.heap.size, 3, none⟩ (.slice np2 ns.length nc2)).heap.size := by have := hb2.size; simpa using this
  have hnn3 : NamesAt (fun b => w1.heap.size ≤ b ∧ b < (w2.setCell ⟨w.heap.size, 3, none⟩ (.slice np2 ns.length nc2)).heap.size) (w2.setCell ⟨w.heap.size, 3, none⟩ (.slice np2 ns.length nc2)) np2 ns := hnn.frame (fun b hlt hb => ⟨hb, by simpa using hlt⟩) (fun b hb _ => by rw [heap_setCell_other _ _ _ _ (by have := HS1.out; simp; omega)]) (by simp)
  have C3 := Lib.hid (C2.out _ hb13)
  have HB3 := Lib.hid hb13
  have HS3 := Lib.hid hs3
  have HN3 := Lib.hid hnn3
  have HY31 := Lib.hid y31
  have HY32 := Lib.hid y32
  clear z21 z22 hnu hnn hb2 y31 y32 hb13 hs3 hnn3 C2 HB1 HZ1 HZ2
  have e4 : (w2.setCell ⟨w.heap.size, 3, none⟩ (.slice np2 ns.length nc2)).cell? ⟨w.heap.size, 4, none⟩ = some (.slice lp l.length lc) := (five_at HY31.out).2.2.2.2
  go_wp2_with fail
  generalize w2.setCell ⟨w.heap.size, 3, none⟩ (.slice np2 ns.length nc2) = w3 at *
  refine C3.out.mono ?_
  clear C3 a0 a1 a2 a3 a4 f3 e4
  rintro e w4 ⟨lu, vs, rfl, hvl, hlu, hb4, hvs⟩
  obtain ⟨lp2, lc2, hlf⟩ : ∃ p c, lu = .slice p l.length c := by
    rcases hlu.2 with ⟨rfl, h0⟩ | ⟨g, cap, cur, rfl, _⟩
    · exact ⟨none, 0, by rw [h0]⟩
    · exact ⟨_, _, rfl⟩
  subst hlf
  have z41 := (hb4.block _ (Array.getElem?_eq_some_iff.1 HY31.out).1).trans HY31.out
  have z42 := (hb4.block _ (Array.getElem?_eq_some_iff.1 HY32.out).1).trans HY32.out
  have f4 : w4.frozen? ⟨w.heap.size, 4, none⟩ = false := Lib.frozen_of_heap z41 4
  have c4 := (five_at z41).2.2.2.2
  have y51 : (w4.setCell ⟨w.heap.size, 4, none⟩ (.slice lp2 l.length lc2)).heap[w.heap.size]? = some (.cells #[.int .i64 k, .int .i64 n, .string t, .slice np2 ns.length nc2, .slice lp2 l.length lc2] 25 (0, 0)) := by
    rw [heap_setCell_same _ _ _ _ _ _ z41]; rfl
  have y52 : (w4.setCell ⟨w.heap.size, 4, none⟩ (.slice lp2 l.length lc2)).heap[w.heap.size + 1]? = some (.cells #[.int .i64 0, .int .i64 0, .string ⟨#[]⟩, .slice none 0 0, .slice none 0 0] 25 (0, 0)) := by
    rw [heap_setCell_other _ _ _ _ (by simp)]; exact z42
  have hwA : w.heap.size < w3.heap.size := (Array.getElem?_eq_some_iff.1 HY31.out).1
  have hb5 : Below w.heap.size w (w4.setCell ⟨w.heap.size, 4, none⟩ (.slice lp2 l.length lc2)) := (HB3.out.trans (hb4.mono HB3.out.size)).setCell (p := ⟨w.heap.size, 4, none⟩) (Nat.le_refl _) _
  have hn5 : NamesAt (fun b => w1.heap.size ≤ b ∧ b < w3.heap.size) (w4.setCell ⟨w.heap.size, 4, none⟩ (.slice lp2 l.length lc2)) np2 ns := HN3.out.frame (fun _ _ h => h) (fun b hb hlt => by rw [heap_setCell_other _ _ _ _ (by have := HS1.out; simp; omega)]; exact hb4.block b hlt) (by have := hb4.size; simpa using this)
  have hl5 : (w4.setCell ⟨w.heap.size, 4, none⟩ (.slice lp2 l.length lc2)).ownsRow w3.heap.size 25 5 (.slice lp2 l.length lc2) l.length (vs.flatMap vcells) := own_keep_raw hlu (fun g hg hlt => by
    have := (hlu.lt g hg).1
    rw [heap_setCell_other _ _ _ _ (by simp; omega)])
  have HB5 := Lib.hid hb5
  have HN5 := Lib.hid hn5
  have HL5 := Lib.hid hl5
  have HY51 := Lib.hid y51
  have HY52 := Lib.hid y52
  have HVL := Lib.hid hvl
  have HVS := Lib.hid hvs
  have HWA := Lib.hid hwA
  have HS5 : Hid (w3.heap.size ≤ (w4.setCell ⟨w.heap.size, 4, none⟩ (.slice lp2 l.length lc2)).heap.size) := Lib.hid (by have := hb4.size; simpa using this)
  clear z41 z42 hlu hb4 y51 y52 hwA hb5 hn5 hl5 hvl hvs HY31 HY32 HN3
  have e4 : (w4.setCell ⟨w.heap.size, 4, none⟩ (.slice lp2 l.length lc2)).cell? ⟨w.heap.size, 4, none⟩ = some (.slice lp2 l.length lc2) := (five_at HY51.out).2.2.2.2
  go_wp2_with fail
  generalize w4.setCell ⟨w.heap.size, 4, none⟩ (.slice lp2 l.length lc2) = w5 at *
  clear e4 f4 c4
  go_loopw [3, 4, 16] (fun i pt kk wr => ∃ q : Nat, q ≤ l.length ∧ kk = .int .i64 q ∧ ∃ cs, CR w w1 w3 k n t np2 ns nc2 lp2 lc2 l vs q cs wr) (fun _ _ kk _ => l.length - (intOf kk).toNat)
  case atStart => exact ⟨0, Nat.zero_le _, rfl, [], rfl, by simpa using HL5.out, Kids.nil _ _ _, HY51.out, HY52.out, HN5.out, HB5.out, HS5.out⟩
  case round =>
    obtain ⟨q, hq, rfl, cs, hcr⟩ := hrel
    have HCR := Lib.hid hcr
    obtain ⟨wo, rfl⟩ : ∃ wo : World, wo = wr := ⟨_, rfl⟩
    by_cases hlt : q < l.length
    · obtain ⟨np', nc', lp', lc', hv, hj⟩ := HVS.out q hlt
      obtain ⟨lg, rfl, hlg, hlg2, hat⟩ := hcr.at hv hlt
      have HAT := Lib.hid hat
      have HLG := Lib.hid hlg
      have HLG2 := Lib.hid hlg2
      obtain ⟨⟨_, x0, x1, x2, x3, x4⟩, _⟩ := hat wo (Below.refl _ _)
      have hlt' : (q : Int) < (l.length : Int) := by omega
      have h5v : (vcells (vs[q]'(by have := HVL.out; omega))).length = 5 := by
        obtain ⟨hqv, hvq⟩ := List.getElem?_eq_some_iff.1 hv
        rw [hvq]; rfl
      have HLT := Lib.hid hlt
      have HJ : Hid (∀ W, Below wo.heap.size wo W → JAt (fun b => S b ∧ b < w.heap.size) W l[q] (.agg #[.int .i64 l[q].kind, .int .i64 l[q].num, .string l[q].text, .slice np' l[q].names.length nc', .slice lp' l[q].list.length lc'])) := Lib.hid (fun W hW => JAt.frame (fun _ _ h => h) (fun b hb _ => by
        rw [hW.block b (Nat.lt_of_lt_of_le hb.2 hcr.2.2.2.2.2.2.1.size), hcr.2.2.2.2.2.2.1.block b hb.2, HB3.out.block b hb.2]) (Nat.le_trans hcr.2.2.2.2.2.2.2 hW.size) _ _ hj)
      have HNEXT : Hid (∀ W a b c d e, Below wo.heap.size wo W → JAt (fun x => wo.heap.size ≤ x) W l[q] (.agg #[a, b, c, d, e]) → CR w w1 w3 k n t np2 ns nc2 (some ⟨lg, 0, none⟩) lc2 l vs (q + 1) (cs ++ [a, b, c, d, e]) (W.setCells lg (q * 5) [a, b, c, d, e])) := Lib.hid (fun W a b c d e hb hj2 => hcr.next hlt HVL.out h5v (by have := HS1.out; have := HS3.out; omega) hlg hlg2 hb hj2)
      have HCO := Lib.hid (HL.out l[q] (List.getElem_mem hlt) (fun b => S b ∧ b < w.heap.size))
      have HBQ : Hid (Big l[q]) := Lib.hid (HBA.out _ (List.getElem_mem hlt))
      have x0' : wo.cell? ⟨lg, q * 5, none⟩ = some (.int .i64 l[q].kind) := x0
      have x1' : wo.cell? ⟨lg, q * 5 + 1, none⟩ = some (.int .i64 l[q].num) := x1
      have x2' : wo.cell? ⟨lg, q * 5 + 2, none⟩ = some (.string l[q].text) := x2
      have x3' : wo.cell? ⟨lg, q * 5 + 3, none⟩ = some (.slice np' l[q].names.length nc') := x3
      have x4' : wo.cell? ⟨lg, q * 5 + 4, none⟩ = some (.slice lp' l[q].list.length lc') := x4
      clear x0 x1 x2 x3 x4
      have hat' : ∀ W, Below wo.heap.size wo W → (W.cell? ⟨w.heap.size, 4, none⟩ = some (.slice (some ⟨lg, 0, none⟩) l.length lc2) ∧ W.cell? ⟨lg, q * 5, none⟩ = some (.int .i64 l[q].kind) ∧ W.cell? ⟨lg, q * 5 + 1, none⟩ = some (.int .i64 l[q].num) ∧ W.cell? ⟨lg, q * 5 + 2, none⟩ = some (.string l[q].text) ∧ W.cell? ⟨lg, q * 5 + 3, none⟩ = some (.slice np' l[q].names.length nc') ∧ W.cell? ⟨lg, q * 5 + 4, none⟩ = some (.slice lp' l[q].list.length lc')) ∧ (W.frozen? ⟨lg, q * 5, none⟩ = false ∧ W.frozen? ⟨lg, q * 5 + 1, none⟩ = false ∧ W.frozen? ⟨lg, q * 5 + 2, none⟩ = false ∧ W.frozen? ⟨lg, q * 5 + 3, none⟩ = false ∧ W.frozen? ⟨lg, q * 5 + 4, none⟩ = false) := HAT.out
      clear HAT
      have HAT := Lib.hid hat'
      clear hat'
      obtain ⟨jq, hjq⟩ : ∃ jq, jq = l[q] := ⟨_, rfl⟩
      rw [← hjq] at HJ HNEXT HCO HBQ x0' x1' x2' x3' x4' HAT
      generalize jq.names.length = m1 at *
      generalize jq.list.length = m2 at *
      generalize jq.kind = q1 at *
      generalize jq.num = q2 at *
      generalize jq.text = q3 at *
      have CC := Lib.hid (HCO.out _ _ (HJ.out (wo.alloc (jO q1 q2 q3 (.slice np' m1 nc') (.slice lp' m2 lc'))).drew ((Below.refl wo.heap.size wo).alloc (Nat.le_refl _) _).drew) HBQ.out)
      have hsa : (wo.alloc (jO q1 q2 q3 (.slice np' m1 nc') (.slice lp' m2 lc'))).drew.heap.size = wo.heap.size + 1 := by show (wo.alloc _).heap.size = _; simp
      have hba : Below wo.heap.size wo (wo.alloc (jO q1 q2 q3 (.slice np' m1 nc') (.slice lp' m2 lc'))).drew := ((Below.refl wo.heap.size wo).alloc (Nat.le_refl _) _).drew
      have hz4 := (HAT.out _ hba).1.1
      have HAFT : Hid (∀ w6, Below (wo.alloc (jO q1 q2 q3 (.slice np' m1 nc') (.slice lp' m2 lc'))).drew.heap.size (wo.alloc (jO q1 q2 q3 (.slice np' m1 nc') (.slice lp' m2 lc'))).drew w6 → Below wo.heap.size wo w6) := Lib.hid (fun w6 h => hba.trans (h.mono hba.size))
      have HSA := Lib.hid hsa
      clear hv hj hat hlg hlg2 hlt h5v hjq hcr HCO HBQ HJ hsa
      go_upto_region 6 with fail
      go_region_with (go_at_call 10; refine CC.out.mono ?_; rintro e w6 ⟨u, rfl, hju, hb6⟩; obtain ⟨np6, nc6, lp6, lc6, rfl, _, _⟩ := hju.five; generalize jq.kind = a at *; generalize jq.num = b at *; generalize jq.text = c at *; generalize jq.names.length = d at *; generalize jq.list.length = e at *; have hbo := HAFT.out w6 hb6; obtain ⟨⟨y4, y0, y1, y2, y3, y5⟩, f0, f1, f2, f3, f5⟩ := HAT.out w6 hbo)
      all_goals go_wp2_with fail
      all_goals (refine ⟨⟨q + 1, HLT.out, congrArg _ (wrap_q HLM.out HLT.out), _, HNEXT.out w6 _ _ _ _ _ hbo (JAt.frame (fun x _ hx => Nat.le_trans (by rw [HSA.out]; omega) hx) (fun _ _ _ => rfl) (Nat.le_refl _) _ _ hju)⟩, ?_⟩; rw [wrap_q HLM.out HLT.out]; exact less_q HLT.out)
    · obtain rfl : q = l.length := by omega
      obtain ⟨h1, h2, h3, h4, h5, h6, h7, h8⟩ := hcr
      have hvd : vs.drop l.length = [] := List.drop_eq_nil_of_le (by rw [HVL.out]; exact Nat.le_refl _)
      rw [hvd, List.flatMap_nil, List.append_nil] at h2
      rw [List.take_length] at h3
      obtain ⟨lp9, lc9, he9, hkids⟩ := h3.done h2
      injection he9 with e1 _ e3
      subst e1; subst e3
      obtain ⟨a0, a1, a2, a3, a4⟩ := five_at h4
      obtain ⟨q0, q1, q2, q3, q4⟩ := five_at h5
      have f0 : wo.frozen? ⟨w.heap.size + 1, 0, none⟩ = false := Lib.frozen_of_heap h5 0
      have f1 : wo.frozen? ⟨w.heap.size + 1, 1, none⟩ = false := Lib.frozen_of_heap h5 1
      have f2 : wo.frozen? ⟨w.heap.size + 1, 2, none⟩ = false := Lib.frozen_of_heap h5 2
      have f3 : wo.frozen? ⟨w.heap.size + 1, 3, none⟩ = false := Lib.frozen_of_heap h5 3
      have f4 : wo.frozen? ⟨w.heap.size + 1, 4, none⟩ = false := Lib.frozen_of_heap h5 4
      have HK9 := Lib.hid hkids
      have HN9 := Lib.hid h6
      have HB9 := Lib.hid h7
      clear h1 h2 h3 h4 h5 h6 h7 h8 hkids hvd hq hlt HCR
      go_wp2_with fail
      have hset : ∀ g, g ≠ w.heap.size + 1 → (wo.setCells (w.heap.size + 1) 0 [.int .i64 k, .int .i64 n, .string t, .slice np2 ns.length nc2, .slice lp2 l.length lc2]).heap[g]? = wo.heap[g]? := fun g hg => by
        show ((((((wo.setCell ⟨w.heap.size + 1, 0, none⟩ _).setCell ⟨w.heap.size + 1, 0 + 1, none⟩ _).setCell ⟨w.heap.size + 1, 0 + 1 + 1, none⟩ _).setCell ⟨w.heap.size + 1, 0 + 1 + 1 + 1, none⟩ _).setCell ⟨w.heap.size + 1, 0 + 1 + 1 + 1 + 1, none⟩ _)).heap[g]? = _
        rw [heap_setCell_other _ _ _ _ hg, heap_setCell_other _ _ _ _ hg, heap_setCell_other _ _ _ _ hg, heap_setCell_other _ _ _ _ hg, heap_setCell_other _ _ _ _ hg]
      have hsz : (wo.setCells (w.heap.size + 1) 0 [.int .i64 k, .int .i64 n, .string t, .slice np2 ns.length nc2, .slice lp2 l.length lc2]).heap.size = wo.heap.size := by
        show ((((((wo.setCell ⟨w.heap.size + 1, 0, none⟩ _).setCell ⟨w.heap.size + 1, 0 + 1, none⟩ _).setCell ⟨w.heap.size + 1, 0 + 1 + 1, none⟩ _).setCell ⟨w.heap.size + 1, 0 + 1 + 1 + 1, none⟩ _).setCell ⟨w.heap.size + 1, 0 + 1 + 1 + 1 + 1, none⟩ _)).heap.size = _
        simp
      have hs1 := HS1.out
      have hs3 := HS3.out
      have hN : NamesAt (fun b => w.heap.size ≤ b) (wo.setCells (w.heap.size + 1) 0 [.int .i64 k, .int .i64 n, .string t, .slice np2 ns.length nc2, .slice lp2 l.length lc2]) np2 ns := HN9.out.frame (fun b _ hb => Nat.le_trans (by omega) hb.1) (fun b hb _ => hset b (by have := hb.1; omega)) (by rw [hsz]; exact Nat.le_refl _)
      have hK : KidsAt (fun b => w.heap.size ≤ b) (wo.setCells (w.heap.size + 1) 0 [.int .i64 k, .int .i64 n, .string t, .slice np2 ns.length nc2, .slice lp2 l.length lc2]) lp2 0 l := KidsAt.frame (fun b _ hb => Nat.le_trans (by omega) hb) (fun b hb _ => hset b (by have := Nat.le_trans hs3 hb; omega)) (by rw [hsz]; exact Nat.le_refl _) _ _ _ HK9.out
      have hW : Below w.heap.size w (wo.setCells (w.heap.size + 1) 0 [.int .i64 k, .int .i64 n, .string t, .slice np2 ns.length nc2, .slice lp2 l.length lc2]) := ((((HB9.out.setCell (p := ⟨w.heap.size + 1, 0, none⟩) (Nat.le_succ _) _).setCell (p := ⟨w.heap.size + 1, 0 + 1, none⟩) (Nat.le_succ _) _).setCell (p := ⟨w.heap.size + 1, 0 + 1 + 1, none⟩) (Nat.le_succ _) _).setCell (p := ⟨w.heap.size + 1, 0 + 1 + 1 + 1, none⟩) (Nat.le_succ _) _).setCell (p := ⟨w.heap.size + 1, 0 + 1 + 1 + 1 + 1, none⟩) (Nat.le_succ _) _
      have HP := Lib.hid hN
      have HQ := Lib.hid hK
      have HR := Lib.hid hW
      clear hset hsz hs1 hs3 hN hK hW
      refine bodyPost_ret (v := .agg #[.int .i64 k, .int .i64 n, .string t, .slice np2 ns.length nc2, .slice lp2 l.length lc2]) (by simp [results, Tryd.results10, go_sem, q0, q1, q2, q3, q4]) rfl ⟨_, rfl, ?_, HR.out⟩
      unfold JAt
      exact ⟨_, _, _, _, rfl, HP.out, HQ.out⟩
mutual
theorem clone_ok : ∀ j : J, CloneOk j
  | .mk k n t ns l => clone_step k n t ns l (clone_all l)
theorem clone_all : ∀ l : List J, ∀ j ∈ l, CloneOk j
  | [], _, h => by simp at h
  | a :: l, j, h => by
    rcases List.mem_cons.1 h with h | h
    · rw [h]; exact clone_ok a
    · exact clone_all l j h
end
end Jg
end Go.Proofs.YtdooeedemgmpiaaDoor
