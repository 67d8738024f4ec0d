/- The law's walk: both Gets, both Sames. Conditions: those that each theorem names. -/
import Derived.Test.YtdooeedemgmpiaaDoorJgH
import Derived.Test.YtdooeedemgmpiaaDoorJgC
import Derived.Test.YtdooeedemgmpiaaDoorJsArgs
import Derived.Test.YtdooeedemgmpiaaDoorJsAwake
import Derived.Deep.RegionHeld3
namespace Go.Proofs.YtdooeedemgmpiaaDoor
set_option linter.unusedVariables false
open Go Go.RowKit Js
namespace Jg
/-- A bounded value in memory. -/
def JIn (W : World) (v : Value) (j : J) : Prop := (∃ S, JAt S W j v) ∧ Big j
theorem JIn.below {W W' : World} {v : Value} {j : J} (h : JIn W v j) (hb : Below W.heap.size W W') : JIn W' v j := by
  obtain ⟨⟨S, h1⟩, h2⟩ := h
  exact ⟨⟨S, jat_below h1 hb⟩, h2⟩
theorem same_in (W : World) (u v : Value) (a b : J) (h : JIn W u a) (k : JIn W v b) : Calls Tryd.prog 7 #[u, v] W fun e w' => e = .returned (.bool (same a b)) ∧ Below W.heap.size W w' := by
  obtain ⟨⟨S, h1⟩, h2⟩ := h
  obtain ⟨⟨S2, k1⟩, k2⟩ := k
  exact same_ok a b S S2 u v W h1 k1 h2 k2
theorem rsame_in (W : World) (u v : Value) (a b : J) (h : JIn W u a) (k : JIn W v b) : Calls Tryd.prog 6 #[u, v] W fun e w' => e = .returned (.bool (same a b)) ∧ Below W.heap.size W w' := by
  obtain ⟨⟨S, h1⟩, h2⟩ := h
  obtain ⟨⟨S2, k1⟩, k2⟩ := k
  exact rsame_ok a b S S2 u v W h1 k1 h2 k2
theorem get_in (W : World) (v : Value) (j : J) (s : ByteArray) (h : JIn W v j) : Calls Tryd.prog 4 #[v, .string s] W fun e w' => ∃ u, e = .returned (.tuple #[u, .bool (get j s).2]) ∧ JIn w' u (get j s).1 ∧ Below W.heap.size W w' := by
  obtain ⟨⟨S, h1⟩, h2⟩ := h
  have hb := get_big s h2
  obtain ⟨k, n, t, ns, l⟩ := j
  refine (get_any k n t ns l s S v W h1 h2).mono ?_
  rintro e w' ⟨u, rfl, h3, h4⟩
  exact ⟨u, rfl, ⟨⟨_, h3⟩, hb⟩, h4⟩
theorem rget_in (W : World) (v : Value) (j : J) (s : ByteArray) (h : JIn W v j) : Calls Tryd.prog 5 #[v, .string s] W fun e w' => ∃ u, e = .returned (.tuple #[u, .bool (get j s).2]) ∧ JIn w' u (get j s).1 ∧ Below W.heap.size W w' := by
  obtain ⟨⟨S, h1⟩, h2⟩ := h
  have hb := get_big s h2
  obtain ⟨k, n, t, ns, l⟩ := j
  refine (rget_any k n t ns l s S v W h1 h2).mono ?_
  rintro e w' ⟨u, rfl, h3, h4⟩
  exact ⟨u, rfl, ⟨⟨_, h3⟩, hb⟩, h4⟩
theorem JIn.five {W : World} {v : Value} {j : J} (h : JIn W v j) : ∃ k n t np a nc lp b lc, v = .agg #[.int .i64 k, .int .i64 n, .string t, .slice np a nc, .slice lp b lc] := by
  obtain ⟨⟨S, h1⟩, _⟩ := h
  obtain ⟨np, nc, lp, lc, rfl, _, _⟩ := h1.five
  exact ⟨_, _, _, _, _, _, _, _, _, rfl⟩
theorem same_self (j : J) : same j j = true := (same_iff j j).2 rfl
abbrev fO (k n : Int) (t : ByteArray) (np : Option Addr) (a nc : Nat) (lp : Option Addr) (b lc : Nat) : Obj := .cells #[.int .i64 k, .int .i64 n, .string t, .slice np a nc, .slice lp b lc] 25
/-- Four values as they lie there, each in a block of its own. -/
def FourP (N g1 g2 g3 g4 : Nat) (a0 a1 a2 a3 a4 b0 b1 b2 b3 b4 c0 c1 c2 c3 c4 d0 d1 d2 d3 d4 : Value) (jx jy jg : J) (w y : World) : Prop :=
  y.cell? ⟨g1, 0, none⟩ = some a0 ∧ y.cell? ⟨g1, 1, none⟩ = some a1 ∧ y.cell? ⟨g1, 2, none⟩ = some a2 ∧ y.cell? ⟨g1, 3, none⟩ = some a3 ∧ y.cell? ⟨g1, 4, none⟩ = some a4 ∧ y.cell? ⟨g2, 0, none⟩ = some b0 ∧ y.cell? ⟨g2, 1, none⟩ = some b1 ∧ y.cell? ⟨g2, 2, none⟩ = some b2 ∧ y.cell? ⟨g2, 3, none⟩ = some b3 ∧ y.cell? ⟨g2, 4, none⟩ = some b4 ∧ y.cell? ⟨g3, 0, none⟩ = some c0 ∧ y.cell? ⟨g3, 1, none⟩ = some c1 ∧ y.cell? ⟨g3, 2, none⟩ = some c2 ∧ y.cell? ⟨g3, 3, none⟩ = some c3 ∧ y.cell? ⟨g3, 4, none⟩ = some c4 ∧ y.cell? ⟨g4, 0, none⟩ = some d0 ∧ y.cell? ⟨g4, 1, none⟩ = some d1 ∧ y.cell? ⟨g4, 2, none⟩ = some d2 ∧ y.cell? ⟨g4, 3, none⟩ = some d3 ∧ y.cell? ⟨g4, 4, none⟩ = some d4 ∧ JIn y (.agg #[a0, a1, a2, a3, a4]) jx ∧ JIn y (.agg #[b0, b1, b2, b3, b4]) jy ∧ JIn y (.agg #[c0, c1, c2, c3, c4]) jg ∧ JIn y (.agg #[d0, d1, d2, d3, d4]) jg ∧ Below w.heap.size w y ∧ N ≤ y.heap.size
section
variable {N g1 g2 g3 g4 : Nat} {a0 a1 a2 a3 a4 b0 b1 b2 b3 b4 c0 c1 c2 c3 c4 d0 d1 d2 d3 d4 : Value} {jx jy jg : J} {w y z : World}
theorem FourP.then (h : FourP N g1 g2 g3 g4 a0 a1 a2 a3 a4 b0 b1 b2 b3 b4 c0 c1 c2 c3 c4 d0 d1 d2 d3 d4 jx jy jg w y) (hg : g1 < N ∧ g2 < N ∧ g3 < N ∧ g4 < N) (hb : Below y.heap.size y z) : FourP N g1 g2 g3 g4 a0 a1 a2 a3 a4 b0 b1 b2 b3 b4 c0 c1 c2 c3 c4 d0 d1 d2 d3 d4 jx jy jg w z := by
  obtain ⟨h0, h1, h2, h3, h4, h5, h6, h7, h8, h9, h10, h11, h12, h13, h14, h15, h16, h17, h18, h19, p1, p2, p3, p4, hw, hN⟩ := h
  have c : ∀ g j v, g < N → y.cell? ⟨g, j, none⟩ = some v → z.cell? ⟨g, j, none⟩ = some v := fun g j v hg e => by
    rw [← e]; exact World.cell?_of_block (w := y) (hb.block g (by omega))
  exact ⟨c _ _ _ hg.1 h0, c _ _ _ hg.1 h1, c _ _ _ hg.1 h2, c _ _ _ hg.1 h3, c _ _ _ hg.1 h4, c _ _ _ hg.2.1 h5, c _ _ _ hg.2.1 h6, c _ _ _ hg.2.1 h7, c _ _ _ hg.2.1 h8, c _ _ _ hg.2.1 h9, c _ _ _ hg.2.2.1 h10, c _ _ _ hg.2.2.1 h11, c _ _ _ hg.2.2.1 h12, c _ _ _ hg.2.2.1 h13, c _ _ _ hg.2.2.1 h14, c _ _ _ hg.2.2.2 h15, c _ _ _ hg.2.2.2 h16, c _ _ _ hg.2.2.2 h17, c _ _ _ hg.2.2.2 h18, c _ _ _ hg.2.2.2 h19, p1.below hb, p2.below hb, p3.below hb, p4.below hb, hw.trans (hb.mono hw.size), Nat.le_trans hN hb.size⟩
theorem FourP.p1 (h : FourP N g1 g2 g3 g4 a0 a1 a2 a3 a4 b0 b1 b2 b3 b4 c0 c1 c2 c3 c4 d0 d1 d2 d3 d4 jx jy jg w y) : JIn y (.agg #[a0, a1, a2, a3, a4]) jx := by obtain ⟨_, _, _, _, _, _, _, _, _, _, _, _, _, _, _, _, _, _, _, _, p1, p2, p3, p4, hw, hN⟩ := h; exact p1
theorem FourP.p2 (h : FourP N g1 g2 g3 g4 a0 a1 a2 a3 a4 b0 b1 b2 b3 b4 c0 c1 c2 c3 c4 d0 d1 d2 d3 d4 jx jy jg w y) : JIn y (.agg #[b0, b1, b2, b3, b4]) jy := by obtain ⟨_, _, _, _, _, _, _, _, _, _, _, _, _, _, _, _, _, _, _, _, p1, p2, p3, p4, hw, hN⟩ := h; exact p2
theorem FourP.p3 (h : FourP N g1 g2 g3 g4 a0 a1 a2 a3 a4 b0 b1 b2 b3 b4 c0 c1 c2 c3 c4 d0 d1 d2 d3 d4 jx jy jg w y) : JIn y (.agg #[c0, c1, c2, c3, c4]) jg := by obtain ⟨_, _, _, _, _, _, _, _, _, _, _, _, _, _, _, _, _, _, _, _, p1, p2, p3, p4, hw, hN⟩ := h; exact p3
theorem FourP.p4 (h : FourP N g1 g2 g3 g4 a0 a1 a2 a3 a4 b0 b1 b2 b3 b4 c0 c1 c2 c3 c4 d0 d1 d2 d3 d4 jx jy jg w y) : JIn y (.agg #[d0, d1, d2, d3, d4]) jg := by obtain ⟨_, _, _, _, _, _, _, _, _, _, _, _, _, _, _, _, _, _, _, _, p1, p2, p3, p4, hw, hN⟩ := h; exact p4
theorem FourP.bw (h : FourP N g1 g2 g3 g4 a0 a1 a2 a3 a4 b0 b1 b2 b3 b4 c0 c1 c2 c3 c4 d0 d1 d2 d3 d4 jx jy jg w y) : Below w.heap.size w y := by obtain ⟨_, _, _, _, _, _, _, _, _, _, _, _, _, _, _, _, _, _, _, _, p1, p2, p3, p4, hw, hN⟩ := h; exact hw
end
theorem gl_below {w y : World} (h : Gl w) (hb : Below w.heap.size w y) : Gl y := h.keep hb.size (fun b hlt => hb.block b (Nat.lt_of_lt_of_le hlt h.size))
set_option maxHeartbeats 4000000 in
set_option maxRecDepth 100000 in
theorem gets_walk (jx jy : J) (s : ByteArray) (vx vy : Value) (w : World) (G : Gl w) (hx : JIn w vx jx) (hy : JIn w vy jy) :
    Calls Tryd.prog 3 #[vx, vy, .string s] w fun e w' => e = .returned (.bool true) ∧ Below w.heap.size w w' := by
  obtain ⟨k1, n1, t1, np1, e1, nc1, lp1, b1, lc1, rfl⟩ := hx.five
  obtain ⟨k2, n2, t2, np2, e2, nc2, lp2, b2, lc2, rfl⟩ := hy.five
  have hb0 : Below w.heap.size w ((w.alloc (fO k1 n1 t1 np1 e1 nc1 lp1 b1 lc1)).alloc (fO k2 n2 t2 np2 e2 nc2 lp2 b2 lc2)) := ((Below.refl _ w).alloc (Nat.le_refl _) _).alloc (by simp) _
  have z1 : ((w.alloc (fO k1 n1 t1 np1 e1 nc1 lp1 b1 lc1)).alloc (fO k2 n2 t2 np2 e2 nc2 lp2 b2 lc2)).heap[w.heap.size]? = some (fO k1 n1 t1 np1 e1 nc1 lp1 b1 lc1) := by rw [heapO _ _ (by simp), heapN]
  have z2 : ((w.alloc (fO k1 n1 t1 np1 e1 nc1 lp1 b1 lc1)).alloc (fO k2 n2 t2 np2 e2 nc2 lp2 b2 lc2)).heap[w.heap.size + 1]? = some (fO k2 n2 t2 np2 e2 nc2 lp2 b2 lc2) := by
    have := heapN (w.alloc (fO k1 n1 t1 np1 e1 nc1 lp1 b1 lc1)) (fO k2 n2 t2 np2 e2 nc2 lp2 b2 lc2)
    rw [show (w.alloc (fO k1 n1 t1 np1 e1 nc1 lp1 b1 lc1)).heap.size = w.heap.size + 1 by simp] at this
    exact this
  have hs0 : ((w.alloc (fO k1 n1 t1 np1 e1 nc1 lp1 b1 lc1)).alloc (fO k2 n2 t2 np2 e2 nc2 lp2 b2 lc2)).heap.size = w.heap.size + 2 := by simp
  have HX := Lib.hid hx
  have HY := Lib.hid hy
  have HB0 := Lib.hid hb0
  have HZ1 := Lib.hid z1
  have HZ2 := Lib.hid z2
  have HS0 := Lib.hid hs0
  have HG := Lib.hid G
  clear hx hy hb0 z1 z2 hs0 G
  go_enter Tryd.func3, Tryd.ntmps3
  go_wp2_with fail
  generalize (w.alloc (fO k1 n1 t1 np1 e1 nc1 lp1 b1 lc1)).alloc (fO k2 n2 t2 np2 e2 nc2 lp2 b2 lc2) = w0 at *
  obtain ⟨a0, a1, a2, a3, a4⟩ := five_at HZ1.out
  go_wp2_with fail
  refine (get_in w0 _ jx s (HX.out.below HB0.out)).mono ?_
  rintro e w1 ⟨u1, rfl, hu1, hb1⟩
  obtain ⟨k3, n3, t3, np3, e3, nc3, lp3, b3, lc3, rfl⟩ := hu1.five
  have hs0 := HS0.out
  have hba : Below w0.heap.size w0 (w1.alloc (fO k3 n3 t3 np3 e3 nc3 lp3 b3 lc3)) := hb1.alloc (hb1.size) _
  have y1 := (hba.block w.heap.size (by omega)).trans HZ1.out
  have HY1 := Lib.hid y1
  have HY2 := Lib.hid ((hba.block (w.heap.size + 1) (by omega)).trans HZ2.out)
  have HY3 := Lib.hid (heapN w1 (fO k3 n3 t3 np3 e3 nc3 lp3 b3 lc3))
  have HBA := Lib.hid (HB0.out.trans (hba.mono HB0.out.size))
  have HU1 := Lib.hid (hu1.below ((Below.refl w1.heap.size w1).alloc (Nat.le_refl _) (fO k3 n3 t3 np3 e3 nc3 lp3 b3 lc3)))
  have HSA : Hid (w0.heap.size ≤ w1.heap.size ∧ (w1.alloc (fO k3 n3 t3 np3 e3 nc3 lp3 b3 lc3)).heap.size = w1.heap.size + 1) := Lib.hid ⟨hb1.size, by simp⟩
  clear a0 a1 a2 a3 a4 hs0 hba hb1 hu1
  obtain ⟨a0, a1, a2, a3, a4⟩ := five_at y1
  clear y1
  obtain ⟨bb, hbb⟩ : ∃ bb, bb = (get jx s).2 := ⟨_, rfl⟩
  rw [← hbb]
  go_wp2_with fail
  refine (rget_in _ _ jx s (HX.out.below HBA.out)).mono ?_
  rintro e w2 ⟨u2, rfl, hu2, hb2⟩
  rw [← hbb]
  clear hbb a0 a1 a2 a3 a4
  obtain ⟨jg, hjg⟩ : ∃ jg, jg = (get jx s).1 := ⟨_, rfl⟩
  rw [← hjg] at hu2 HU1
  clear hjg
  obtain ⟨k4, n4, t4, np4, e4, nc4, lp4, b4, lc4, rfl⟩ := hu2.five
  have hfp : FourP (w2.heap.size + 1) (w.heap.size) (w.heap.size + 1) (w1.heap.size) (w2.heap.size) (.int .i64 k1) (.int .i64 n1) (.string t1) (.slice np1 e1 nc1) (.slice lp1 b1 lc1) (.int .i64 k2) (.int .i64 n2) (.string t2) (.slice np2 e2 nc2) (.slice lp2 b2 lc2) (.int .i64 k3) (.int .i64 n3) (.string t3) (.slice np3 e3 nc3) (.slice lp3 b3 lc3) (.int .i64 k4) (.int .i64 n4) (.string t4) (.slice np4 e4 nc4) (.slice lp4 b4 lc4) jx jy jg w (w2.alloc (fO k4 n4 t4 np4 e4 nc4 lp4 b4 lc4)).drew := by
    have hs0 := HS0.out
    obtain ⟨hs1, hs2⟩ := HSA.out
    have hsz2 := hb2.size
    have hba : Below (w1.alloc (fO k3 n3 t3 np3 e3 nc3 lp3 b3 lc3)).heap.size (w1.alloc (fO k3 n3 t3 np3 e3 nc3 lp3 b3 lc3)) (w2.alloc (fO k4 n4 t4 np4 e4 nc4 lp4 b4 lc4)).drew := (hb2.alloc hb2.size _).drew
    obtain ⟨x0, x1, x2, x3, x4⟩ := five_at ((hba.block w.heap.size (by omega)).trans HY1.out)
    obtain ⟨x5, x6, x7, x8, x9⟩ := five_at ((hba.block (w.heap.size + 1) (by omega)).trans HY2.out)
    obtain ⟨x10, x11, x12, x13, x14⟩ := five_at ((hba.block w1.heap.size (by omega)).trans HY3.out)
    obtain ⟨x15, x16, x17, x18, x19⟩ := five_at (W := (w2.alloc (fO k4 n4 t4 np4 e4 nc4 lp4 b4 lc4)).drew) (heapN w2 (fO k4 n4 t4 np4 e4 nc4 lp4 b4 lc4))
    have hB := HBA.out.trans (hba.mono HBA.out.size)
    exact ⟨x0, x1, x2, x3, x4, x5, x6, x7, x8, x9, x10, x11, x12, x13, x14, x15, x16, x17, x18, x19, HX.out.below hB, HY.out.below hB, HU1.out.below hba, hu2.below ((Below.refl w2.heap.size w2).alloc (Nat.le_refl _) (fO k4 n4 t4 np4 e4 nc4 lp4 b4 lc4)).drew, hB, by show _ ≤ (w2.alloc (fO k4 n4 t4 np4 e4 nc4 lp4 b4 lc4)).heap.size; simp⟩
  have HLT : Hid (w.heap.size < w2.heap.size + 1 ∧ w.heap.size + 1 < w2.heap.size + 1 ∧ w1.heap.size < w2.heap.size + 1 ∧ w2.heap.size < w2.heap.size + 1) := Lib.hid (by
    have hs0 := HS0.out
    obtain ⟨hs1, hs2⟩ := HSA.out
    have hsz2 := hb2.size
    omega)
  clear hb2 hu2
  obtain ⟨g, hg⟩ : ∃ g, g = same := ⟨_, rfl⟩
  have h1 := same_in
  have h2 := rsame_in
  rw [← hg] at h1 h2
  have H1 := Lib.hid h1
  have H2 := Lib.hid h2
  have hgg : g jg jg = true := by rw [hg]; exact same_self _
  have hxx : g jx jx = true := by rw [hg]; exact same_self _
  have HW := Lib.hid (fun (y : World) (h : FourP (w2.heap.size + 1) (w.heap.size) (w.heap.size + 1) (w1.heap.size) (w2.heap.size) (.int .i64 k1) (.int .i64 n1) (.string t1) (.slice np1 e1 nc1) (.slice lp1 b1 lc1) (.int .i64 k2) (.int .i64 n2) (.string t2) (.slice np2 e2 nc2) (.slice lp2 b2 lc2) (.int .i64 k3) (.int .i64 n3) (.string t3) (.slice np3 e3 nc3) (.slice lp3 b3 lc3) (.int .i64 k4) (.int .i64 n4) (.string t4) (.slice np4 e4 nc4) (.slice lp4 b4 lc4) jx jy jg w y) => awake_yes y (gl_below HG.out h.bw))
  clear h1 h2 hg
  go_wp2_with fail
  generalize w2.alloc (fO k4 n4 t4 np4 e4 nc4 lp4 b4 lc4) = w3 at *
  have hS0 : w3.drew.cell? ⟨w.heap.size, 0, none⟩ = some (.int .i64 k1) ∧ w3.drew.cell? ⟨w.heap.size, 1, none⟩ = some (.int .i64 n1) ∧ w3.drew.cell? ⟨w.heap.size, 2, none⟩ = some (.string t1) ∧ w3.drew.cell? ⟨w.heap.size, 3, none⟩ = some (.slice np1 e1 nc1) ∧ w3.drew.cell? ⟨w.heap.size, 4, none⟩ = some (.slice lp1 b1 lc1) ∧ w3.drew.cell? ⟨w.heap.size + 1, 0, none⟩ = some (.int .i64 k2) ∧ w3.drew.cell? ⟨w.heap.size + 1, 1, none⟩ = some (.int .i64 n2) ∧ w3.drew.cell? ⟨w.heap.size + 1, 2, none⟩ = some (.string t2) ∧ w3.drew.cell? ⟨w.heap.size + 1, 3, none⟩ = some (.slice np2 e2 nc2) ∧ w3.drew.cell? ⟨w.heap.size + 1, 4, none⟩ = some (.slice lp2 b2 lc2) ∧ w3.drew.cell? ⟨w1.heap.size, 0, none⟩ = some (.int .i64 k3) ∧ w3.drew.cell? ⟨w1.heap.size, 1, none⟩ = some (.int .i64 n3) ∧ w3.drew.cell? ⟨w1.heap.size, 2, none⟩ = some (.string t3) ∧ w3.drew.cell? ⟨w1.heap.size, 3, none⟩ = some (.slice np3 e3 nc3) ∧ w3.drew.cell? ⟨w1.heap.size, 4, none⟩ = some (.slice lp3 b3 lc3) ∧ w3.drew.cell? ⟨w2.heap.size, 0, none⟩ = some (.int .i64 k4) ∧ w3.drew.cell? ⟨w2.heap.size, 1, none⟩ = some (.int .i64 n4) ∧ w3.drew.cell? ⟨w2.heap.size, 2, none⟩ = some (.string t4) ∧ w3.drew.cell? ⟨w2.heap.size, 3, none⟩ = some (.slice np4 e4 nc4) ∧ w3.drew.cell? ⟨w2.heap.size, 4, none⟩ = some (.slice lp4 b4 lc4) ∧ JIn w3.drew (.agg #[.int .i64 k1, .int .i64 n1, .string t1, .slice np1 e1 nc1, .slice lp1 b1 lc1]) jx ∧ JIn w3.drew (.agg #[.int .i64 k2, .int .i64 n2, .string t2, .slice np2 e2 nc2, .slice lp2 b2 lc2]) jy ∧ JIn w3.drew (.agg #[.int .i64 k3, .int .i64 n3, .string t3, .slice np3 e3 nc3, .slice lp3 b3 lc3]) jg ∧ JIn w3.drew (.agg #[.int .i64 k4, .int .i64 n4, .string t4, .slice np4 e4 nc4, .slice lp4 b4 lc4]) jg ∧ Below w.heap.size w w3.drew ∧ w2.heap.size + 1 ≤ w3.drew.heap.size := hfp
  clear hfp HX HY HU1 HY1 HY2 HY3
  go_region_held3 (fun y => y.cell? ⟨w.heap.size, 0, none⟩ = some (.int .i64 k1) ∧ y.cell? ⟨w.heap.size, 1, none⟩ = some (.int .i64 n1) ∧ y.cell? ⟨w.heap.size, 2, none⟩ = some (.string t1) ∧ y.cell? ⟨w.heap.size, 3, none⟩ = some (.slice np1 e1 nc1) ∧ y.cell? ⟨w.heap.size, 4, none⟩ = some (.slice lp1 b1 lc1) ∧ y.cell? ⟨w.heap.size + 1, 0, none⟩ = some (.int .i64 k2) ∧ y.cell? ⟨w.heap.size + 1, 1, none⟩ = some (.int .i64 n2) ∧ y.cell? ⟨w.heap.size + 1, 2, none⟩ = some (.string t2) ∧ y.cell? ⟨w.heap.size + 1, 3, none⟩ = some (.slice np2 e2 nc2) ∧ y.cell? ⟨w.heap.size + 1, 4, none⟩ = some (.slice lp2 b2 lc2) ∧ y.cell? ⟨w1.heap.size, 0, none⟩ = some (.int .i64 k3) ∧ y.cell? ⟨w1.heap.size, 1, none⟩ = some (.int .i64 n3) ∧ y.cell? ⟨w1.heap.size, 2, none⟩ = some (.string t3) ∧ y.cell? ⟨w1.heap.size, 3, none⟩ = some (.slice np3 e3 nc3) ∧ y.cell? ⟨w1.heap.size, 4, none⟩ = some (.slice lp3 b3 lc3) ∧ y.cell? ⟨w2.heap.size, 0, none⟩ = some (.int .i64 k4) ∧ y.cell? ⟨w2.heap.size, 1, none⟩ = some (.int .i64 n4) ∧ y.cell? ⟨w2.heap.size, 2, none⟩ = some (.string t4) ∧ y.cell? ⟨w2.heap.size, 3, none⟩ = some (.slice np4 e4 nc4) ∧ y.cell? ⟨w2.heap.size, 4, none⟩ = some (.slice lp4 b4 lc4) ∧ JIn y (.agg #[.int .i64 k1, .int .i64 n1, .string t1, .slice np1 e1 nc1, .slice lp1 b1 lc1]) jx ∧ JIn y (.agg #[.int .i64 k2, .int .i64 n2, .string t2, .slice np2 e2 nc2, .slice lp2 b2 lc2]) jy ∧ JIn y (.agg #[.int .i64 k3, .int .i64 n3, .string t3, .slice np3 e3 nc3, .slice lp3 b3 lc3]) jg ∧ JIn y (.agg #[.int .i64 k4, .int .i64 n4, .string t4, .slice np4 e4 nc4, .slice lp4 b4 lc4]) jg ∧ Below w.heap.size w y ∧ w2.heap.size + 1 ≤ y.heap.size)
    (first | assumption | exact FourP.then (by assumption) HLT.out hb | go_keep)
    (first
      | (go_at_call 7; refine (H1.out _ _ _ _ _ (show FourP (w2.heap.size + 1) (w.heap.size) (w.heap.size + 1) (w1.heap.size) (w2.heap.size) (.int .i64 k1) (.int .i64 n1) (.string t1) (.slice np1 e1 nc1) (.slice lp1 b1 lc1) (.int .i64 k2) (.int .i64 n2) (.string t2) (.slice np2 e2 nc2) (.slice lp2 b2 lc2) (.int .i64 k3) (.int .i64 n3) (.string t3) (.slice np3 e3 nc3) (.slice lp3 b3 lc3) (.int .i64 k4) (.int .i64 n4) (.string t4) (.slice np4 e4 nc4) (.slice lp4 b4 lc4) jx jy jg w _ by assumption).p1 (by first | exact (show FourP (w2.heap.size + 1) (w.heap.size) (w.heap.size + 1) (w1.heap.size) (w2.heap.size) (.int .i64 k1) (.int .i64 n1) (.string t1) (.slice np1 e1 nc1) (.slice lp1 b1 lc1) (.int .i64 k2) (.int .i64 n2) (.string t2) (.slice np2 e2 nc2) (.slice lp2 b2 lc2) (.int .i64 k3) (.int .i64 n3) (.string t3) (.slice np3 e3 nc3) (.slice lp3 b3 lc3) (.int .i64 k4) (.int .i64 n4) (.string t4) (.slice np4 e4 nc4) (.slice lp4 b4 lc4) jx jy jg w _ by assumption).p2 | exact (show FourP (w2.heap.size + 1) (w.heap.size) (w.heap.size + 1) (w1.heap.size) (w2.heap.size) (.int .i64 k1) (.int .i64 n1) (.string t1) (.slice np1 e1 nc1) (.slice lp1 b1 lc1) (.int .i64 k2) (.int .i64 n2) (.string t2) (.slice np2 e2 nc2) (.slice lp2 b2 lc2) (.int .i64 k3) (.int .i64 n3) (.string t3) (.slice np3 e3 nc3) (.slice lp3 b3 lc3) (.int .i64 k4) (.int .i64 n4) (.string t4) (.slice np4 e4 nc4) (.slice lp4 b4 lc4) jx jy jg w _ by assumption).p1)).mono ?_; rintro e w5 ⟨rfl, hb⟩)
      | (go_at_call 6; refine (H2.out _ _ _ _ _ (by first | exact (show FourP (w2.heap.size + 1) (w.heap.size) (w.heap.size + 1) (w1.heap.size) (w2.heap.size) (.int .i64 k1) (.int .i64 n1) (.string t1) (.slice np1 e1 nc1) (.slice lp1 b1 lc1) (.int .i64 k2) (.int .i64 n2) (.string t2) (.slice np2 e2 nc2) (.slice lp2 b2 lc2) (.int .i64 k3) (.int .i64 n3) (.string t3) (.slice np3 e3 nc3) (.slice lp3 b3 lc3) (.int .i64 k4) (.int .i64 n4) (.string t4) (.slice np4 e4 nc4) (.slice lp4 b4 lc4) jx jy jg w _ by assumption).p3 | exact (show FourP (w2.heap.size + 1) (w.heap.size) (w.heap.size + 1) (w1.heap.size) (w2.heap.size) (.int .i64 k1) (.int .i64 n1) (.string t1) (.slice np1 e1 nc1) (.slice lp1 b1 lc1) (.int .i64 k2) (.int .i64 n2) (.string t2) (.slice np2 e2 nc2) (.slice lp2 b2 lc2) (.int .i64 k3) (.int .i64 n3) (.string t3) (.slice np3 e3 nc3) (.slice lp3 b3 lc3) (.int .i64 k4) (.int .i64 n4) (.string t4) (.slice np4 e4 nc4) (.slice lp4 b4 lc4) jx jy jg w _ by assumption).p1) (by first | exact (show FourP (w2.heap.size + 1) (w.heap.size) (w.heap.size + 1) (w1.heap.size) (w2.heap.size) (.int .i64 k1) (.int .i64 n1) (.string t1) (.slice np1 e1 nc1) (.slice lp1 b1 lc1) (.int .i64 k2) (.int .i64 n2) (.string t2) (.slice np2 e2 nc2) (.slice lp2 b2 lc2) (.int .i64 k3) (.int .i64 n3) (.string t3) (.slice np3 e3 nc3) (.slice lp3 b3 lc3) (.int .i64 k4) (.int .i64 n4) (.string t4) (.slice np4 e4 nc4) (.slice lp4 b4 lc4) jx jy jg w _ by assumption).p4 | exact (show FourP (w2.heap.size + 1) (w.heap.size) (w.heap.size + 1) (w1.heap.size) (w2.heap.size) (.int .i64 k1) (.int .i64 n1) (.string t1) (.slice np1 e1 nc1) (.slice lp1 b1 lc1) (.int .i64 k2) (.int .i64 n2) (.string t2) (.slice np2 e2 nc2) (.slice lp2 b2 lc2) (.int .i64 k3) (.int .i64 n3) (.string t3) (.slice np3 e3 nc3) (.slice lp3 b3 lc3) (.int .i64 k4) (.int .i64 n4) (.string t4) (.slice np4 e4 nc4) (.slice lp4 b4 lc4) jx jy jg w _ by assumption).p2)).mono ?_; rintro e w5 ⟨rfl, hb⟩)
      | (go_at_call 8; refine (HW.out _ (by assumption)).mono ?_; rintro e w5 ⟨rfl, hgr⟩; have hb := below_gr hgr))
  have HH := Lib.hid (show FourP (w2.heap.size + 1) (w.heap.size) (w.heap.size + 1) (w1.heap.size) (w2.heap.size) (.int .i64 k1) (.int .i64 n1) (.string t1) (.slice np1 e1 nc1) (.slice lp1 b1 lc1) (.int .i64 k2) (.int .i64 n2) (.string t2) (.slice np2 e2 nc2) (.slice lp2 b2 lc2) (.int .i64 k3) (.int .i64 n3) (.string t3) (.slice np3 e3 nc3) (.slice lp3 b3 lc3) (.int .i64 k4) (.int .i64 n4) (.string t4) (.slice np4 e4 nc4) (.slice lp4 b4 lc4) jx jy jg w w5 by assumption).bw
  clear hS0
  go_wp2_with fail
  go_ret
  exact ⟨rfl, HH.out⟩
end Jg
end Go.Proofs.YtdooeedemgmpiaaDoor
