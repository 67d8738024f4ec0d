/- The heap of hits: how it lies in memory; rise, sink. Conditions: those that each theorem names. -/
import Derived.Test.YtbgminlajcmomabTkB
import Derived.Test.YtbgminlajcmomabGr
import Derived.Shelf.SlSortCmp.QuietGrown
import Derived.Laws.OwnMore
import Derived.BigRegion
namespace Go.Proofs.Ytbgminlajcmomab
set_option linter.unusedVariables false
open Go Go.RowKit Go.Shelf Go.Sort Tk
theorem Gn.gr {S : Nat → Prop} {w w' : World} (h : Gn w w') : Gr S w w' := Gr.of_below h.below (fun b hb hlt => absurd hb (Nat.not_le.2 hlt))
/-! ### The order as a closure -/
theorem new1_enters : ∀ args w, (callFunc 28 args).run Try.prog w = .ok (.enter 28 args) w := enters_of Try.func28 (by kernel_rfl) rfl
set_option maxHeartbeats 1000000 in
set_option maxRecDepth 100000 in
theorem new1_any (m : Int) (X : Nat) (a b : Ht) (w : World) (hX : X < w.heap.size) (hm : w.cell? ⟨X, 0, none⟩ = some (.int .i64 m)) :
    Calls Try.prog 28 #[hv a, hv b, .pointer (some ⟨X, 0, none⟩)] w fun e w' => e = .returned (.bool (ltH m b a)) ∧ Gn w w' := by
  obtain ⟨⟨a0, a1⟩, ⟨b0, b1⟩, hbe⟩ := two_boxes w a b
  have hm1 := hbe.below.cell (p := ⟨X, 0, none⟩) hX
  rw [hm] at hm1
  obtain ⟨ia, sa⟩ := a
  obtain ⟨ib, sb⟩ := b
  simp only at a0 a1 b0 b1
  have HC := Lib.hid (fun W => less_any m (ib, sb) (ia, sa) W)
  have HB := Lib.hid hbe
  generalize ltH m (ib, sb) (ia, sa) = r at *
  clear hbe hm
  go_enter Try.func28, Try.ntmps28
  go_wp2_with fail
  refine (HC.out _).mono ?_
  rintro e w2 ⟨rfl, hg⟩
  have HG := Lib.hid (HB.out.trans hg)
  clear hg a0 a1 b0 b1 hm1
  go_wp2_with fail
  go_ret
  exact ⟨rfl, HG.out⟩
/-! ### The heap in memory -/
def fnV (X : Nat) : Value := .func (.func 28) #[] #[.pointer (some ⟨X, 0, none⟩)]
structure HpM (w : World) (B X g cap : Nat) (m : Int) (R : List Ht) : Prop where
  fn : w.cell? ⟨B, 2, none⟩ = some (.func (.func 28) #[] #[.pointer (some ⟨X, 0, none⟩)])
  rows : w.cell? ⟨B, 3, none⟩ = some (.slice (some ⟨g, 0, none⟩) R.length cap)
  met : w.cell? ⟨X, 0, none⟩ = some (.int .i64 m)
  own : OwnH w 0 (.slice (some ⟨g, 0, none⟩) R.length cap) R
  neB : g ≠ B
  neX : g ≠ X
  ltB : B < w.heap.size
  ltX : X < w.heap.size
section
variable {w w' : World} {B X g cap : Nat} {m : Int} {R : List Ht}
theorem HpM.ltg (h : HpM w B X g cap m R) : g < w.heap.size := (h.own.lt g rfl).2
theorem HpM.gn (h : HpM w B X g cap m R) (k : Gn w w') : HpM w' B X g cap m R where
  fn := (k.below.cell (p := ⟨B, 2, none⟩) h.ltB).trans h.fn
  rows := (k.below.cell (p := ⟨B, 3, none⟩) h.ltB).trans h.rows
  met := (k.below.cell (p := ⟨X, 0, none⟩) h.ltX).trans h.met
  own := by
    refine ⟨h.own.1, ?_⟩
    rcases h.own.2 with x | ⟨g', cap', cur, e, hb, hg, r⟩
    · exact .inl x
    · refine .inr ⟨g', cap', cur, e, hb, ?_, r⟩
      have hlt : g' < w.heap.size := by
        rcases Nat.lt_or_ge g' w.heap.size with c | c
        · exact c
        · rw [Array.getElem?_eq_none c] at hg; cases hg
      rw [k.block hlt]; exact hg
  neB := h.neB
  neX := h.neX
  ltB := Nat.lt_of_lt_of_le h.ltB k.size
  ltX := Nat.lt_of_lt_of_le h.ltX k.size
theorem HpM.at (h : HpM w B X g cap m R) {i : Nat} (hi : i < R.length) : w.cell? ⟨g, i * 2, none⟩ = some (.int .i64 (R[i]!).1) ∧ w.cell? ⟨g, i * 2 + 1, none⟩ = some (.int .i64 (R[i]!).2) := by
  obtain ⟨c0, c1⟩ := hCells_at R i hi
  rw [get!_of hi]
  exact ⟨(h.own.cellAt _ (by omega)).trans c0, (h.own.cellAt _ (by omega)).trans c1⟩
theorem hCells_set : ∀ (L : List Ht) (i : Nat) (x : Ht), ((hCells L).set (i * 2) (.int .i64 x.1)).set (i * 2 + 1) (.int .i64 x.2) = hCells (L.set i x)
  | [], i, x => by simp [hCells]
  | y :: r, 0, x => rfl
  | y :: r, i + 1, x => by
    have := hCells_set r i x
    have e : hCells (y :: r) = .int .i64 y.1 :: .int .i64 y.2 :: hCells r := rfl
    have e2 : hCells ((y :: r).set (i + 1) x) = .int .i64 y.1 :: .int .i64 y.2 :: hCells (r.set i x) := rfl
    rw [e, e2, ← this, show (i + 1) * 2 = i * 2 + 1 + 1 by omega]
    rfl
/-- One hit is written. -/
theorem own_set {v : Value} (h : OwnH w 0 (.slice (some ⟨g, 0, none⟩) R.length cap) R) (i : Nat) (x : Ht) :
    OwnH ((w.setCell ⟨g, i * 2, none⟩ (.int .i64 x.1)).setCell ⟨g, i * 2 + 1, none⟩ (.int .i64 x.2)) 0 (.slice (some ⟨g, 0, none⟩) R.length cap) (R.set i x) := by
  obtain ⟨h1, -⟩ := h.stored (i * 2) (.int .i64 x.1)
  obtain ⟨h2, -⟩ := h1.stored (i * 2 + 1) (.int .i64 x.2)
  rw [hCells_set] at h2
  show World.ownsRow _ _ _ _ _ _ _
  rw [List.length_set]
  exact h2
theorem HpM.set (h : HpM w B X g cap m R) (i : Nat) (x : Ht) :
    HpM ((w.setCell ⟨g, i * 2, none⟩ (.int .i64 x.1)).setCell ⟨g, i * 2 + 1, none⟩ (.int .i64 x.2)) B X g cap m (R.set i x) := by
  have hB : ∀ (W : World) j u o, (W.setCell ⟨g, j, none⟩ u).cell? ⟨B, o, none⟩ = W.cell? ⟨B, o, none⟩ := fun W j u o => World.cell?_setCell_far _ _ _ _ h.neB
  have hX : ∀ (W : World) j u o, (W.setCell ⟨g, j, none⟩ u).cell? ⟨X, o, none⟩ = W.cell? ⟨X, o, none⟩ := fun W j u o => World.cell?_setCell_far _ _ _ _ h.neX
  have hs := own_set (v := .bool true) h.own i x
  exact ⟨by rw [hB, hB]; exact h.fn, by rw [hB, hB, List.length_set]; exact h.rows, by rw [hX, hX]; exact h.met, by rw [List.length_set]; exact hs, h.neB, h.neX, by simpa using h.ltB, by simpa using h.ltX⟩
/-- Two hits change places. -/
theorem HpM.swap (h : HpM w B X g cap m R) (i j : Nat) :
    HpM ((((w.setCell ⟨g, i * 2, none⟩ (.int .i64 (R[j]!).1)).setCell ⟨g, i * 2 + 1, none⟩ (.int .i64 (R[j]!).2)).setCell ⟨g, j * 2, none⟩ (.int .i64 (R[i]!).1)).setCell ⟨g, j * 2 + 1, none⟩ (.int .i64 (R[i]!).2)) B X g cap m (sw R i j) :=
  (h.set i R[j]!).set j R[i]!
theorem gr_set (h : Gr (one' g) w w') (j : Nat) (u : Value) : Gr (one' g) w (w'.setCell ⟨g, j, none⟩ u) := h.setCell (a := ⟨g, j, none⟩) (fun _ => rfl) u
end
/-- What a heap's turn has left. -/
def HeapP (w : World) (B X g cap : Nat) (m : Int) (R : List Ht) (w' : World) : Prop :=
  ∃ R', HpM w' B X g cap m R' ∧ Heap m R' ∧ R'.Perm R ∧ Gr (one' g) w w'
set_option maxHeartbeats 4000000 in
set_option maxRecDepth 100000 in
theorem rise_any (m : Int) (B X g cap i : Nat) (R : List Ht) (w : World) (H : HpM w B X g cap m R) (hi : i < R.length) (hx : HpX m R.length (fun t => R[t]!) i) (hsz : R.length ≤ 1125899906842624) :
    Calls Try.prog 35 #[.pointer (some ⟨B, 2, none⟩), .int .i64 i] w fun e w' => e = .returned (.tuple #[]) ∧ HeapP w B X g cap m R w' := by
  have hen := new1_enters
  have HM0 := Lib.hid H
  have HX0 := Lib.hid hx
  have HS := Lib.hid hsz
  clear H hx hsz
  go_enter Try.func35, Try.ntmps35
  go_wp2
  go_loopw [1] (fun s wr => ∃ (k : Nat) (R1 : List Ht), s = .int .i64 k ∧ k < R1.length ∧ Hid (R1.length = R.length) ∧ Hid (HpX m R1.length (fun t => R1[t]!) k) ∧ Hid (R1.Perm R) ∧ Hid (HpM wr B X g cap m R1) ∧ Hid (Gr (one' g) w wr)) (fun s _ => (intOf s).toNat)
  case atStart => exact ⟨i, R, rfl, hi, rfl, HX0, List.Perm.refl _, HM0, Gr.refl _ _⟩
  case round =>
    obtain ⟨k, R1, rfl, hk, HL, HX, HP, HM, HG⟩ := hrel
    rcases Nat.eq_zero_or_pos k with h0 | h0
    · subst h0
      go_wp2
      go_end0
      exact ⟨rfl, R1, HM.out, HX.out.stop (.inl rfl), HP.out, HG.out⟩
    · have hpk : par k < k := by unfold par; omega
      have hpl : par k < R1.length := by omega
      have e1 : wrap64 ((wrap64 ((k : Int) - 1)).tdiv 2) = ((par k : Nat) : Int) := by
        have hs := HS.out
        have hl : R1.length = R.length := HL
        rw [show wrap64 ((k : Int) - 1) = ((k - 1 : Nat) : Int) by unfold wrap64; omega]
        rw [Int.tdiv_eq_ediv_of_nonneg (by omega)]
        unfold par wrap64
        omega
      have hen' := hen
      have mixed : Try.prog.follows .mixedOrders = true := by kernel_rfl
      have hq := fun n os => HM.out.gn (w' := grow (wr.drewN n) os) ⟨n, os, rfl⟩
      have f0 := fun n os => (hq n os).fn
      have f1 := fun n os => (hq n os).rows
      have a0 := fun n os => ((hq n os).at hk).1
      have a1 := fun n os => ((hq n os).at hk).2
      have b0 := fun n os => ((hq n os).at hpl).1
      have b1 := fun n os => ((hq n os).at hpl).2
      have HC := Lib.hid (fun (n : Nat) (os : Array Obj) => new1_any m X R1[k]! R1[par k]! _ (hq n os).ltX (hq n os).met)
      have hk' : (k : Int) < (R1.length : Int) := by omega
      have hp' : ((par k : Nat) : Int) < (R1.length : Int) := by omega
      clear hq
      go_wp2_with fail
      rw [e1]
      obtain ⟨x, hxe⟩ : ∃ x, x = R1[k]! := ⟨_, rfl⟩
      obtain ⟨y, hye⟩ : ∃ y, y = R1[par k]! := ⟨_, rfl⟩
      rw [← hxe] at a0 a1 HC
      rw [← hye] at b0 b1 HC
      have HXE := Lib.hid hxe
      have HYE := Lib.hid hye
      clear hxe hye
      cases hb : ltH m y x with
      | false =>
        rw [hb] at HC
        have HB := Lib.hid hb
        clear hb
        go_quiet_grown (first | (go_at_fn 28; refine Calls.grown_of (HC.out _ _)))
        dsimp only
        have HM2 := Lib.hid (HM.out.gn (w' := grow (wr.drewN nq) osq) ⟨nq, osq, rfl⟩)
        have HG2 := Lib.hid (HG.out.trans (Gn.gr (w' := grow (wr.drewN nq) osq) ⟨nq, osq, rfl⟩))
        clear f0 f1 a0 a1 b0 b1
        generalize grow (wr.drewN nq) osq = w2 at *
        go_wp2
        (try simp only [Exit.inBlock, Exit.then]); refine bodyPost_ret (results_none rfl _ _ _) rfl ?_
        exact ⟨rfl, R1, HM2.out, HX.out.stop (.inr (by rw [← HXE.out, ← HYE.out]; exact HB.out)), HP.out, HG2.out⟩
      | true =>
        rw [hb] at HC
        have HB := Lib.hid hb
        clear hb
        go_quiet_grown (first | (go_at_fn 28; refine Calls.grown_of (HC.out _ _)))
        dsimp only
        have HM2 := Lib.hid (HM.out.gn (w' := grow (wr.drewN nq) osq) ⟨nq, osq, rfl⟩)
        have HG2 := Lib.hid (HG.out.trans (Gn.gr (w' := grow (wr.drewN nq) osq) ⟨nq, osq, rfl⟩))
        clear f0 f1 a0 a1 b0 b1 HC
        generalize grow (wr.drewN nq) osq = w2 at *
        have HM3 := Lib.hid (HM2.out.gn (w' := w2.drew) (Gn.refl _).drew)
        have HG3 := Lib.hid HG2.out.drew
        have f1 := HM2.out.rows
        obtain ⟨a0, a1⟩ := HM2.out.at hk
        obtain ⟨b0, b1⟩ := HM2.out.at hpl
        have z0 := HM2.out.own.frozenAt (k * 2)
        have z1 := HM2.out.own.frozenAt (k * 2 + 1)
        have z2 := HM2.out.own.frozenAt (par k * 2)
        have z3 := HM2.out.own.frozenAt (par k * 2 + 1)
        have hne : g ≠ B := HM3.out.neB
        have hp2 : ¬ k * 2 = par k * 2 := by omega
        have hp3 : ¬ k * 2 + 1 = par k * 2 := by omega
        have hp4 : ¬ k * 2 = par k * 2 + 1 := by omega
        have hp5 : ¬ k * 2 + 1 = par k * 2 + 1 := by omega
        have hne' : B ≠ g := fun e => hne e.symm
        rw [← HXE.out] at a0 a1
        rw [← HYE.out] at b0 b1
        go_wp2_with fail
        go_region
        have HM4 : Hid (HpM (((((w2.setCell ⟨g, k * 2, none⟩ (.int .i64 y.1)).setCell ⟨g, k * 2 + 1, none⟩ (.int .i64 y.2)).setCell ⟨g, par k * 2, none⟩ (.int .i64 x.1)).setCell ⟨g, par k * 2 + 1, none⟩ (.int .i64 x.2)).drew) B X g cap m (sw R1 k (par k))) := Lib.hid (by
          have h := HM2.out.swap k (par k)
          rw [← HXE.out, ← HYE.out] at h
          exact h.gn (Gn.refl _).drew)
        have HG4 : Hid (Gr (one' g) w (((((w2.setCell ⟨g, k * 2, none⟩ (.int .i64 y.1)).setCell ⟨g, k * 2 + 1, none⟩ (.int .i64 y.2)).setCell ⟨g, par k * 2, none⟩ (.int .i64 x.1)).setCell ⟨g, par k * 2 + 1, none⟩ (.int .i64 x.2)).drew)) := Lib.hid ((gr_set (gr_set (gr_set (gr_set HG2.out _ _) _ _) _ _) _ _).drew)
        clear f1 a0 a1 b0 b1 z0 z1 z2 z3
        generalize ((((w2.setCell ⟨g, k * 2, none⟩ (.int .i64 y.1)).setCell ⟨g, k * 2 + 1, none⟩ (.int .i64 y.2)).setCell ⟨g, par k * 2, none⟩ (.int .i64 x.1)).setCell ⟨g, par k * 2 + 1, none⟩ (.int .i64 x.2)).drew = w3 at *
        go_wp2
        go_roundw
        case rel =>
          refine ⟨par k, sw R1 k (par k), rfl, by rw [sw_length]; exact hpl, ?_, ?_, (sw_perm R1 hk hpl).trans HP.out, HM4.out, HG4.out⟩
          · show (sw R1 k (par k)).length = R.length
            rw [sw_length]; exact HL
          · show HpX m (sw R1 k (par k)).length (fun t => (sw R1 k (par k))[t]!) (par k)
            rw [sw_length]
            exact HX.out.rise h0 hk (by show ltH m R1[par k]! R1[k]! = true; rw [← HXE.out, ← HYE.out]; exact HB.out) (fun t => sw_get R1 hk hpl t)
        case measure => simp only [intOf, Int.toNat_natCast]; exact hpk
end Go.Proofs.Ytbgminlajcmomab
