/- How the document's own disk lies in memory; a step of it. Conditions: those that each theorem names. -/
import Derived.Test.YtblhbkhehddccaaRfDone
namespace Go.Proofs.Ytblhbkhehddccaa
set_option linter.unusedVariables false
open Go.RowKit Dk
def ChgR (w : World) (v : Value) (L : List Chg) : Prop :=
  (L = [] ∧ ∃ p c, v = .slice p 0 c) ∨ ∃ g off c, v = .slice (some ⟨g, off, none⟩) L.length c ∧ g < w.heap.size ∧
    ∀ W : World, W.heap[g]? = w.heap[g]? → ∀ j (h : j < L.length), W.cell? ⟨g, off + j * 4, none⟩ = some (.int .i64 (L[j]).kind) ∧ W.cell? ⟨g, off + j * 4 + 1, none⟩ = some (.string (L[j]).a) ∧
      W.cell? ⟨g, off + j * 4 + 2, none⟩ = some (.string (L[j]).b) ∧ W.cell? ⟨g, off + j * 4 + 3, none⟩ = some (.int .i64 (L[j]).f)
def FltR (w : World) (v : Value) (L : List (Int × Int × Int)) : Prop :=
  (L = [] ∧ ∃ p c, v = .slice p 0 c) ∨ ∃ g off c, v = .slice (some ⟨g, off, none⟩) L.length c ∧ g < w.heap.size ∧
    ∀ W : World, W.heap[g]? = w.heap[g]? → ∀ j (h : j < L.length), W.cell? ⟨g, off + j * 3, none⟩ = some (.int .i64 (L[j]).1) ∧ W.cell? ⟨g, off + j * 3 + 1, none⟩ = some (.int .i64 (L[j]).2.1) ∧
      W.cell? ⟨g, off + j * 3 + 2, none⟩ = some (.int .i64 (L[j]).2.2)
theorem ChgR.kept {w w' : World} {v : Value} {L : List Chg} (h : ChgR w v L) (hb : ∀ g, v.ownBlock = some g → w'.heap[g]? = w.heap[g]?) (hs : w.heap.size ≤ w'.heap.size) : ChgR w' v L := by
  rcases h with h | ⟨g, off, c, rfl, hg, hc⟩
  · exact .inl h
  · have e := hb g rfl
    exact .inr ⟨g, off, c, rfl, by omega, fun W hW => hc W (hW.trans e)⟩
theorem FltR.kept {w w' : World} {v : Value} {L : List (Int × Int × Int)} (h : FltR w v L) (hb : ∀ g, v.ownBlock = some g → w'.heap[g]? = w.heap[g]?) (hs : w.heap.size ≤ w'.heap.size) : FltR w' v L := by
  rcases h with h | ⟨g, off, c, rfl, hg, hc⟩
  · exact .inl h
  · have e := hb g rfl
    exact .inr ⟨g, off, c, rfl, by omega, fun W hW => hc W (hW.trans e)⟩
theorem FltR.form {w : World} {v : Value} {L : List (Int × Int × Int)} (h : FltR w v L) : ∃ p c, v = .slice p L.length c := by
  rcases h with ⟨rfl, p, c, rfl⟩ | ⟨g, off, c, rfl, _⟩
  · exact ⟨p, c, rfl⟩
  · exact ⟨_, c, rfl⟩
theorem ChgR.form {w : World} {v : Value} {L : List Chg} (h : ChgR w v L) : ∃ p c, v = .slice p L.length c := by
  rcases h with ⟨rfl, p, c, rfl⟩ | ⟨g, off, c, rfl, _⟩
  · exact ⟨p, c, rfl⟩
  · exact ⟨_, c, rfl⟩
theorem flt_cell {w : World} {p : Option Addr} {n c : Nat} {L : List (Int × Int × Int)} (h : FltR w (.slice p n c) L) {j : Nat} (hj : j < L.length) :
    ∃ g off, p = some ⟨g, off, none⟩ ∧ ∀ W : World, W.heap[g]? = w.heap[g]? → W.cell? ⟨g, off + j * 3, none⟩ = some (.int .i64 (L[j]).1) ∧ W.cell? ⟨g, off + j * 3 + 1, none⟩ = some (.int .i64 (L[j]).2.1) ∧ W.cell? ⟨g, off + j * 3 + 2, none⟩ = some (.int .i64 (L[j]).2.2) := by
  rcases h with ⟨rfl, _⟩ | ⟨g, off, c2, hs, hg, hc⟩
  · cases hj
  · injection hs with e1 e2 e3
    exact ⟨g, off, e1, fun W hW => hc W hW j hj⟩
def fileCells (fs : List FileC) : List Value := fs.flatMap fun f => [.string ⟨f.data.toArray⟩, .int .i64 f.synced]
/-- The six cells of the document's disk, and that its rows lie apart. -/
structure RfTop (w : World) (B : Nat) (X : Nat → Prop) (M : RSt) (fv nv lv ov pv : Value) (cs : List Chg) : Prop where
  box : w.heap[B]? = some (.cells #[fv, nv, lv, ov, pv, .int .i64 M.made] 31 (0, 0))
  files : w.ownsRow 0 83 2 fv M.files.length (fileCells M.files)
  now : RowN w nv M.now
  last : RowN w lv M.last
  opn : ChgR w ov cs
  sets : M.opn = cs.map Chg.sets
  flt : FltR w pv M.faults
  apart : ∀ v, v = nv ∨ v = lv ∨ v = ov ∨ v = pv → ∀ g, v.ownBlock = some g → X g ∧ g ≠ B ∧ fv.ownBlock ≠ some g
  own : ∀ g, fv.ownBlock = some g → X g ∧ g ≠ B
  here : X B
  lt : ∀ b, X b → b < w.heap.size
def RfAt (w : World) (B : Nat) (X : Nat → Prop) (M : RSt) : Prop := ∃ fv nv lv ov pv cs, RfTop w B X M fv nv lv ov pv cs
/-- Blocks of others stay, those of the disk may turn, new ones come. -/
structure Rk (X : Nat → Prop) (w w' : World) : Prop where
  os : w'.os = w.os
  tape : w'.tape = w.tape
  output : w'.output = w.output
  size : w.heap.size ≤ w'.heap.size
  block : ∀ b, b < w.heap.size → ¬ X b → w'.heap[b]? = w.heap[b]?
theorem Rk.refl (X : Nat → Prop) (w : World) : Rk X w w := ⟨rfl, rfl, rfl, Nat.le_refl _, fun _ _ _ => rfl⟩
theorem Rk.trans {X : Nat → Prop} {w w1 w2 : World} (h : Rk X w w1) (k : Rk X w1 w2) : Rk X w w2 :=
  ⟨k.os.trans h.os, k.tape.trans h.tape, k.output.trans h.output, Nat.le_trans h.size k.size, fun b hb hx => (k.block b (Nat.lt_of_lt_of_le hb h.size) hx).trans (h.block b hb hx)⟩
/-- The disk's own blocks grow by new ones alone. -/
theorem Rk.trans' {X Y : Nat → Prop} {w w1 w2 : World} (h : Rk X w w1) (hy : ∀ b, Y b → X b ∨ w.heap.size ≤ b) (k : Rk Y w1 w2) : Rk X w w2 :=
  ⟨k.os.trans h.os, k.tape.trans h.tape, k.output.trans h.output, Nat.le_trans h.size k.size, fun b hb hx => (k.block b (Nat.lt_of_lt_of_le hb h.size) (fun c => (hy b c).elim hx (fun c => by omega))).trans (h.block b hb hx)⟩
theorem Rk.of {X : Nat → Prop} {w w' : World} (h : Below w.heap.size w w') : Rk X w w' := ⟨h.os, h.tape, h.output, h.size, fun b hb _ => h.block b hb⟩
theorem Rk.set {X : Nat → Prop} {w w' : World} (h : Rk X w w') {B k : Nat} {v : Value} (hB : X B ∨ w.heap.size ≤ B) : Rk X w (w'.setCell ⟨B, k, none⟩ v) :=
  ⟨h.os, h.tape, h.output, by simpa [World.setCell] using h.size, fun b hb hx => (heap_setCell_other _ _ _ _ (by rintro rfl; exact hB.elim hx (fun c => by omega))).trans (h.block b hb hx)⟩
section
variable {w w' : World} {B : Nat} {X : Nat → Prop} {M : RSt} {fv nv lv ov pv : Value} {cs : List Chg}
theorem RfTop.kept (h : RfTop w B X M fv nv lv ov pv cs) (hs : w.heap.size ≤ w'.heap.size) (hb : ∀ b, X b → w'.heap[b]? = w.heap[b]?) : RfTop w' B X M fv nv lv ov pv cs where
  box := (hb B h.here).trans h.box
  files := ownsRow_same h.files fun g hg => hb g (h.own g hg).1
  now := h.now.kept (fun g hg => hb g (h.apart nv (.inl rfl) g hg).1) hs
  last := h.last.kept (fun g hg => hb g (h.apart lv (.inr (.inl rfl)) g hg).1) hs
  opn := h.opn.kept (fun g hg => hb g (h.apart ov (.inr (.inr (.inl rfl))) g hg).1) hs
  sets := h.sets
  flt := h.flt.kept (fun g hg => hb g (h.apart pv (.inr (.inr (.inr rfl))) g hg).1) hs
  apart := h.apart
  own := h.own
  here := h.here
  lt := fun b hx => Nat.lt_of_lt_of_le (h.lt b hx) hs
theorem RfTop.below (h : RfTop w B X M fv nv lv ov pv cs) (hb : Below w.heap.size w w') : RfTop w' B X M fv nv lv ov pv cs := h.kept hb.size fun b hx => hb.block b (h.lt b hx)
theorem RfAt.kept (h : RfAt w B X M) (hs : w.heap.size ≤ w'.heap.size) (hb : ∀ b, X b → w'.heap[b]? = w.heap[b]?) : RfAt w' B X M := by
  obtain ⟨fv, nv, lv, ov, pv, cs, h⟩ := h
  exact ⟨fv, nv, lv, ov, pv, cs, h.kept hs hb⟩
theorem RfAt.below (h : RfAt w B X M) (hb : Below w.heap.size w w') : RfAt w' B X M := by
  obtain ⟨fv, nv, lv, ov, pv, cs, h⟩ := h
  exact ⟨fv, nv, lv, ov, pv, cs, h.below hb⟩
/-- A store into one of the six cells. -/
theorem RfTop.set (h : RfTop w B X M fv nv lv ov pv cs) (k : Nat) (v : Value) : (w.setCell ⟨B, k, none⟩ v).heap[B]? = some (.cells ((#[fv, nv, lv, ov, pv, .int .i64 M.made] : Array Value).setIfInBounds k v) 31 (0, 0)) ∧
    (w.setCell ⟨B, k, none⟩ v).heap.size = w.heap.size ∧ (∀ b, b ≠ B → (w.setCell ⟨B, k, none⟩ v).heap[b]? = w.heap[b]?) := by
  refine ⟨?_, by simp [World.setCell], fun b hb => heap_setCell_other _ _ _ _ hb⟩
  have := h.box
  simp [World.setCell, this, Array.getElem?_modify]
theorem RfTop.tick (h : RfTop w B X M fv nv lv ov pv cs) (m : Int) : RfTop (w.setCell ⟨B, 5, none⟩ (.int .i64 m)) B X { M with made := m } fv nv lv ov pv cs := by
  obtain ⟨h1, h2, h3⟩ := h.set 5 (.int .i64 m)
  have hs : w.heap.size ≤ (w.setCell ⟨B, 5, none⟩ (.int .i64 m)).heap.size := by rw [h2]; exact Nat.le_refl _
  exact ⟨h1, ownsRow_same h.files fun g hg => h3 g (h.own g hg).2, h.now.kept (fun g hg => h3 g (h.apart nv (.inl rfl) g hg).2.1) hs, h.last.kept (fun g hg => h3 g (h.apart lv (.inr (.inl rfl)) g hg).2.1) hs,
    h.opn.kept (fun g hg => h3 g (h.apart ov (.inr (.inr (.inl rfl))) g hg).2.1) hs, h.sets, h.flt.kept (fun g hg => h3 g (h.apart pv (.inr (.inr (.inr rfl))) g hg).2.1) hs, h.apart, h.own, h.here, fun b hx => by rw [h2]; exact h.lt b hx⟩
theorem RfTop.cells (h : RfTop w B X M fv nv lv ov pv cs) : (w.cell? ⟨B, 0, none⟩ = some fv ∧ w.cell? ⟨B, 1, none⟩ = some nv ∧ w.cell? ⟨B, 2, none⟩ = some lv) ∧ (w.cell? ⟨B, 3, none⟩ = some ov ∧ w.cell? ⟨B, 4, none⟩ = some pv ∧ w.cell? ⟨B, 5, none⟩ = some (.int .i64 M.made)) := by
  have := h.box
  refine ⟨⟨?_, ?_, ?_⟩, ?_, ?_, ?_⟩ <;> simp [World.cell?, this]
theorem RfTop.free (h : RfTop w B X M fv nv lv ov pv cs) (i : Nat) : w.frozen? ⟨B, i, none⟩ = false := by
  have := h.box
  simp [World.frozen?, this]
end
/-- What a step answers: its error, how many bytes a short one lays. -/
def hitE : Option (Int × Int × Int) → Int
  | none => 0
  | some f => if f.2.1 = 3 then 23 else 22
def hitN : Option (Int × Int × Int) → Int
  | none => -1
  | some f => if f.2.1 = 3 then -1 else if f.2.1 = 2 then f.2.2 else -1
def Dk.RSt.hit (M : RSt) : Option (Int × Int × Int) := M.faults.find? fun p => decide (p.1 = M.made + 1)
theorem find_hit {α} {L : List α} {p : α → Bool} {k : Nat} (h : k < L.length) (hn : (L.take k).find? p = none) (hp : p L[k] = true) : L.find? p = some L[k] := by
  have e : L.find? p = (L.take k ++ L.drop k).find? p := by rw [List.take_append_drop]
  rw [e, List.find?_append, hn, List.drop_eq_getElem_cons h, List.find?_cons, hp]; rfl
theorem find_miss {α} {L : List α} {p : α → Bool} {k : Nat} (h : k < L.length) (hn : (L.take k).find? p = none) (hp : p L[k] = false) : (L.take (k + 1)).find? p = none := by
  rw [List.take_succ_eq_append_getElem h, List.find?_append, hn]
  simp [hp]
theorem cellsThree {w : World} {g : Nat} {a b c : Value} {T : TypeId} {m : Nat × Nat} (h : w.heap[g]? = some (.cells #[a, b, c] T m)) : w.cell? ⟨g, 0, none⟩ = some a ∧ w.cell? ⟨g, 1, none⟩ = some b ∧ w.cell? ⟨g, 2, none⟩ = some c := by
  refine ⟨?_, ?_, ?_⟩ <;> simp [World.cell?, h]
theorem wrapNext {n k : Nat} (h : n ≤ maxLen) (hk : k < n) : wrap64 ((k : Int) + 1) = ((k + 1 : Nat) : Int) := by
  unfold maxLen at h; unfold wrap64; omega
theorem nextLess {n k : Nat} (h : k < n) : n - (intOf (.int .i64 ((k + 1 : Nat) : Int))).toNat < n - (intOf (.int .i64 (k : Int))).toNat := by
  simp only [intOf, Int.toNat_natCast]; omega
theorem belowDrewN {B : Nat} {w w' : World} (h : Below B w w') (n : Nat) : Below B w (w'.drewN n) := ⟨h.os, h.tape, h.output, h.size, h.block⟩
set_option maxHeartbeats 2000000 in
set_option maxRecDepth 100000 in
theorem rstep_any (B : Nat) (X : Nat → Prop) (M : RSt) (w : World) (h : RfAt w B X M) (h0 : 0 ≤ M.made) (h1 : M.made ≤ 4611686018427387904) (hl : M.faults.length ≤ maxLen) :
    Calls Try.prog 32 #[.pointer (some ⟨B, 0, none⟩)] w fun e w' => e = .returned (.tuple #[.int .i64 (hitE M.hit), .int .i64 (hitN M.hit)]) ∧ RfAt w' B X { M with made := M.made + 1 } ∧ Rk X w w' := by
  obtain ⟨fv, nv, lv, ov, pv, cs, ht⟩ := h
  obtain ⟨m1, hm1⟩ : ∃ m1, m1 = M.made + 1 := ⟨_, rfl⟩
  have hwr : wrap64 (M.made + 1) = m1 := by unfold wrap64; omega
  have HT := Lib.hid ht
  have HT1 := Lib.hid (ht.tick m1)
  have HK := Lib.hid ((Rk.refl X w).set (k := 5) (v := .int .i64 m1) (.inl ht.here))
  have HH : Hid (M.hit = M.faults.find? fun p => decide (p.1 = m1)) := Lib.hid (by rw [hm1]; rfl)
  obtain ⟨E, hE⟩ : ∃ E, E = hitE M.hit := ⟨_, rfl⟩
  obtain ⟨N, hN⟩ : ∃ N, N = hitN M.hit := ⟨_, rfl⟩
  rw [← hE, ← hN, ← hm1]
  have HEE := Lib.hid hE
  have HNN := Lib.hid hN
  obtain ⟨p, c, rfl⟩ := ht.flt.form
  obtain ⟨⟨a0, a1, a2⟩, a3, a4, a5⟩ := ht.cells
  have k5 := ht.free 5
  generalize M.made = m0 at *
  clear ht hm1 h0 h1 hE hN a0 a1 a2 a3 a4
  have HL := Lib.hid hl
  clear hl
  go_enter Try.func32, Try.ntmps32
  go_wp2_with fail
  clear a5 k5 hwr
  generalize w.setCell ⟨B, 5, none⟩ (.int .i64 m1) = W1 at *
  obtain ⟨n, hn⟩ : ∃ n, n = M.faults.length := ⟨_, rfl⟩
  have HNL := Lib.hid hn
  have hnl : n ≤ maxLen := by rw [hn]; exact HL.out
  have HNM := Lib.hid hnl
  rw [← hn] at HT1
  clear hn hnl HT
  have HFIN := Lib.hid (fun W (hb : Below W1.heap.size W1 W) => And.intro (show RfAt W B X { M with made := m1 } from ⟨_, _, _, _, _, _, HT1.out.below hb⟩) (HK.out.trans (Rk.of hb)))
  go_loopw [4] (fun i wr => ∃ k : Nat, k ≤ n ∧ i = .int .i64 k ∧ Below W1.heap.size W1 wr ∧ Hid ((M.faults.take k).find? (fun p => decide (p.1 = m1)) = none)) (fun i _ => n - (intOf i).toNat)
  case atStart => exact ⟨0, Nat.zero_le _, rfl, Below.refl _ _, Lib.hid rfl⟩
  case round =>
    obtain ⟨k, hk, rfl, hb, HA⟩ := hrel
    have HB := Lib.hid hb
    obtain ⟨wq, rfl⟩ : ∃ wq : World, wq = wr := ⟨_, rfl⟩
    have HQ := Lib.hid (HT1.out.below hb)
    obtain ⟨-, -, a4, a5⟩ := HQ.out.cells
    clear hb
    by_cases hlt : k < n
    · have hlk : k < M.faults.length := by rw [← HNL.out]; exact hlt
      obtain ⟨g, off, rfl, hc⟩ := flt_cell HQ.out.flt hlk
      obtain ⟨c0, c1, c2⟩ := hc wq rfl
      have VX := Lib.hid (find_hit hlk HA.out)
      have VY := Lib.hid (find_miss hlk HA.out)
      generalize M.faults[k] = y at *
      obtain ⟨ys, yk, yn⟩ := y
      simp only at c0 c1 c2
      obtain ⟨e0, e1, e2⟩ := cellsThree (heapLast wq (.cells #[.int .i64 ys, .int .i64 yk, .int .i64 yn] 63))
      have HQ2 := Lib.hid (HQ.out.below (belowNew wq (.cells #[.int .i64 ys, .int .i64 yk, .int .i64 yn] 63)))
      obtain ⟨-, -, b4, b5⟩ := HQ2.out.cells
      have HB2 := Lib.hid (HB.out.trans ((belowNew wq (.cells #[.int .i64 ys, .int .i64 yk, .int .i64 yn] 63)).mono HB.out.size))
      simp only at a5 b5
      clear hc hlk
      by_cases hs : ys = m1
      · have hs1 : (ys != m1) = false := by simp [hs]
        have HF : Hid (M.hit = some (ys, yk, yn)) := Lib.hid (HH.out.trans (VX.out (by simp [hs])))
        clear hs
        by_cases h3 : yk = 3
        · have hk3 : (yk == 3) = true := by simp [h3]
          have HE1 : Hid (E = 23 ∧ N = -1) := Lib.hid ⟨by rw [HEE.out, HF.out]; simp [hitE, h3], by rw [HNN.out, HF.out]; simp [hitN, h3]⟩
          clear h3
          go_wp2_with fail
          go_quiet (fail)
          go_wp2_with fail
          go_ret2
          rw [HE1.out.1, HE1.out.2]
          exact ⟨rfl, HFIN.out _ (belowDrewN HB2.out _)⟩
        · have hk3 : (yk == 3) = false := by simp [h3]
          by_cases h2 : yk = 2
          · have hk2 : (yk == 2) = true := by simp [h2]
            have HE1 : Hid (E = 22 ∧ N = yn) := Lib.hid ⟨by rw [HEE.out, HF.out]; simp [hitE, h3], by rw [HNN.out, HF.out]; simp [hitN, h2]⟩
            clear h3 h2
            go_wp2_with fail
            go_quiet (fail)
            go_wp2_with fail
            go_quiet (fail)
            go_wp2_with fail
            go_ret2
            rw [HE1.out.1, HE1.out.2]
            exact ⟨rfl, HFIN.out _ (belowDrewN (belowDrewN HB2.out _) _)⟩
          · have hk2 : (yk == 2) = false := by simp [h2]
            have HE1 : Hid (E = 22 ∧ N = -1) := Lib.hid ⟨by rw [HEE.out, HF.out]; simp [hitE, h3], by rw [HNN.out, HF.out]; simp [hitN, h2]⟩
            clear h3 h2
            go_wp2_with fail
            go_quiet (fail)
            go_wp2_with fail
            go_ret2
            rw [HE1.out.1, HE1.out.2]
            exact ⟨rfl, HFIN.out _ (belowDrewN HB2.out _)⟩
      · have hs1 : (ys != m1) = true := by simp [hs]
        have HX := Lib.hid (VY.out (by simp [hs]))
        clear hs
        go_wp2_with fail
        go_quiet (fail)
        go_wp2_with fail
        go_roundw
        case rel => exact ⟨k + 1, by omega, congrArg _ (wrapNext HNM.out hlt), belowDrewN HB2.out _, HX⟩
        case measure => rw [wrapNext HNM.out hlt]; exact nextLess hlt
    · obtain rfl : k = n := by omega
      have HE1 : Hid (E = 0 ∧ N = -1) := Lib.hid (by
        have h := HA.out
        rw [HNL.out, List.take_length] at h
        exact ⟨by rw [HEE.out, HH.out, h]; rfl, by rw [HNN.out, HH.out, h]; rfl⟩)
      go_wp2_with fail
      go_ret2
      rw [HE1.out.1, HE1.out.2]
      exact ⟨rfl, HFIN.out _ HB.out⟩
end Go.Proofs.Ytblhbkhehddccaa
