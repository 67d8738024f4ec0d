/- The document's own disk: a change of names is made. Conditions: those that each theorem names. -/
import Derived.Test.YtblhbkhehddccaaRfMem
import Derived.Deep.RegionWith
import Derived.Deep.DeepCutAuto
namespace Go.Proofs.Ytblhbkhehddccaa
set_option linter.unusedVariables false
open Go.RowKit Dk
def chgCells (L : List Chg) : List Value := L.flatMap fun c => [.int .i64 c.kind, .string c.a, .string c.b, .int .i64 c.f]
theorem infoChg : (Try.prog.info? 86).map (fun i => (i.zero, i.size, i.bytes)) = some (some (.agg #[.int .i64 0, .string ⟨#[]⟩, .string ⟨#[]⟩, .int .i64 0]), 4, 48) := by kernel_rfl
/-- A row of changes behind an own one: the source may be nil. -/
theorem append_chgs {w : World} {base : Nat} {v : Value} {A B : List Chg} {q : Option Addr} {c : Nat} (hown : w.ownsRow base 86 4 v A.length (chgCells A))
    (hs : (q = none ∧ B = []) ∨ ∃ ad, q = some ad ∧ ∀ j u, (chgCells B)[j]? = some u → w.cell? (ad.add j) = some u) (hb : A.length + B.length ≤ 2199023255552) (hbase : base ≤ w.heap.size) :
    ∃ v' w', (∀ ty, (Builtin.append_ #[28, 28] ty #[v, .slice q B.length c]).run Try.prog w = .ok v' w') ∧ w'.ownsRow base 86 4 v' (A ++ B).length (chgCells (A ++ B)) ∧ w.grownBy w' v.ownBlock := by
  obtain ⟨i0, hi, hz0, hz1, hz2⟩ := info_parts infoChg
  have hlen : ∀ L : List Chg, (chgCells L).length = L.length * 4 := fun L => by
    induction L with
    | nil => rfl
    | cons p r ih => show (chgCells r).length + 1 + 1 + 1 + 1 = _; rw [ih, List.length_cons]; omega
  rcases hs with ⟨rfl, rfl⟩ | ⟨ad, rfl, hc⟩
  · refine ⟨v, w, fun ty => ?_, by simpa using hown, ⟨rfl, rfl, rfl, Nat.le_refl _, fun _ _ _ => rfl⟩⟩
    have ht := Try.underlying28
    rcases hown.2 with ⟨rfl, h0⟩ | ⟨g, cap, cur, rfl, _, hg, h1, _⟩
    · simp [Builtin.append_, run_underlying ht, sizeOf, typeInfo, hi, Builtin.lenOf, Builtin.firstCells]
    · simp [Builtin.append_, run_underlying ht, sizeOf, typeInfo, hi, Builtin.lenOf, Builtin.firstCells, storeCells, h1]
  · obtain ⟨v', w', hr, h2, h3, _⟩ := run_append_own_at (P := Try.prog) w base 28 28 86 i0 _ 4 48 Try.underlying28 hi hz0 hz1 hz2 rfl (by decide) v A.length (chgCells A) hown ad B.length c (chgCells B) (hlen B) hc
      (fun u hu => by
        obtain ⟨p, _, hp⟩ := List.mem_flatMap.1 hu
        simp at hp
        rcases hp with rfl | rfl | rfl | rfl <;> rfl) (by unfold maxLen; omega) (by omega) hbase
    have e : chgCells (A ++ B) = chgCells A ++ chgCells B := by simp [chgCells]
    exact ⟨v', w', fun _ => hr, by rw [e, List.length_append]; exact h2, h3⟩
theorem chgCells_get : ∀ (L : List Chg) (j : Nat) (h : j < L.length), (chgCells L)[j * 4]? = some (.int .i64 (L[j]).kind) ∧ (chgCells L)[j * 4 + 1]? = some (.string (L[j]).a) ∧ (chgCells L)[j * 4 + 2]? = some (.string (L[j]).b) ∧ (chgCells L)[j * 4 + 3]? = some (.int .i64 (L[j]).f)
  | x :: r, 0, h => ⟨rfl, rfl, rfl, rfl⟩
  | x :: r, j + 1, h => by
    have ih := chgCells_get r j (by simpa using h)
    have e : chgCells (x :: r) = [.int .i64 x.kind, .string x.a, .string x.b, .int .i64 x.f] ++ chgCells r := rfl
    rw [e]
    have q : ∀ d, ([.int .i64 x.kind, .string x.a, .string x.b, .int .i64 x.f] ++ chgCells r)[(j + 1) * 4 + d]? = (chgCells r)[j * 4 + d]? := fun d => by
      rw [List.getElem?_append_right (by simp; omega)]
      congr 1
      simp; omega
    have q0 := q 0
    rw [Nat.add_zero, Nat.add_zero] at q0
    rw [q0, q 1, q 2, q 3]
    simpa using ih
theorem row_chgs {w : World} {base : Nat} {v : Value} {L : List Chg} (h : w.ownsRow base 86 4 v L.length (chgCells L)) : ChgR w v L := by
  rcases h.2 with ⟨rfl, h0⟩ | ⟨g, cap, cur, rfl, hb, hg, h1, h2, h3, h4⟩
  · exact .inl ⟨List.length_eq_zero_iff.mp h0, none, 0, rfl⟩
  · refine .inr ⟨g, 0, cap, rfl, (Array.getElem?_eq_some_iff.1 hg).1, fun W hW j hj => ?_⟩
    have hc : ∀ i u, i < L.length * 4 → (chgCells L)[i]? = some u → W.cell? ⟨g, i, none⟩ = some u := fun i u hi hu => by
      have hw := hW.trans hg
      have e : cur[i]? = some u := by rw [← hu, ← h4, List.getElem?_take, if_pos hi, Array.getElem?_toList]
      simp [World.cell?, hw, e]
    obtain ⟨e0, e1, e2, e3⟩ := chgCells_get L j hj
    rw [Nat.zero_add]
    exact ⟨hc _ _ (by omega) e0, hc _ _ (by omega) e1, hc _ _ (by omega) e2, hc _ _ (by omega) e3⟩
theorem now_snoc (M : RSt) (l : List (Nm × Option Nat)) : RSt.now { M with opn := M.opn ++ [l] } = l.foldl nmSet M.now := by
  show ((M.opn ++ [l]).take (M.opn ++ [l]).length).foldl _ M.last = l.foldl nmSet ((M.opn.take M.opn.length).foldl _ M.last)
  rw [List.take_length, List.take_length, List.foldl_append]; rfl
section
variable {w w2 W5 : World} {B : Nat} {X : Nat → Prop} {M : RSt} {fv nv lv ov pv u v2 : Value} {cs : List Chg} {c : Chg}
/-- Both stores of a change, in memory. -/
theorem turn_top (h : RfTop w B X M fv nv lv ov pv cs) (h2 : Below w.heap.size w w2) (hu : w2.ownsRow w.heap.size 96 2 u (c.sets.foldl nmSet M.now).length (nameCells (c.sets.foldl nmSet M.now)))
    (h5 : Below w2.heap.size (w2.setCell ⟨B, 1, none⟩ u) W5) (hv : W5.ownsRow w2.heap.size 86 4 v2 (cs ++ [c]).length (chgCells (cs ++ [c]))) :
    RfTop (W5.setCell ⟨B, 3, none⟩ v2) B (fun b => X b ∨ (w.heap.size ≤ b ∧ b < W5.heap.size)) { M with opn := M.opn ++ [c.sets] } fv u lv v2 pv (cs ++ [c]) ∧ Rk X w (W5.setCell ⟨B, 3, none⟩ v2) := by
  have hB := h.lt B h.here
  have hs2 := h2.size
  have hsz : ∀ (W : World) a v, (W.setCell a v).heap.size = W.heap.size := fun W a v => by simp [World.setCell]
  have hs5 : w2.heap.size ≤ W5.heap.size := by have := h5.size; rwa [hsz] at this
  have old : ∀ b, b < w2.heap.size → b ≠ B → (W5.setCell ⟨B, 3, none⟩ v2).heap[b]? = w2.heap[b]? := fun b hb hne => by
    rw [heap_setCell_other _ _ _ _ hne, h5.block b hb, heap_setCell_other _ _ _ _ hne]
  have oldw : ∀ b, b < w.heap.size → b ≠ B → (W5.setCell ⟨B, 3, none⟩ v2).heap[b]? = w.heap[b]? := fun b hb hne => (old b (by omega) hne).trans (h2.block b hb)
  have hle : w.heap.size ≤ (W5.setCell ⟨B, 3, none⟩ v2).heap.size := by rw [hsz]; omega
  have box2 := (h2.block B hB).trans h.box
  have box3 : (w2.setCell ⟨B, 1, none⟩ u).heap[B]? = some (.cells #[fv, u, lv, ov, pv, .int .i64 M.made] 31 (0, 0)) := by simp [World.setCell, box2, Array.getElem?_modify]
  have box5 := (h5.block B (by omega)).trans box3
  have hul := fun g (hg : u.ownBlock = some g) => hu.lt g hg
  have hvl := fun g (hg : v2.ownBlock = some g) => hv.lt g hg
  have kp : ∀ v, v = nv ∨ v = lv ∨ v = ov ∨ v = pv → ∀ g, v.ownBlock = some g → (W5.setCell ⟨B, 3, none⟩ v2).heap[g]? = w.heap[g]? := fun v hv g hg => oldw g (h.lt g (h.apart v hv g hg).1) (h.apart v hv g hg).2.1
  have fvl := fun g (hg : fv.ownBlock = some g) => h.lt g (h.own g hg).1
  refine ⟨⟨?_, ownsRow_same h.files fun g hg => oldw g (h.lt g (h.own g hg).1) (h.own g hg).2, ?_, h.last.kept (kp lv (.inr (.inl rfl))) hle, ?_, ?_, h.flt.kept (kp pv (.inr (.inr (.inr rfl)))) hle, ?_, fun g hg => ⟨.inl (h.own g hg).1, (h.own g hg).2⟩, .inl h.here, ?_⟩, ?_⟩
  · simp [World.setCell, box5, Array.getElem?_modify]
  · rw [now_snoc]
    exact (row_names hu).kept (fun g hg => old g (hul g hg).2 (by have := (hul g hg).1; omega)) (by rw [hsz]; omega)
  · exact (row_chgs hv).kept (fun g hg => heap_setCell_other _ _ _ _ (by have := (hvl g hg).1; show g ≠ B; omega)) (by rw [hsz]; exact Nat.le_refl _)
  · show M.opn ++ [c.sets] = (cs ++ [c]).map Chg.sets
    rw [h.sets, List.map_append]; rfl
  · intro v hv0 g hg
    rcases hv0 with rfl | rfl | rfl | rfl
    · have := hul g hg
      exact ⟨.inr ⟨this.1, by omega⟩, by omega, fun e => by have := fvl g e; omega⟩
    · have := h.apart _ (.inr (.inl rfl)) g hg; exact ⟨.inl this.1, this.2⟩
    · have := hvl g hg
      exact ⟨.inr ⟨by omega, this.2⟩, by omega, fun e => by have := fvl g e; omega⟩
    · have := h.apart _ (.inr (.inr (.inr rfl))) g hg; exact ⟨.inl this.1, this.2⟩
  · intro b hb
    rw [hsz]
    rcases hb with hb | hb
    · have := h.lt b hb; omega
    · exact hb.2
  · refine ⟨?_, ?_, ?_, hle, fun b hb hx => oldw b hb (fun e => hx (by rw [e]; exact h.here))⟩
    · show W5.os = w.os; exact h5.os.trans h2.os
    · show W5.tape = w.tape; exact h5.tape.trans h2.tape
    · show W5.output = w.output; exact h5.output.trans h2.output
end
theorem chg_src {w : World} {q : Option Addr} {n c : Nat} {L : List Chg} (h : ChgR w (.slice q n c) L) : (q = none ∧ L = []) ∨ ∃ ad, q = some ad ∧ ∀ j u, (chgCells L)[j]? = some u → w.cell? (ad.add j) = some u := by
  rcases h with ⟨rfl, p, c2, hs⟩ | ⟨g, off, c2, hs, hg, hc⟩
  · injection hs with e1 e2 e3
    cases q with
    | none => exact .inl ⟨rfl, rfl⟩
    | some ad => exact .inr ⟨ad, rfl, fun j u hu => by simp [chgCells] at hu⟩
  · injection hs with e1 e2 e3
    refine .inr ⟨_, e1, fun j u hu => ?_⟩
    have hlen : ∀ L : List Chg, (chgCells L).length = L.length * 4 := fun L => by
      induction L with
      | nil => rfl
      | cons p r ih => show (chgCells r).length + 1 + 1 + 1 + 1 = _; rw [ih, List.length_cons]; omega
    have hl := (List.getElem?_eq_some_iff.1 hu).1
    rw [hlen] at hl
    have hd : j / 4 < L.length := by omega
    obtain ⟨c0, c1, c2, c3⟩ := hc w rfl (j / 4) hd
    obtain ⟨d0, d1, d2, d3⟩ := chgCells_get L (j / 4) hd
    have ea : (⟨g, off, none⟩ : Addr).add j = ⟨g, off + j, none⟩ := by unfold Addr.add; split <;> simp_all
    rw [ea]
    rcases (by omega : j = j / 4 * 4 ∨ j = j / 4 * 4 + 1 ∨ j = j / 4 * 4 + 2 ∨ j = j / 4 * 4 + 3) with e | e | e | e
    · rw [← e] at c0 d0; rw [c0, ← d0, hu]
    · rw [← e] at d1; rw [Nat.add_assoc, ← e] at c1; rw [c1, ← d1, hu]
    · rw [← e] at d2; rw [Nat.add_assoc, ← e] at c2; rw [c2, ← d2, hu]
    · rw [← e] at d3; rw [Nat.add_assoc, ← e] at c3; rw [c3, ← d3, hu]
theorem boxSix {w : World} {B : Nat} {a b c d e f : Value} {T : TypeId} (h : w.heap[B]? = some (.cells #[a, b, c, d, e, f] T (0, 0))) :
    ((w.cell? ⟨B, 0, none⟩ = some a ∧ w.cell? ⟨B, 1, none⟩ = some b ∧ w.cell? ⟨B, 2, none⟩ = some c) ∧ (w.cell? ⟨B, 3, none⟩ = some d ∧ w.cell? ⟨B, 4, none⟩ = some e ∧ w.cell? ⟨B, 5, none⟩ = some f)) ∧ ∀ i, w.frozen? ⟨B, i, none⟩ = false := by
  refine ⟨⟨⟨?_, ?_, ?_⟩, ?_, ?_, ?_⟩, fun i => ?_⟩ <;> simp [World.cell?, World.frozen?, h]
set_option maxHeartbeats 4000000 in
set_option maxRecDepth 100000 in
theorem rturn_any (B : Nat) (X : Nat → Prop) (M : RSt) (c : Chg) (w : World) (fv nv lv ov pv : Value) (cs : List Chg) (h : RfTop w B X M fv nv lv ov pv cs) (hn : M.now.length ≤ 1099511627776) (ho : cs.length ≤ 1099511627776) :
    Calls Try.prog 34 #[.pointer (some ⟨B, 0, none⟩), .agg #[.int .i64 c.kind, .string c.a, .string c.b, .int .i64 c.f]] w fun e w' => e = .returned (.tuple #[]) ∧
      ∃ u v2 X', RfTop w' B X' { M with opn := M.opn ++ [c.sets] } fv u lv v2 pv (cs ++ [c]) ∧ (∀ b, X' b → X b ∨ w.heap.size ≤ b) ∧ Rk X w w' := by
  have hb0 := belowNew w (.cells #[.int .i64 c.kind, .string c.a, .string c.b, .int .i64 c.f] 86)
  have ht := h.below hb0
  have HT := Lib.hid ht
  have HB0 := Lib.hid hb0
  have HX := Lib.hid (heapLast w (.cells #[.int .i64 c.kind, .string c.a, .string c.b, .int .i64 c.f] 86))
  have HS : Hid (w.heap.size < (w.alloc (.cells #[.int .i64 c.kind, .string c.a, .string c.b, .int .i64 c.f] 86)).heap.size) := Lib.hid (by simp)
  have HBw : Hid (B < w.heap.size) := Lib.hid (h.lt B h.here)
  have HDN := Lib.hid (fun W (g : Below w.heap.size w W) => done_any M.now nv c W (h.now.below g) hn)
  have HO := Lib.hid ho
  obtain ⟨q1, c1, rfl⟩ := h.now.form
  obtain ⟨q2, c2, rfl⟩ := h.opn.form
  clear h hn ho hb0
  obtain ⟨kd, a, b, f⟩ := c
  simp only at ht HT HB0 HX HS HDN
  go_enter Try.func34, Try.ntmps34
  go_upto_region 1 with (fail)
  generalize w.alloc (.cells #[.int .i64 kd, .string a, .string b, .int .i64 f] 86) = W0 at *
  obtain ⟨⟨⟨a0, a1, a2⟩, a3, a4, a5⟩, fz⟩ := boxSix ht.box
  obtain ⟨d0, d1, d2, d3⟩ := cellsFour HX.out
  have HFZ : Hid (∀ w8, Below W0.drew.heap.size W0.drew w8 → w8.frozen? ⟨B, 1, none⟩ = false ∧ w8.cell? ⟨B, 1, none⟩ = some (.slice q1 M.now.length c1)) := Lib.hid fun w8 g => by
    have e := (g.block B (show B < W0.heap.size by have := HS.out; have := HBw.out; omega)).trans ht.box
    exact ⟨(boxSix e).2 1, (boxSix e).1.1.2.1⟩
  clear ht a0 a2 a3 a4 a5 fz
  go_cut [] from 5 to 13 (fun wx => ∃ u w2, WithoutR W0 ((Chg.mk kd a b f).sets.foldl nmSet M.now) u w2 ∧ wx = w2.setCell ⟨B, 1, none⟩ u)
  case first =>
    go_region_with (go_at_call 41; refine (HDN.out _ HB0.out.drew).mono ?_; rintro e w8 ⟨u, rfl, hu⟩; obtain ⟨pu, cu, rfl⟩ := (row_names hu.1).form; obtain ⟨fz1, fc1⟩ := HFZ.out w8 hu.2)
    all_goals go_wp2_with fail
    all_goals go_meet
    all_goals exact ⟨_, _, WithoutR.from hu (Below.refl _ _).drew, rfl⟩
  case rest =>
    obtain ⟨u, w2, hu, rfl⟩ := hcut
    obtain ⟨pu, cu, rfl⟩ := (row_names hu.1).form
    have hsz : ∀ (W : World) a v, (W.setCell a v).heap.size = W.heap.size := fun W a v => by simp [World.setCell]
    have hBw : B < W0.heap.size := by have := HS.out; have := HBw.out; omega
    have box2 := (hu.2.block B hBw).trans HT.out.box
    generalize hRR : (Chg.mk kd a b f).sets.foldl nmSet M.now = R at *
    have HRR := Lib.hid hRR
    clear hRR
    have box3 : (w2.setCell ⟨B, 1, none⟩ (.slice pu R.length cu)).heap[B]? = some (.cells #[fv, .slice pu R.length cu, lv, .slice q2 cs.length c2, pv, .int .i64 M.made] 31 (0, 0)) := by simp [World.setCell, box2, Array.getElem?_modify]
    have ov3 : ChgR (w2.setCell ⟨B, 1, none⟩ (.slice pu R.length cu)) (.slice q2 cs.length c2) cs := HT.out.opn.kept (fun g hg => by
      have hap := HT.out.apart _ (.inr (.inr (.inl rfl))) g hg
      rw [heap_setCell_other _ _ _ _ (show g ≠ B from hap.2.1)]
      exact hu.2.block g (HT.out.lt g hap.1)) (by rw [hsz]; exact hu.2.size)
    have chg3 : (w2.setCell ⟨B, 1, none⟩ (.slice pu R.length cu)).heap[w.heap.size]? = some (.cells #[.int .i64 kd, .string a, .string b, .int .i64 f] 86 (0, 0)) := by
      rw [heap_setCell_other _ _ _ _ (show w.heap.size ≠ B by have := HBw.out; omega)]
      exact (hu.2.block _ HS.out).trans HX.out
    obtain ⟨v1, W4, run1, own1, gr1⟩ := append_chgs (base := w2.heap.size) (v := .slice none 0 0) (A := []) (B := cs) (q := q2) (c := c2) (World.ownsRow_nil (w2.setCell ⟨B, 1, none⟩ (.slice pu R.length cu)) _ _ _) (chg_src ov3) (by have := HO.out; simp; omega) (by rw [hsz]; exact Nat.le_refl _)
    have hs4 : w2.heap.size ≤ W4.heap.size := by have := gr1.size; rwa [hsz] at this
    have own1' : (W4.alloc (.cells #[.int .i64 kd, .string a, .string b, .int .i64 f] 86)).ownsRow w2.heap.size 86 4 v1 ([] ++ cs).length (chgCells ([] ++ cs)) := own1.alloc _
    obtain ⟨v2, W5, run2, own2, gr2⟩ := append_chgs (base := w2.heap.size) (A := [] ++ cs) (B := [⟨kd, a, b, f⟩]) (q := some ⟨W4.heap.size, 0, none⟩) (c := 1) own1' (.inr ⟨_, rfl, fun j u hu => by
      have e : chgCells [⟨kd, a, b, f⟩] = [.int .i64 kd, .string a, .string b, .int .i64 f] := rfl
      rw [e] at hu
      have ea : (⟨W4.heap.size, 0, none⟩ : Addr).add j = ⟨W4.heap.size, j, none⟩ := by unfold Addr.add; split <;> simp_all
      rw [ea]
      have hx := heapLast W4 (.cells #[.int .i64 kd, .string a, .string b, .int .i64 f] 86)
      simp only [World.cell?, hx]
      simpa using hu⟩) (by have := HO.out; simp; omega) (by simp; omega)
    have b3 : Below w2.heap.size (w2.setCell ⟨B, 1, none⟩ (.slice pu R.length cu)) W4 := (Below.refl w2.heap.size (w2.setCell ⟨B, 1, none⟩ (.slice pu R.length cu))).grown gr1 (by rw [hsz]; exact Nat.le_refl _) (fun k hk => by cases hk)
    have b4 := b3.alloc hs4 (.cells #[.int .i64 kd, .string a, .string b, .int .i64 f] 86)
    have b5 := b4.grown gr2 (by simp; omega) (fun g hg => (own1.lt g hg).1)
    have hB2 : B < w2.heap.size := Nat.lt_of_lt_of_le hBw hu.2.size
    have box5 := (b5.block B hB2).trans box3
    have box4 := (b3.block B hB2).trans box3
    have chg4 := (b3.block w.heap.size (Nat.lt_of_lt_of_le HS.out hu.2.size)).trans chg3
    rw [List.nil_append] at own2
    obtain ⟨pv2, cv2, rfl⟩ := (row_chgs own2).form
    have HTOP := Lib.hid (turn_top (c := ⟨kd, a, b, f⟩) HT.out hu.2 (by rw [HRR.out]; exact hu.1) b5 own2)
    obtain ⟨⟨-, a3, -, -⟩, -⟩ := boxSix box3
    obtain ⟨-, fz5⟩ := boxSix box5
    have fz := fz5 3
    obtain ⟨⟨-, a35, -, -⟩, -⟩ := boxSix box5
    obtain ⟨d0, d1, d2, d3⟩ := cellsFour chg4
    have hst : (W4.alloc (.cells #[.int .i64 kd, .string a, .string b, .int .i64 f] 86)).heap.size = W4.heap.size + 1 := by simp
    generalize (cs ++ [(⟨kd, a, b, f⟩ : Chg)]).length = n2 at *
    clear box2 box3 ov3 chg3 own1 own1' own2 gr1 gr2 b3 b4 b5 hs4 box4 box5 chg4 fz5 hu hBw hB2 hst
    go_wp2_with (first
      | (at_builtin; refine wpList_append_run (by rfl) _ _ _ _ (by rfl) _ _ v1 W4 (by rfl) (by rfl) run1 ?_)
      | (at_builtin; refine wpList_append_run (by rfl) _ _ _ _ (by rfl) _ _ (.slice pv2 n2 cv2) W5 (by rfl) (by rfl) run2 ?_))
    go_end0
    exact ⟨rfl, _, _, _, HTOP.out.1, fun b hb => hb.elim .inl (fun hb => .inr (Nat.le_trans HB0.out.size hb.1)), (Rk.of HB0.out).trans HTOP.out.2⟩
end Go.Proofs.Ytblhbkhehddccaa
