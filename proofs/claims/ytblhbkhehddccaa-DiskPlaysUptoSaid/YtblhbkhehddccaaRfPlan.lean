/- The document's own disk: Names, Plan. Conditions: those that each theorem names. -/
import Derived.Test.YtblhbkhehddccaaRfWrite
import Derived.Test.YtblhbkhehddccaaDkPlan
namespace Go.Proofs.Ytblhbkhehddccaa
set_option linter.unusedVariables false
open Go.RowKit Dk
def fltCells (L : List (Int × Int × Int)) : List Value := L.flatMap fun f => [.int .i64 f.1, .int .i64 f.2.1, .int .i64 f.2.2]
theorem infoFlt : (Try.prog.info? 63).map (fun i => (i.zero, i.size, i.bytes)) = some (some (.agg #[.int .i64 0, .int .i64 0, .int .i64 0]), 3, 24) := by kernel_rfl
/-- A row of names behind an own one: the source may be nil. -/
theorem append_flts {w : World} {base : Nat} {v : Value} {A B : List (Int × Int × Int)} {q : Option Addr} {c : Nat} (hown : w.ownsRow base 63 3 v A.length (fltCells A))
    (hs : (q = none ∧ B = []) ∨ ∃ ad, q = some ad ∧ ∀ j u, (fltCells B)[j]? = some u → w.cell? (ad.add j) = some u) (hb : A.length + B.length ≤ 2199023255552) (hbase : base ≤ w.heap.size) :
    ∃ v' w', (∀ ty, (Builtin.append_ #[29, 29] ty #[v, .slice q B.length c]).run Try.prog w = .ok v' w') ∧ w'.ownsRow base 63 3 v' (A ++ B).length (fltCells (A ++ B)) ∧ w.grownBy w' v.ownBlock := by
  obtain ⟨i0, hi, hz0, hz1, hz2⟩ := info_parts infoFlt
  have hlen : ∀ L : List (Int × Int × Int), (fltCells L).length = L.length * 3 := fun L => by
    induction L with
    | nil => rfl
    | cons p r ih => show (fltCells r).length + 1 + 1 + 1 = _; rw [ih, List.length_cons]; omega
  rcases hs with ⟨rfl, rfl⟩ | ⟨ad, rfl, hc⟩
  · refine ⟨v, w, fun ty => ?_, by simpa using hown, ⟨rfl, rfl, rfl, Nat.le_refl _, fun _ _ _ => rfl⟩⟩
    have ht := Try.underlying29
    rcases hown.2 with ⟨rfl, h0⟩ | ⟨g, cap, cur, rfl, _, hg, h1, _⟩
    · simp [Builtin.append_, run_underlying ht, sizeOf, typeInfo, hi, Builtin.lenOf, Builtin.firstCells]
    · simp [Builtin.append_, run_underlying ht, sizeOf, typeInfo, hi, Builtin.lenOf, Builtin.firstCells, storeCells, h1]
  · obtain ⟨v', w', hr, h2, h3, _⟩ := run_append_own_at (P := Try.prog) w base 29 29 63 i0 _ 3 24 Try.underlying29 hi hz0 hz1 hz2 rfl (by decide) v A.length (fltCells A) hown ad B.length c (fltCells B) (hlen B) hc
      (fun u hu => by
        obtain ⟨p, _, hp⟩ := List.mem_flatMap.1 hu
        simp at hp
        rcases hp with rfl | rfl | rfl <;> rfl) (by unfold maxLen; omega) (by omega) hbase
    have e : fltCells (A ++ B) = fltCells A ++ fltCells B := by simp [fltCells]
    exact ⟨v', w', fun _ => hr, by rw [e, List.length_append]; exact h2, h3⟩
theorem flt_eq (L : List (Int × Int × Int)) : L.flatMap faultCells = fltCells L := rfl
theorem row_flts {w : World} {base : Nat} {v : Value} {L : List (Int × Int × Int)} (h : w.ownsRow base 63 3 v L.length (fltCells L)) : FltR w v L := by
  rcases h.2 with ⟨rfl, h0⟩ | ⟨g, cap, cur, rfl, hb, hg, h1, h2, h3, h4⟩
  · exact .inl ⟨List.length_eq_zero_iff.mp h0, none, 0, rfl⟩
  · refine .inr ⟨g, 0, cap, rfl, (Array.getElem?_eq_some_iff.1 hg).1, fun W hW j hj => ?_⟩
    have hc : ∀ i u, i < L.length * 3 → (fltCells L)[i]? = some u → W.cell? ⟨g, i, none⟩ = some u := fun i u hi hu => by
      have hw := hW.trans hg
      have e : cur[i]? = some u := by rw [← hu, ← h4, List.getElem?_take, if_pos hi, Array.getElem?_toList]
      simp [World.cell?, hw, e]
    obtain ⟨e0, e1, e2⟩ := fault_cells L j hj
    rw [Nat.zero_add]
    exact ⟨hc _ _ (by omega) e0, hc _ _ (by omega) e1, hc _ _ (by omega) e2⟩
/-- The plan's row is laid anew. -/
theorem plan_top {w W4 : World} {B : Nat} {X : Nat → Prop} {M : RSt} {fv nv lv ov pv v4 : Value} {cs : List Chg} (h : RfTop w B X M fv nv lv ov pv cs) (gr : Below w.heap.size w W4) (l : List (Int × Int × Int))
    (hown : W4.ownsRow w.heap.size 63 3 v4 l.length (fltCells l)) :
    RfTop (W4.setCell ⟨B, 4, none⟩ v4) B (fun b => X b ∨ (w.heap.size ≤ b ∧ b < W4.heap.size)) { M with faults := l } fv nv lv ov v4 cs ∧ Rk X w (W4.setCell ⟨B, 4, none⟩ v4) := by
  have hsz : ∀ (W : World) a v, (W.setCell a v).heap.size = W.heap.size := fun W a v => by simp [World.setCell]
  have hB := h.lt B h.here
  have hs := gr.size
  have old : ∀ b, b < w.heap.size → b ≠ B → (W4.setCell ⟨B, 4, none⟩ v4).heap[b]? = w.heap[b]? := fun b hb hne => by rw [heap_setCell_other _ _ _ _ hne, gr.block b hb]
  have hle : w.heap.size ≤ (W4.setCell ⟨B, 4, none⟩ v4).heap.size := by rw [hsz]; exact hs
  have kp : ∀ v, v = nv ∨ v = lv ∨ v = ov ∨ v = pv → ∀ g, v.ownBlock = some g → (W4.setCell ⟨B, 4, none⟩ v4).heap[g]? = w.heap[g]? := fun v hv g hg => old g (h.lt g (h.apart v hv g hg).1) (h.apart v hv g hg).2.1
  have hvl := fun g (hg : v4.ownBlock = some g) => hown.lt g hg
  have fvl := fun g (hg : fv.ownBlock = some g) => h.lt g (h.own g hg).1
  refine ⟨⟨?_, ownsRow_same h.files fun g hg => old g (h.lt g (h.own g hg).1) (h.own g hg).2, h.now.kept (kp nv (.inl rfl)) hle, h.last.kept (kp lv (.inr (.inl rfl))) hle, h.opn.kept (kp ov (.inr (.inr (.inl rfl)))) hle, h.sets, ?_, ?_, fun g hg => ⟨.inl (h.own g hg).1, (h.own g hg).2⟩, .inl h.here, ?_⟩, ?_⟩
  · exact heap_setCell_same _ B 4 _ _ v4 ((gr.block B hB).trans h.box)
  · exact (row_flts hown).kept (fun g hg => heap_setCell_other _ _ _ _ (by have := (hvl g hg).1; show g ≠ B; omega)) (by rw [hsz]; exact Nat.le_refl _)
  · intro v hv0 g hg
    rcases hv0 with rfl | rfl | rfl | rfl
    · have := h.apart _ (.inl rfl) g hg; exact ⟨.inl this.1, this.2⟩
    · have := h.apart _ (.inr (.inl rfl)) g hg; exact ⟨.inl this.1, this.2⟩
    · have := h.apart _ (.inr (.inr (.inl rfl))) g hg; exact ⟨.inl this.1, this.2⟩
    · have := hvl g hg
      exact ⟨.inr this, by omega, fun e => by have := fvl g e; omega⟩
  · intro b hb
    rw [hsz]
    rcases hb with hb | hb
    · have := h.lt b hb; omega
    · exact hb.2
  · exact ⟨gr.os, gr.tape, gr.output, hle, fun b hb hx => old b hb (fun e => hx (by rw [e]; exact h.here))⟩
theorem fault_ways (last s k n : Int) : ((decide (last < s) && mayB (s, k, n)) = true ∧ ¬ s ≤ last ∧ ¬ k < 1 ∧ ¬ 3 < k ∧ ¬ n < 0 ∧ (¬ 0 < n ∨ (0 < n ∧ (k != 2) = false))) ∨
    ((decide (last < s) && mayB (s, k, n)) = false ∧ (s ≤ last ∨ (¬ s ≤ last ∧ k < 1) ∨ (¬ s ≤ last ∧ ¬ k < 1 ∧ 3 < k) ∨ (¬ s ≤ last ∧ ¬ k < 1 ∧ ¬ 3 < k ∧ n < 0) ∨ (¬ s ≤ last ∧ ¬ k < 1 ∧ ¬ 3 < k ∧ ¬ n < 0 ∧ 0 < n ∧ (k != 2) = true))) := by
  have h : ((decide (last < s) && mayB (s, k, n)) = true) ↔ last < s ∧ ((k = 1 ∨ k = 3) ∧ n = 0 ∨ k = 2 ∧ 0 ≤ n) := by
    unfold mayB
    simp only [Bool.and_eq_true, decide_eq_true_eq]
    by_cases c1 : k = 1 ∨ k = 3
    · rw [if_pos c1]; simp only [decide_eq_true_eq]; omega
    · rw [if_neg c1]
      by_cases c2 : k = 2
      · rw [if_pos c2]; simp only [decide_eq_true_eq]; omega
      · rw [if_neg c2]; constructor
        · intro hh; cases hh.2
        · intro hh; omega
  cases e : (decide (last < s) && mayB (s, k, n))
  · right
    rw [e] at h
    have h2 : ¬ (last < s ∧ ((k = 1 ∨ k = 3) ∧ n = 0 ∨ k = 2 ∧ 0 ≤ n)) := fun x => by cases h.2 x
    refine ⟨rfl, ?_⟩
    have hk2 : (k != 2) = true ↔ k ≠ 2 := by simp
    rw [hk2]
    omega
  · left
    rw [e] at h
    have h2 := h.1 rfl
    have hk2 : (k != 2) = false ↔ k = 2 := by simp
    rw [hk2]
    exact ⟨rfl, by omega, by omega, by omega, by omega, by omega⟩
def planR (M : RSt) (l : List (Int × Int × Int)) : Int × RSt := if 4096 < l.length then (1, M) else if planOk M.made l then (0, { M with faults := l }) else (1, M)
set_option maxHeartbeats 4000000 in
set_option maxRecDepth 100000 in
theorem rplan_any (B : Nat) (X : Nat → Prop) (M : RSt) (p : Option Addr) (c : Nat) (l : List (Int × Int × Int)) (w : World) (h : RfAt w B X M) (hl : FaultsAt w p c l) :
    Calls Try.prog 22 #[.pointer (some ⟨B, 0, none⟩), .slice p l.length c] w fun e w' => e = .returned (.int .i64 (planR M l).1) ∧ RfOp w B X (planR M l).2 w' := by
  have HO := Lib.hid (RfOp.same h)
  unfold planR
  by_cases h1 : 4096 < l.length
  · rw [if_pos h1]
    have h1' : (4096 : Int) < (l.length : Int) := by omega
    clear h1 hl h
    go_enter Try.func22, Try.ntmps22
    go_wp2_with fail
    go_ret
    exact ⟨rfl, HO.out⟩
  · rw [if_neg h1]
    have h1' : ¬ (4096 : Int) < (l.length : Int) := by omega
    obtain ⟨R, hR⟩ : ∃ R, R = planOk M.made l := ⟨_, rfl⟩
    obtain ⟨Z, hZ⟩ : ∃ Z, Z = (if planOk M.made l = true then ((0 : Int), { M with faults := l }) else (1, M)) := ⟨_, rfl⟩
    rw [← hZ]
    have HZ1 : Hid (R = true → Z = (0, { M with faults := l })) := Lib.hid fun e => by rw [hZ, ← hR, if_pos e]
    have HZ0 : Hid (R = false → Z = (1, M)) := Lib.hid fun e => by rw [hZ, ← hR, e]; rfl
    have HR := Lib.hid hR
    have HL := Lib.hid hl
    have hn : l.length ≤ 4096 := by omega
    obtain ⟨fv, nv, lv, ov, pv, cs, ht⟩ := h
    have HT := Lib.hid ht
    obtain ⟨⟨a0, a1, a2⟩, a3, a4, a5⟩ := ht.cells
    obtain ⟨n, hnn⟩ : ∃ n, n = l.length := ⟨_, rfl⟩
    rw [← hnn] at h1' hn ⊢
    have HNN := Lib.hid hnn
    have HNL : Hid (n ≤ maxLen) := Lib.hid (by unfold maxLen; omega)
    clear h1 hl hR hZ ht a0 a1 a2 a3 a4 hnn
    go_enter Try.func22, Try.ntmps22
    go_wp2_with fail
    clear a5
    go_loopw [5, 6] (fun la i wr => ∃ (k : Nat) (last : Int), k ≤ n ∧ i = .int .i64 k ∧ la = .int .i64 last ∧ Below w.heap.size w wr ∧ Hid (R = planOk last (l.drop k))) (fun _ i _ => n - (intOf i).toNat)
    case atStart => exact ⟨0, _, Nat.zero_le _, rfl, rfl, Below.refl _ _, HR⟩
    case round =>
      obtain ⟨k, last, hk, rfl, rfl, hb, HA⟩ := hrel
      have HB := Lib.hid hb
      obtain ⟨wq, rfl⟩ : ∃ wq : World, wq = wr := ⟨_, rfl⟩
      clear hb
      by_cases hlt : k < n
      · have hlk : k < l.length := by rw [← HNN.out]; exact hlt
        obtain ⟨g, rfl, hg, hc⟩ := HL.out.at hlk
        obtain ⟨c0, c1, c2⟩ := hc wq (HB.out.block g hg)
        have HA2 := Lib.hid (HA.out.trans (planOk_drop hlk))
        generalize l[k] = y at *
        obtain ⟨ys, yk, yn⟩ := y
        simp only at c0 c1 c2
        have hw := fault_ways last ys yk yn
        have HW := Lib.hid hw
        obtain ⟨e0, e1, e2⟩ := cellsThree (heapLast wq (.cells #[.int .i64 ys, .int .i64 yk, .int .i64 yn] 63))
        have HB2 := Lib.hid (HB.out.trans ((belowNew wq (.cells #[.int .i64 ys, .int .i64 yk, .int .i64 yn] 63)).mono HB.out.size))
        clear hc hlk hg HA hw
        rcases HW.out with ⟨hv, t1, t2, t3, t4, t5⟩ | ⟨hv, t⟩
        · have HX : Hid (R = planOk ys (l.drop (k + 1))) := Lib.hid (by rw [HA2.out]; simp only; rw [hv]; rfl)
          clear hv HW HA2
          rcases t5 with t5 | ⟨t5, t6⟩
          all_goals
            go_wp2_with fail
            go_roundw
            case rel => exact ⟨k + 1, _, by omega, by first | rfl | go_num, rfl, HB2.out, HX⟩
            case measure => simp [intOf]; omega
        · have HX : Hid (R = false) := Lib.hid (by rw [HA2.out]; simp only; rw [hv]; rfl)
          have HF : Hid (RfOp w B X M (wq.alloc (.cells #[.int .i64 ys, .int .i64 yk, .int .i64 yn] 63))) := Lib.hid ⟨X, ⟨_, _, _, _, _, _, HT.out.below HB2.out⟩, fun _ h => .inl h, Rk.of HB2.out⟩
          clear hv HW HA2
          rcases t with t1 | ⟨t1, t2⟩ | ⟨t1, t2, t3⟩ | ⟨t1, t2, t3, t4⟩ | ⟨t1, t2, t3, t4, t5, t6⟩
          all_goals
            go_wp2_with fail
            go_ret
            rw [HZ0.out HX.out]
            exact ⟨rfl, HF.out⟩
      · obtain rfl : k = n := by omega
        have HX : Hid (R = true) := Lib.hid (by rw [HA.out, HNN.out, List.drop_length]; rfl)
        have htq := HT.out.below HB.out
        have hlq : wq.ownsRow 0 63 3 (.slice p l.length c) l.length (fltCells l) := ownsRow_same HL.out fun g hg => HB.out.block g (ownsRow_lt HL.out g hg)
        have hsrc : (p = none ∧ l = []) ∨ ∃ ad, p = some ad ∧ ∀ j u, (fltCells l)[j]? = some u → wq.cell? (ad.add j) = some u := by
          rcases hlq.2 with ⟨he, h0⟩ | ⟨g, cap, cur, he, _⟩
          · injection he with e1 e2 e3
            exact .inl ⟨e1, List.length_eq_zero_iff.mp h0⟩
          · injection he with e1 e2 e3
            subst e1 e3
            refine .inr ⟨_, rfl, fun j u hu => ?_⟩
            rw [show (⟨g, 0, none⟩ : Addr).add j = ⟨g, j, none⟩ by unfold Addr.add; split <;> simp_all]
            exact own_cell hlq j u hu
        obtain ⟨v4, W4, run4, own4, gr4⟩ := append_flts (base := wq.heap.size) (v := .slice none 0 0) (A := []) (B := l) (q := p) (c := c) (World.ownsRow_nil wq _ _ _) hsrc (by have := HNN.out; simp; omega) (Nat.le_refl _)
        have b4 : Below wq.heap.size wq W4 := (Below.refl _ _).grown gr4 (Nat.le_refl _) (fun k hk => by cases hk)
        rw [List.nil_append] at own4
        obtain ⟨p4, c4, rfl⟩ := (row_flts own4).form
        obtain ⟨ht4, k4⟩ := plan_top htq b4 l own4
        have HF : Hid (RfOp w B X { M with faults := l } (W4.setCell ⟨B, 4, none⟩ (.slice p4 l.length c4))) := Lib.hid ⟨_, ⟨_, _, _, _, _, _, ht4⟩, fun b hb => hb.imp id (fun h => Nat.le_trans HB.out.size h.1), (Rk.of HB.out).trans k4⟩
        have hb4 := (b4.block B (htq.lt B htq.here)).trans htq.box
        obtain ⟨⟨-, -, z4, -⟩, fz⟩ := boxSix hb4
        have fz4 := fz 4
        rw [← HNN.out] at run4 HF
        clear htq hlq hsrc own4 gr4 b4 ht4 k4 hb4 fz HA
        go_wp2_with (first
          | (at_builtin; refine wpList_append_run (by rfl) _ _ _ _ (by rfl) _ _ (.slice p4 k c4) W4 (by rfl) (by rfl) run4 ?_))
        go_ret
        rw [HZ1.out HX.out]
        exact ⟨rfl, HF.out⟩
end Go.Proofs.Ytblhbkhehddccaa
