/- manifest's call read. Conditions: those that each theorem names. -/
import Derived.Test.YtkbdokakoapooaaGreatDoorMfG
namespace Go.Proofs.YtkbdokakoapooaaGreatDoor
set_option linter.unusedVariables false
open Go Go.RowKit Go.Shelf Go.Sort
namespace Mf
/-! ### what is read is small -/
theorem parse_lt {l : Bs} {u : Nat} (h : Lib.parseMag l = .ok u) : u < 18446744073709551616 := Lib.parseMag_lt h
theorem numS_in (s : Bs) : -9223372036854775808 ≤ numS s ∧ numS s ≤ 9223372036854775807 := by
  unfold numS
  cases h : Lib.atoiAll s with
  | ok v =>
    show -9223372036854775808 ≤ v ∧ v ≤ 9223372036854775807
    unfold Lib.atoiAll at h
    cases s with
    | nil => cases h
    | cons c r =>
      dsimp only at h
      split at h
      · cases h
      · cases h
      · rename_i u hu
        by_cases hn : c.toNat = 45
        · simp only [hn, not_true_eq_false, false_and, if_false, true_and] at h
          split at h
          · cases h
          · injection h with h; simp at h; omega
        · simp only [hn, not_false_eq_true, true_and, if_false, false_and] at h
          split at h
          · cases h
          · injection h with h; omega
  | range =>
    show -9223372036854775808 ≤ Lib.atoiSat s ∧ Lib.atoiSat s ≤ 9223372036854775807
    exact Lib.atoiSat_bounds s
  | _ => exact ⟨by show (-9223372036854775808 : Int) ≤ 0; omega, by show (0 : Int) ≤ 9223372036854775807; omega⟩
theorem cut_len (s sep : Bs) : (Lib.cut s sep).1.length ≤ s.length ∧ (Lib.cut s sep).2.1.length ≤ s.length := by
  unfold Lib.cut
  split <;> simp <;> omega
theorem piece_small (sep : ByteArray) : ∀ (k : Nat) (s : ByteArray), ∀ p ∈ Lib.splitB sep 0 k s, p.size ≤ s.size
  | 0, s, p, h => by
    have : p = s := by simpa [Lib.splitB] using h
    rw [this]; exact Nat.le_refl _
  | k + 1, s, p, h => by
    unfold Lib.splitB at h
    split at h
    · have : p = s := by simpa using h
      rw [this]; exact Nat.le_refl _
    · rcases List.mem_cons.1 h with rfl | h
      · simp only [ByteArray.size_extract]; omega
      · have := piece_small sep k _ p h
        simp only [ByteArray.size_extract] at this; omega
theorem step_small (q : Nat) (m : Mn) (p : Bs) (hm : Small m) (hq : m.segs.length ≤ q) (hp : p.length ≤ 16777215) (hq2 : q ≤ 1000000) : Small (stepR m p) ∧ (stepR m p).segs.length ≤ q + 1 := by
  have hc := (cut_len p [32]).2
  obtain ⟨h1, h2, h3, h4, h5, h6, h7⟩ := hm
  have hn := numS_in (Lib.cut p [32]).2.1
  unfold stepR
  split
  · exact ⟨⟨h1, h2, h3, hn.1, hn.2, h6, h7⟩, by show m.segs.length ≤ _; omega⟩
  split
  · exact ⟨⟨h1, h2, h3, h4, h5, hn.1, hn.2⟩, by show m.segs.length ≤ _; omega⟩
  split
  · exact ⟨⟨h1, by show (tx (Lib.cut p [32]).2.1).size ≤ _; rw [tx_size]; omega, h3, h4, h5, h6, h7⟩, by show m.segs.length ≤ _; omega⟩
  split
  · refine ⟨⟨by simp; omega, h2, fun s hs => ?_, h4, h5, h6, h7⟩, by simp; omega⟩
    rcases List.mem_append.1 hs with h | h
    · exact h3 s h
    · have : s = tx (Lib.cut p [32]).2.1 := by simpa [tx] using h
      rw [this, tx_size]; omega
  · exact ⟨⟨h1, h2, h3, h4, h5, h6, h7⟩, by omega⟩
theorem fold_small : ∀ (L : List ByteArray) (q : Nat) (m : Mn), Small m → m.segs.length ≤ q → (∀ p ∈ L, p.size ≤ 16777215) → q + L.length ≤ 1000000 → Small (L.foldl (fun m p => stepR m (bl p)) m) ∧ (L.foldl (fun m p => stepR m (bl p)) m).segs.length ≤ q + L.length
  | [], q, m, h, hq, _, _ => ⟨h, by simpa using hq⟩
  | p :: L, q, m, h, hq, hp, hl => by
    have hl' : q + (L.length + 1) ≤ 1000000 := by simpa using hl
    have h1 := step_small q m (bl p) h hq (by have h1 := hp p (by simp); have h2 := ln p; show p.data.toList.length ≤ _; omega) (by omega)
    have h2 := fold_small L (q + 1) (stepR m (bl p)) h1.1 h1.2 (fun y hy => hp y (by simp [hy])) (by omega)
    rw [List.foldl_cons]
    refine ⟨h2.1, ?_⟩
    rw [List.length_cons]; omega
theorem zero_small : Small Mn.zero := ⟨by decide, by decide, fun s hs => by simp [Mn.zero] at hs, by decide, by decide, by decide, by decide⟩
theorem pieces_len (s : ByteArray) : (piecesB s).length ≤ 1029 := by
  have := Lib.splitB_length_le ⟨#[10]⟩ 0 (min 1029 (s.size + 1) - 1) s
  unfold piecesB; omega
/-- What is read of the first k pieces. -/
def rdK (s : ByteArray) (k : Nat) : Mn := ((piecesB s).take k).foldl (fun m p => stepR m (bl p)) Mn.zero
theorem rdK_small (s : ByteArray) (hs : s.size ≤ 16777215) (k : Nat) : Small (rdK s k) ∧ (rdK s k).segs.length ≤ 1029 := by
  have h1 := pieces_len s
  have h2 := fold_small ((piecesB s).take k) 0 Mn.zero zero_small (by decide) (fun p hp => Nat.le_trans (piece_small _ _ _ p (List.mem_of_mem_take hp)) hs) (by rw [List.length_take]; omega)
  refine ⟨h2.1, ?_⟩
  have := h2.2
  rw [List.length_take] at this
  unfold rdK
  omega
theorem rdK_all (s : ByteArray) : rdK s (piecesB s).length = rd s := by unfold rdK rd; rw [List.take_length]
theorem rdK_next (s : ByteArray) (k : Nat) (x : ByteArray) (h : (piecesB s)[k]? = some x) : rdK s (k + 1) = stepR (rdK s k) (bl x) := by
  unfold rdK
  rw [List.take_add_one, h, List.foldl_append]; rfl
/-! ### in memory -/
/-- Of the blocks below B only block K has turned. -/
structure Kx (K B : Nat) (w w' : World) : Prop where
  os : w'.os = w.os
  tape : w'.tape = w.tape
  output : w'.output = w.output
  size : w.heap.size ≤ w'.heap.size
  block : ∀ b, b < B → b ≠ K → w'.heap[b]? = w.heap[b]?
theorem Kx.refl (K B : Nat) (w : World) : Kx K B w w := ⟨rfl, rfl, rfl, Nat.le_refl _, fun _ _ _ => rfl⟩
theorem Kx.then {K B : Nat} {w w1 w2 : World} (h : Kx K B w w1) (g : Below B w1 w2) : Kx K B w w2 :=
  ⟨g.os.trans h.os, g.tape.trans h.tape, g.output.trans h.output, Nat.le_trans h.size g.size, fun b hb hn => (g.block b hb).trans (h.block b hb hn)⟩
theorem Kx.fresh {K B : Nat} {w w1 w2 : World} (h : Kx K B w w1) (hB : B ≤ w1.heap.size) (g : Below w1.heap.size w1 w2) : Kx K B w w2 := h.then (g.mono hB)
theorem Kx.set {K B : Nat} {w w' : World} (h : Kx K B w w') (k : Nat) (v : Value) : Kx K B w (w'.setCell ⟨K, k, none⟩ v) :=
  ⟨h.os, h.tape, h.output, by rw [show (w'.setCell ⟨K, k, none⟩ v).heap.size = w'.heap.size by simp [World.setCell]]; exact h.size, fun b hb hn => (heap_setCell_other _ _ _ _ (fun (e : b = K) => hn e)).trans (h.block b hb hn)⟩
theorem Kx.below {K B b0 : Nat} {w w' : World} (h : Kx K B w w') (h0 : b0 ≤ K) (h1 : b0 ≤ B) : Below b0 w w' := ⟨h.os, h.tape, h.output, h.size, fun b hb => h.block b (by omega) (by omega)⟩
theorem Gh.kx {K B : Nat} {w w' : World} (h : Gh w) (g : Kx K B w w') (hK : gN ≤ K) (hB : gN ≤ B) : Gh w' := h.keep g.size fun b hb => g.block b (by omega) (by omega)
/-- A manifest in a block. -/
def MnCell (w : World) (K : Nat) (m : Mn) (sv : Value) : Prop := w.heap[K]? = some (.cells #[sv, .string m.log, .int .i64 m.next, .int .i64 m.seq] 61 (0, 0))
theorem setCell_row {w : World} {g k : Nat} {cs : Array Value} {T : TypeId} (h : w.heap[g]? = some (.cells cs T (0, 0))) (v : Value) : (w.setCell ⟨g, k, none⟩ v).heap[g]? = some (.cells (cs.setIfInBounds k v) T (0, 0)) := heap_setCell_same w g k cs T v h
theorem MnCell.cells {w : World} {K : Nat} {m : Mn} {sv : Value} (h : MnCell w K m sv) : w.cell? ⟨K, 0, none⟩ = some sv ∧ w.cell? ⟨K, 1, none⟩ = some (.string m.log) ∧ w.cell? ⟨K, 2, none⟩ = some (.int .i64 m.next) ∧ w.cell? ⟨K, 3, none⟩ = some (.int .i64 m.seq) ∧
    w.frozen? ⟨K, 0, none⟩ = false ∧ w.frozen? ⟨K, 1, none⟩ = false ∧ w.frozen? ⟨K, 2, none⟩ = false ∧ w.frozen? ⟨K, 3, none⟩ = false := by
  refine ⟨?_, ?_, ?_, ?_, Lib.frozen_of_heap h 0, Lib.frozen_of_heap h 1, Lib.frozen_of_heap h 2, Lib.frozen_of_heap h 3⟩ <;> rw [Lib.cell_of_heap h] <;> rfl
theorem MnCell.fresh {w w' : World} {K : Nat} {m : Mn} {sv : Value} (h : MnCell w K m sv) (g : Below w.heap.size w w') : MnCell w' K m sv := (g.block K (Array.getElem?_eq_some_iff.1 h).1).trans h
theorem ownT_set {w : World} {base K k : Nat} {v x : Value} {L : List ByteArray} (h : OwnT w base v L) (hK : K < base) : OwnT (w.setCell ⟨K, k, none⟩ x) base v L := by
  refine ⟨h.1, ?_⟩
  rcases h.2 with h0 | ⟨g, cap, cur, rfl, h1, hg, h2⟩
  · exact .inl h0
  · exact .inr ⟨g, cap, cur, rfl, h1, (heap_setCell_other _ _ _ _ (by show g ≠ K; omega)).trans hg, h2⟩
/-- A manifest of one's own as a value. -/
def MnOwn (w : World) (base : Nat) (v : Value) (m : Mn) : Prop := ∃ p c, v = .agg #[.slice p m.segs.length c, .string m.log, .int .i64 m.next, .int .i64 m.seq] ∧ OwnT w base (.slice p m.segs.length c) m.segs
theorem MnOwn.at {w : World} {base : Nat} {v : Value} {m : Mn} (h : MnOwn w base v m) : MnAt w v m := by
  obtain ⟨p, c, e, h1⟩ := h
  exact ⟨p, c, e, h1.at⟩
theorem MnOwn.below {w w' : World} {base : Nat} {v : Value} {m : Mn} (h : MnOwn w base v m) (g : Below w.heap.size w w') : MnOwn w' base v m := by
  obtain ⟨p, c, e, h1⟩ := h
  exact ⟨p, c, e, ownT_kept h1 g⟩
/-- What read has in memory behind k pieces. -/
structure RdInv (s : ByteArray) (K B : Nat) (w0 : World) (k : Nat) (wr : World) : Prop where
  cell : ∃ sv, MnCell wr K (rdK s k) sv ∧ OwnT wr B sv (rdK s k).segs
  kx : Kx K B w0 wr
theorem ownT_ne {w : World} {base K : Nat} {v : Value} {L : List ByteArray} (h : OwnT w base v L) (hK : K < base) : v.ownBlock ≠ some K := by
  rcases h.2 with ⟨rfl, _⟩ | ⟨g, cap, cur, rfl, h1, _⟩
  · simp [Value.ownBlock]
  · simp only [Value.ownBlock, ne_eq, Option.some.injEq]; omega
theorem bl_len (s : ByteArray) : (bl s).length = s.size := ln s
theorem word_eq (l k : Bs) : ((tx l).toList == k) = decide (l = k) := by
  rw [Go.ByteArray.toList_eq, tx_list, Bool.eq_iff_iff, decide_eq_true_eq, beq_iff_eq]
set_option maxHeartbeats 4000000 in
set_option maxRecDepth 100000 in
theorem read_any (s : ByteArray) (w : World) (hs : s.size ≤ 16777215) (G : Gh w) :
    Calls Tryz.prog 73 #[.string s] w fun e w' => ∃ v, e = .returned v ∧ MnOwn w' w.heap.size v (rd s) ∧ Below w.heap.size w w' := by
  have HS := Lib.hid hs
  have HG := Lib.hid G
  have HSP : Hid (∀ W, Gh W → Calls Tryz.prog 111 #[.string s, .string ⟨#[10]⟩, .int .i64 1029] W fun e w' => ∃ c, e = .returned (.slice (some ⟨W.heap.size, 0, none⟩) (piecesB s).length c) ∧ Below W.heap.size W w' ∧ W.heap.size < w'.heap.size ∧ ∀ X : World, X.heap[W.heap.size]? = w'.heap[W.heap.size]? → ∀ j (h : j < (piecesB s).length), X.cell? ⟨W.heap.size, j, none⟩ = some (.string (piecesB s)[j])) := Lib.hid (fun W G => by
    obtain ⟨m, hm⟩ := G.mx
    refine (Tryz.strings_SplitN s ⟨#[10]⟩ 1029 m W (by omega) (hm W fun _ _ => rfl) (by decide) (by decide) (by decide)).mono ?_
    rintro e w' ⟨rfl, rfl⟩
    refine ⟨_, rfl, below_new _ _, by simp, fun X hX j hj => ?_⟩
    rw [Lib.cell_of_heap (hX.trans (heap_new W _))]
    unfold Lib.cellsOf
    rw [List.getElem?_toArray, List.getElem?_append_left (by rw [List.length_map]; exact hj), List.getElem?_map]
    show ((piecesB s)[j]?).map Value.string = _
    rw [List.getElem?_eq_getElem hj]; rfl)
  clear hs G
  go_enter Tryz.func73, Tryz.ntmps73
  go_wp2_with fail
  have hb1 := below_new w (.cells #[.slice none 0 0, .string ⟨#[]⟩, .int .i64 0, .int .i64 0] 61)
  have hb2 := below_then hb1 (below_new _ (.cells #[.slice none 0 0, .string ⟨#[]⟩, .int .i64 0, .int .i64 0] 61))
  have hz0 : ((w.alloc (.cells #[.slice none 0 0, .string ⟨#[]⟩, .int .i64 0, .int .i64 0] 61)).alloc (.cells #[.slice none 0 0, .string ⟨#[]⟩, .int .i64 0, .int .i64 0] 61)).heap[w.heap.size]? = some (.cells #[.slice none 0 0, .string ⟨#[]⟩, .int .i64 0, .int .i64 0] 61 (0, 0)) := by
    rw [heap_old _ _ (by simp)]; exact heap_new w _
  have hz1 : ((w.alloc (.cells #[.slice none 0 0, .string ⟨#[]⟩, .int .i64 0, .int .i64 0] 61)).alloc (.cells #[.slice none 0 0, .string ⟨#[]⟩, .int .i64 0, .int .i64 0] 61)).heap[w.heap.size + 1]? = some (.cells #[.slice none 0 0, .string ⟨#[]⟩, .int .i64 0, .int .i64 0] 61 (0, 0)) := by
    have := heap_new (w.alloc (.cells #[.slice none 0 0, .string ⟨#[]⟩, .int .i64 0, .int .i64 0] 61)) (.cells #[.slice none 0 0, .string ⟨#[]⟩, .int .i64 0, .int .i64 0] 61)
    simpa using this
  have hsz2 : ((w.alloc (.cells #[.slice none 0 0, .string ⟨#[]⟩, .int .i64 0, .int .i64 0] 61)).alloc (.cells #[.slice none 0 0, .string ⟨#[]⟩, .int .i64 0, .int .i64 0] 61)).heap.size = w.heap.size + 2 := by simp
  generalize (w.alloc (.cells #[.slice none 0 0, .string ⟨#[]⟩, .int .i64 0, .int .i64 0] 61)).alloc (.cells #[.slice none 0 0, .string ⟨#[]⟩, .int .i64 0, .int .i64 0] 61) = w2 at *
  clear hb1
  refine (HSP.out w2 (HG.out.below hb2)).mono ?_
  clear HSP
  rintro e w3 ⟨c3, rfl, hb3, hs3, hp3⟩
  rw [hsz2] at hs3 hp3 ⊢
  have HP := Lib.hid hp3
  have HBW : Hid (Below w.heap.size w w3) := Lib.hid (below_then hb2 hb3)
  have HK0 : Hid (w3.heap[w.heap.size]? = some (.cells #[.slice none 0 0, .string ⟨#[]⟩, .int .i64 0, .int .i64 0] 61 (0, 0))) := Lib.hid ((hb3.block _ (by omega)).trans hz0)
  have HK1 : Hid (w3.heap[w.heap.size + 1]? = some (.cells #[.slice none 0 0, .string ⟨#[]⟩, .int .i64 0, .int .i64 0] 61 (0, 0))) := Lib.hid ((hb3.block _ (by omega)).trans hz1)
  have HS3 := Lib.hid hs3
  have HGW := Lib.hid (HG.out.below HBW.out)
  have HGN : Hid (gN ≤ w.heap.size) := Lib.hid HG.out.size
  clear hb2 hb3 hz0 hz1 hsz2 hp3 hs3 HG
  have hpl := pieces_len s
  obtain ⟨N, hN⟩ : ∃ N, N = (piecesB s).length := ⟨_, rfl⟩
  rw [← hN] at hpl ⊢
  have HN := Lib.hid hN
  clear hN
  go_wp2_with fail
  go_loopw [12] (fun i wr => ∃ k : Nat, k ≤ N ∧ i = .int .i64 k ∧ RdInv s (w.heap.size + 1) w3.heap.size w3 k wr) (fun i _ => N - (intOf i).toNat)
  case atStart => exact ⟨0, Nat.zero_le _, rfl, ⟨⟨_, HK1.out, ownT_nil _ _⟩, Kx.refl _ _ _⟩⟩
  case round =>
    obtain ⟨k, hk, rfl, ⟨⟨sv, hcell, hown⟩, hkx⟩⟩ := hrel
    obtain ⟨wo, rfl⟩ : ∃ wo : World, wo = wr := ⟨_, rfl⟩
    have HKX := Lib.hid hkx
    have HCE := Lib.hid hcell
    have HOW := Lib.hid hown
    have HGO := Lib.hid (HGW.out.kx hkx (by have := HGN.out; omega) HGW.out.size)
    clear hkx hcell hown
    by_cases hlt : k < N
    · have hlt' : k < (piecesB s).length := by rw [← HN.out]; exact hlt
      have hcellp := HP.out wo (HKX.out.block (w.heap.size + 2) HS3.out (by omega)) k hlt'
      have hx : (piecesB s)[k]? = some (piecesB s)[k] := List.getElem?_eq_getElem hlt'
      have hxs : ((piecesB s)[k]).size ≤ 16777215 := Nat.le_trans (piece_small _ _ _ _ (List.getElem_mem hlt')) HS.out
      generalize (piecesB s)[k] = x at hcellp hx hxs
      have HST := Lib.hid (rdK_next s k x hx)
      unfold stepR at HST
      have HC := Lib.hid (cut_any x wo hxs HGO.out)
      have hcl := (cut_len (bl x) [32]).2
      have hw1 := word_eq (Lib.cut (bl x) [32]).1 wNext
      have hw2 := word_eq (Lib.cut (bl x) [32]).1 wSeq
      have hw3 := word_eq (Lib.cut (bl x) [32]).1 wLog
      have hw4 := word_eq (Lib.cut (bl x) [32]).1 wSeg
      have hts : (tx (Lib.cut (bl x) [32]).2.1).size ≤ 16777215 := by rw [tx_size]; have := bl_len x; omega
      have HNU : Hid (∀ W, Gh W → Calls Tryz.prog 113 #[.string (tx (Lib.cut (bl x) [32]).2.1)] W fun e w' => e = .returned (.int .i64 (numS (Lib.cut (bl x) [32]).2.1)) ∧ Below W.heap.size W w') := Lib.hid (fun W G => by
        have := number_any (tx (Lib.cut (bl x) [32]).2.1) W hts G
        rwa [show bl (tx (Lib.cut (bl x) [32]).2.1) = (Lib.cut (bl x) [32]).2.1 from tx_list _] at this)
      generalize (Lib.cut (bl x) [32]).1 = wd at *
      generalize (Lib.cut (bl x) [32]).2.1 = te at *
      generalize (Lib.cut (bl x) [32]).2.2 = fd at *
      clear hx hxs hcl hts
      by_cases e1 : wd = wNext
      · rw [if_pos e1] at HST
        rw [decide_eq_true e1] at hw1
        unfold wNext at hw1
        clear hw2 hw3 hw4 e1
        go_wp2_with (first
          | (go_at_call 112; refine HC.out.mono ?_; rintro e w4 ⟨rfl, hb4⟩; have HC4 := Lib.hid hb4; have HG4 := Lib.hid (HGO.out.below hb4); clear hb4))
        refine (HNU.out _ HG4.out).mono ?_
        rintro e w5 ⟨rfl, hb5⟩
        have hb5' := below_then HC4.out hb5
        have HB5 := Lib.hid hb5'
        have hce := HCE.out.fresh hb5'
        have HC5 := Lib.hid hce
        obtain ⟨d0, d1, d2, d3, k0, k1, k2, k3⟩ := hce.cells
        clear hb5 hb5' hce HNU
        go_wp2_with fail
        clear d0 d1 d2 d3 k0 k1 k2 k3
        go_roundw
        case rel =>
          have hs5 : w3.heap.size ≤ wo.heap.size := HKX.out.size
          refine ⟨k + 1, by omega, congrArg _ (show (k : Int) + 1 = ((k + 1 : Nat) : Int) by omega), ⟨⟨sv, ?_, ?_⟩, ?_⟩⟩
          · rw [HST.out]; exact (setCell_row HC5.out _).trans rfl
          · rw [HST.out]; exact ownT_set (ownT_kept HOW.out HB5.out) (by have := HS3.out; omega)
          · exact (HKX.out.fresh hs5 HB5.out).set _ _
        case measure =>
          simp only [intOf]; omega
      rw [if_neg e1] at HST
      rw [decide_eq_false e1] at hw1
      unfold wNext at hw1
      clear e1
      by_cases e2 : wd = wSeq
      · rw [if_pos e2] at HST
        rw [decide_eq_true e2] at hw2
        unfold wSeq at hw2
        clear hw3 hw4 e2
        go_wp2_with (first
          | (go_at_call 112; refine HC.out.mono ?_; rintro e w4 ⟨rfl, hb4⟩; have HC4 := Lib.hid hb4; have HG4 := Lib.hid (HGO.out.below hb4); clear hb4))
        refine (HNU.out _ HG4.out).mono ?_
        rintro e w5 ⟨rfl, hb5⟩
        have hb5' := below_then HC4.out hb5
        have HB5 := Lib.hid hb5'
        have hce := HCE.out.fresh hb5'
        have HC5 := Lib.hid hce
        obtain ⟨d0, d1, d2, d3, k0, k1, k2, k3⟩ := hce.cells
        clear hb5 hb5' hce HNU
        go_wp2_with fail
        clear d0 d1 d2 d3 k0 k1 k2 k3
        go_roundw
        case rel =>
          have hs5 : w3.heap.size ≤ wo.heap.size := HKX.out.size
          refine ⟨k + 1, by omega, congrArg _ (show (k : Int) + 1 = ((k + 1 : Nat) : Int) by omega), ⟨⟨sv, ?_, ?_⟩, ?_⟩⟩
          · rw [HST.out]; exact (setCell_row HC5.out _).trans rfl
          · rw [HST.out]; exact ownT_set (ownT_kept HOW.out HB5.out) (by have := HS3.out; omega)
          · exact (HKX.out.fresh hs5 HB5.out).set _ _
        case measure =>
          simp only [intOf]; omega
      rw [if_neg e2] at HST
      rw [decide_eq_false e2] at hw2
      unfold wSeq at hw2
      clear e2 HNU
      by_cases e3 : wd = wLog
      · rw [if_pos e3] at HST
        rw [decide_eq_true e3] at hw3
        unfold wLog at hw3
        clear hw4 e3
        go_wp2_with (go_at_call 112; refine HC.out.mono ?_; rintro e w4 ⟨rfl, hb4⟩; have HB5 := Lib.hid hb4; have hce := HCE.out.fresh hb4; have HC5 := Lib.hid hce; obtain ⟨d0, d1, d2, d3, k0, k1, k2, k3⟩ := hce.cells; clear hb4 hce)
        clear d0 d1 d2 d3 k0 k1 k2 k3
        go_roundw
        case rel =>
          have hs5 : w3.heap.size ≤ wo.heap.size := HKX.out.size
          refine ⟨k + 1, by omega, congrArg _ (show (k : Int) + 1 = ((k + 1 : Nat) : Int) by omega), ⟨⟨sv, ?_, ?_⟩, ?_⟩⟩
          · rw [HST.out]; exact (setCell_row HC5.out _).trans rfl
          · rw [HST.out]; exact ownT_set (ownT_kept HOW.out HB5.out) (by have := HS3.out; omega)
          · exact (HKX.out.fresh hs5 HB5.out).set _ _
        case measure =>
          simp only [intOf]; omega
      rw [if_neg e3] at HST
      rw [decide_eq_false e3] at hw3
      unfold wLog at hw3
      clear e3
      by_cases e4 : wd = wSeg
      · rw [if_pos e4] at HST
        rw [decide_eq_true e4] at hw4
        unfold wSeg at hw4
        clear e4
        go_wp2_with (first
          | (go_at_call 112; refine HC.out.mono ?_; rintro e w4 ⟨rfl, hb4⟩; have HB5 := Lib.hid hb4; have hce := HCE.out.fresh hb4; have HC5 := Lib.hid hce; obtain ⟨d0, d1, d2, d3, k0, k1, k2, k3⟩ := hce.cells; obtain ⟨v6, w6, hr6, ho6, hb6, hk6, hz6, _⟩ := append_text (tx te) (ownT_kept HOW.out hb4) (by have := (rdK_small s HS.out k).2; omega) (Nat.le_trans HKX.out.size hb4.size); obtain ⟨p6, c6, hv6⟩ := ho6.at.form; subst hv6; have HO6 := Lib.hid ho6; have HB6 := Lib.hid hb6; have HCC6 := Lib.hid ((hk6 (w.heap.size + 1) (by have := (Array.getElem?_eq_some_iff.1 hce).1; exact this) (ownT_ne HOW.out (by have := HS3.out; omega))).trans hce); have kk0 := Lib.frozen_of_heap HCC6.out 0; have dd0 : w6.cell? ⟨w.heap.size + 1, 0, none⟩ = some sv := (by rw [Lib.cell_of_heap HCC6.out]; rfl); clear hb4 hce ho6 hb6 hk6 hz6)
          | (at_builtin; refine wpList_append_run rfl _ _ _ _ rfl _ _ _ _ rfl rfl hr6 ?_))
        clear d0 d1 d2 d3 k0 k1 k2 k3 kk0 dd0 hr6
        go_roundw
        case rel =>
          have hs5 : w3.heap.size ≤ wo.heap.size := HKX.out.size
          refine ⟨k + 1, by omega, congrArg _ (show (k : Int) + 1 = ((k + 1 : Nat) : Int) by omega), ⟨⟨.slice p6 ((rdK s k).segs.length + 1) c6, ?_, ?_⟩, ?_⟩⟩
          · rw [HST.out]; exact (setCell_row HCC6.out _).trans rfl
          · rw [HST.out]
            have ho := (congrArg (fun n => OwnT w6 w3.heap.size (.slice p6 n c6) ((rdK s k).segs ++ [tx te])) (show ((rdK s k).segs ++ [tx te]).length = (rdK s k).segs.length + 1 by simp)).mp HO6.out
            exact ownT_set ho (by have := HS3.out; omega)
          · exact ((HKX.out.fresh hs5 HB5.out).then HB6.out).set _ _
        case measure =>
          simp only [intOf]; omega
      · rw [if_neg e4] at HST
        rw [decide_eq_false e4] at hw4
        unfold wSeg at hw4
        clear e4
        go_wp2_with (go_at_call 112; refine HC.out.mono ?_; rintro e w4 ⟨rfl, hb4⟩; have HB5 := Lib.hid hb4; clear hb4)
        go_roundw
        case rel =>
          have hs5 : w3.heap.size ≤ wo.heap.size := HKX.out.size
          refine ⟨k + 1, by omega, congrArg _ (show (k : Int) + 1 = ((k + 1 : Nat) : Int) by omega), ⟨⟨sv, ?_, ?_⟩, ?_⟩⟩
          · rw [HST.out]; exact HCE.out.fresh HB5.out
          · rw [HST.out]; exact ownT_kept HOW.out HB5.out
          · exact HKX.out.fresh hs5 HB5.out
        case measure =>
          simp only [intOf]; omega
    · obtain rfl : k = N := by omega
      obtain ⟨p9, c9, rfl⟩ := HOW.out.at.form
      obtain ⟨d0, d1, d2, d3, _, _, _, _⟩ := HCE.out.cells
      have h0 : wo.heap[w.heap.size]? = some (.cells #[.slice none 0 0, .string ⟨#[]⟩, .int .i64 0, .int .i64 0] 61 (0, 0)) := (HKX.out.block _ (by have := HS3.out; omega) (by omega)).trans HK0.out
      have f0 : wo.frozen? ⟨w.heap.size, 0, none⟩ = false := Lib.frozen_of_heap h0 0
      have f1 : wo.frozen? ⟨w.heap.size, 1, none⟩ = false := Lib.frozen_of_heap h0 1
      have f2 : wo.frozen? ⟨w.heap.size, 2, none⟩ = false := Lib.frozen_of_heap h0 2
      have f3 : wo.frozen? ⟨w.heap.size, 3, none⟩ = false := Lib.frozen_of_heap h0 3
      have g0 : wo.cell? ⟨w.heap.size, 0, none⟩ = some (.slice none 0 0) := by rw [Lib.cell_of_heap h0]; rfl
      have g1 : wo.cell? ⟨w.heap.size, 1, none⟩ = some (.string ⟨#[]⟩) := by rw [Lib.cell_of_heap h0]; rfl
      have g2 : wo.cell? ⟨w.heap.size, 2, none⟩ = some (.int .i64 0) := by rw [Lib.cell_of_heap h0]; rfl
      have g3 : wo.cell? ⟨w.heap.size, 3, none⟩ = some (.int .i64 0) := by rw [Lib.cell_of_heap h0]; rfl
      have H0 := Lib.hid h0
      clear h0
      have hrd : rdK s k = rd s := by rw [HN.out]; exact rdK_all s
      have HOF : Hid (OwnT ((((wo.setCell ⟨w.heap.size, 0, none⟩ (.slice p9 (rdK s k).segs.length c9)).setCell ⟨w.heap.size, 1, none⟩ (.string (rdK s k).log)).setCell ⟨w.heap.size, 2, none⟩ (.int .i64 (rdK s k).next)).setCell ⟨w.heap.size, 3, none⟩ (.int .i64 (rdK s k).seq)) w3.heap.size (.slice p9 (rdK s k).segs.length c9) (rdK s k).segs) := Lib.hid (by
        have h3 := HS3.out
        exact ownT_set (ownT_set (ownT_set (ownT_set HOW.out (by omega)) (by omega)) (by omega)) (by omega))
      have HBF : Hid (Below w.heap.size w ((((wo.setCell ⟨w.heap.size, 0, none⟩ (.slice p9 (rdK s k).segs.length c9)).setCell ⟨w.heap.size, 1, none⟩ (.string (rdK s k).log)).setCell ⟨w.heap.size, 2, none⟩ (.int .i64 (rdK s k).next)).setCell ⟨w.heap.size, 3, none⟩ (.int .i64 (rdK s k).seq))) := Lib.hid (by
        have hb := HBW.out.trans (HKX.out.below (b0 := w.heap.size) (by omega) HBW.out.size)
        exact (((hb.setCell (p := ⟨w.heap.size, 0, none⟩) (Nat.le_refl _) _).setCell (p := ⟨w.heap.size, 1, none⟩) (Nat.le_refl _) _).setCell (p := ⟨w.heap.size, 2, none⟩) (Nat.le_refl _) _).setCell (p := ⟨w.heap.size, 3, none⟩) (Nat.le_refl _) _)
      have HRD := Lib.hid hrd
      clear hrd
      go_wp2_with fail
      refine bodyPost_ret (v := .agg #[.slice p9 (rdK s k).segs.length c9, .string (rdK s k).log, .int .i64 (rdK s k).next, .int .i64 (rdK s k).seq]) (by simp [results, Tryz.results73, go_sem, g0, g1, g2, g3]) rfl ⟨_, rfl, ?_, HBF.out⟩
      rw [← HRD.out]
      exact ⟨p9, c9, rfl, ownT_base HOF.out HBW.out.size⟩
end Mf
end Go.Proofs.YtkbdokakoapooaaGreatDoor
