/- topk's Sort. Conditions: those that each theorem names. -/
import Derived.Test.YtfgmkdghpdpdkaaTkB
import Derived.Test.YtfgmkdghpdpdkaaTkLay
import Derived.Laws.OwnMore
namespace Go.Proofs.Ytfgmkdghpdpdkaa
namespace Tq
set_option linter.unusedVariables false
open Go Go.RowKit Go.Shelf Go.Sort Tk
theorem sort1_enters : ∀ args w, (callFunc 65 args).run Try.prog w = .ok (.enter 65 args) w := enters_of Try.func65 (by kernel_rfl) rfl
set_option maxHeartbeats 1000000 in
set_option maxRecDepth 100000 in
theorem sort1_any (m : Int) (X : Nat) (a b : Ht) (w : World) (hX : X < w.heap.size) (hm : w.cell? ⟨X, 0, none⟩ = some (.int .i64 m)) :
    Calls Try.prog 65 #[hv a, hv b, .pointer (some ⟨X, 0, none⟩)] w fun e w' => e = .returned (.int .i64 (cfH m a b)) ∧ Gn w w' := by
  obtain ⟨⟨a0, a1⟩, ⟨b0, b1⟩, hbe⟩ := two_boxes w a b
  have hm1 := hbe.below.cell (p := ⟨X, 0, none⟩) hX
  rw [hm] at hm1
  obtain ⟨ia, sa⟩ := a
  obtain ⟨ib, sb⟩ := b
  simp only at a0 a1 b0 b1
  have HC := Lib.hid (fun W => order_any m (ia, sa) (ib, sb) W)
  have HB := Lib.hid hbe
  generalize cfH m (ia, sa) (ib, sb) = r at *
  clear hbe hm
  go_enter Try.func65, Try.ntmps65
  go_wp2_with fail
  refine (HC.out _).mono ?_
  rintro e w2 ⟨rfl, hg⟩
  have HG := Lib.hid (HB.out.trans hg)
  clear hg a0 a1 b0 b1 hm1
  go_wp2_with fail
  go_ret
  exact ⟨rfl, HG.out⟩
/-! ### A row as the library's sort sees it -/
def encH (x : Ht) : List Value := [.int .i64 x.1, .int .i64 x.2]
theorem flat_hCells (L : List Ht) : flatK encH 2 L.toArray = (hCells L).toArray := by
  refine ext_get! (by rw [size_flatK]; simp [hCells_len]) fun t ht => ?_
  rw [size_flatK, List.size_toArray] at ht
  rw [get_flatK _ _ _ _ (by simpa using ht)]
  have hq : t / 2 < L.length := by omega
  obtain ⟨a0, a1⟩ := hCells_at L (t / 2) hq
  have h0 : L.toArray[t / 2]! = L[t / 2] := by simp [hq]
  rw [h0]
  have hs : ∀ i v, (hCells L)[i]? = some v → (hCells L).toArray[i]! = v := fun i v h => by
    have hi : i < (hCells L).length := (List.getElem?_eq_some_iff.1 h).1
    rw [getElem!_pos _ i (by simpa using hi)]
    simpa using (List.getElem?_eq_some_iff.1 h).2
  rcases (by omega : t % 2 = 0 ∨ t % 2 = 1) with h | h
  · rw [show t / 2 * 2 = t by omega] at a0
    rw [h, hs t _ a0]
    simp [encH]
  · rw [show t / 2 * 2 + 1 = t by omega] at a1
    rw [h, hs t _ a1]
    simp [encH]
section
variable {w : World} {base g n cap : Nat} {L : List Ht}
theorem own_holds (h : OwnH w base (.slice (some ⟨g, 0, none⟩) L.length cap) L) : HoldsK encH 2 w g 0 L.toArray := by
  unfold HoldsK
  rw [flat_hCells]
  intro j hj
  have hj' : j < (hCells L).length := by simpa using hj
  have hl := hCells_len L
  refine ⟨?_, h.frozenAt _⟩
  rw [Nat.zero_add, h.cellAt j (by omega), List.getElem?_eq_getElem hj']
  simp [hj']
theorem own_sorted {q : Nat} {os : Array Obj} {ys : List Ht} (h : OwnH w base (.slice (some ⟨g, 0, none⟩) L.length cap) L) (hy : ys.length = L.length) :
    OwnH (sortWorldK encH 2 w g 0 q ys.toArray os) base (.slice (some ⟨g, 0, none⟩) L.length cap) ys := by
  have hlg := (h.lt g rfl).2
  rcases h.2 with ⟨e0, _⟩ | ⟨g', cap', cur, e0, hb, hg, hn, hm, hs, ht⟩
  · cases e0
  · injection e0 with e1 _ e3
    injection e1 with e1
    injection e1 with e1
    subst e1; subst e3
    have hl := hCells_len ys
    show World.ownsRow _ _ _ _ _ _ _
    rw [hy]
    refine ⟨by rw [hl, hy], .inr ⟨g, cap, putCells id 0 (hCells ys).toArray cur, rfl, hb, ?_, hn, hm, by simpa [putCells] using hs, ?_⟩⟩
    · show (grow (putRowK encH 2 (Sort.ahead w q) g 0 ys.toArray) os).heap[g]? = _
      unfold putRowK
      rw [flat_hCells]
      show ((putRow id (Sort.ahead w q) g 0 (hCells ys).toArray).heap ++ os)[g]? = _
      rw [Array.getElem?_append_left (by simp [putRow, mapBlock, Sort.ahead]; exact hlg)]
      simp [putRow, mapBlock, Sort.ahead, Array.getElem?_modify, hg, onCells]
    · apply List.ext_getElem?
      intro j
      rw [List.getElem?_take, Array.getElem?_toList]
      by_cases hj : j < L.length * 2
      · have hjc : j < cur.size := by rw [hs]; have := Nat.mul_le_mul_right 2 hn; omega
        have hjy : j < (hCells ys).length := by rw [hl, hy]; exact hj
        simp only [if_pos hj, putCells, Array.getElem?_mapIdx, Array.getElem?_eq_getElem hjc, Option.map_some]
        rw [if_pos (by simp; exact hjy), List.getElem?_eq_getElem hjy]
        simp [hjy]
      · rw [if_neg hj, List.getElem?_eq_none (by rw [hl, hy]; omega)]
theorem below_sorted {B q : Nat} {w0 : World} {os : Array Obj} {d : Array Ht} (h : Below B w0 w) (hg : B ≤ g) (hB : B ≤ w.heap.size) : Below B w0 (sortWorldK encH 2 w g 0 q d os) := by
  have h1 : Below B w0 (putRowK encH 2 (Sort.ahead w q) g 0 d) := ⟨h.os, h.tape, h.output, by simpa [putRowK, putRow, mapBlock, Sort.ahead] using h.size, fun k hk => by
    rw [← h.block k hk]
    simp [putRowK, putRow, mapBlock, Sort.ahead, Array.getElem?_modify, show g ≠ k by omega]⟩
  have h2 : Gn (putRowK encH 2 (Sort.ahead w q) g 0 d) (sortWorldK encH 2 w g 0 q d os) := ⟨0, os, rfl⟩
  exact h1.trans (h2.below.mono (by simpa [putRowK, putRow, mapBlock, Sort.ahead] using hB))
end
/-- A row of hits whose address is plain. -/
def HsP (w : World) (v : Value) (L : List Ht) : Prop :=
  (L = [] ∧ ∃ c, v = .slice none 0 c) ∨ ∃ g off c, v = .slice (some ⟨g, off, none⟩) L.length c ∧ g < w.heap.size ∧
    ∀ W : World, W.heap[g]? = w.heap[g]? → ∀ j u, (hCells L)[j]? = some u → W.cell? ⟨g, off + j, none⟩ = some u
theorem own_hsP {w : World} {base : Nat} {v : Value} {L : List Ht} (h : OwnH w base v L) : HsP w v L := by
  rcases h.2 with ⟨rfl, h0⟩ | ⟨g, cap, cur, rfl, hb, hg, h1, h2, h3, h4⟩
  · exact .inl ⟨List.length_eq_zero_iff.mp h0, 0, rfl⟩
  · refine .inr ⟨g, 0, cap, rfl, (h.lt g rfl).2, fun W hW j u hj => ?_⟩
    have hj' : j < L.length * 2 := by
      rw [← hCells_len]; exact (List.getElem?_eq_some_iff.1 hj).1
    rw [Nat.zero_add, Lib.cell_of_heap (hW.trans hg), ← hj, ← h4, List.getElem?_take, if_pos hj', Array.getElem?_toList]
theorem HsP.below {w w' : World} {v : Value} {L : List Ht} (h : HsP w v L) (g : Below w.heap.size w w') : HsP w' v L := by
  rcases h with h | ⟨b, off, c, rfl, hb, hc⟩
  · exact .inl h
  · exact .inr ⟨b, off, c, rfl, Nat.lt_of_lt_of_le hb g.size, fun W hW => hc W (hW.trans (g.block b hb))⟩
theorem clone_any (L : List Ht) (v : Value) (w : World) (h : HsP w v L) (hl : L.length * 16 ≤ 140737488355328) :
    Calls Try.prog 63 #[v] w fun e w' => ∃ v', e = .returned v' ∧ OwnH w' w.heap.size v' L ∧ Below w.heap.size w w' := by
  rcases h with ⟨rfl, c, rfl⟩ | ⟨g, off, c, rfl, hg, hc⟩
  · have hcon := AnyE.slices_Clone_nil Try.cloneH 0 c w
    change Calls Try.prog 63 _ _ _ at hcon
    refine hcon.mono ?_
    rintro e w' ⟨rfl, rfl⟩
    exact ⟨_, rfl, World.ownsRow_nil _ _ _ _, Below.refl _ _⟩
  · obtain ⟨i0, hi, hz0, hz1, hz2⟩ := info_of infoH
    have hcon := AnyE.slices_Clone Try.cloneH i0 _ 2 16 hi hz0 hz1 hz2 rfl (by decide) Try.sizeOf53 g off L.length c (hCells L) w (hCells_len L) (by unfold maxLen; omega) hl (hc w rfl) (hCells_one L)
    change Calls Try.prog 63 _ _ _ at hcon
    refine hcon.mono ?_
    rintro e w' ⟨v', rfl, ho, _, hb⟩
    exact ⟨v', rfl, ho, hb⟩
theorem sortfunc_any (m : Int) (hk : knownB m = true) (X : Nat) (L : List Ht) (v : Value) (base : Nat) (w : World) (h : OwnH w base v L) (hX : X < base) (hB : base ≤ w.heap.size) (hm : w.cell? ⟨X, 0, none⟩ = some (.int .i64 m)) (hl : L.length * 16 ≤ 140737488355328) :
    Calls Try.prog 64 #[v, .func (.func 65) #[] #[.pointer (some ⟨X, 0, none⟩)]] w fun e w' => e = .returned (.tuple #[]) ∧ OwnH w' base v (srt m L) ∧ Below base w w' := by
  rcases Nat.eq_zero_or_pos L.length with h0 | h0
  · have hL : L = [] := List.length_eq_zero_iff.mp h0
    subst hL
    obtain ⟨p, c, rfl⟩ := own_nil h
    have hcon := AnyF.slices_SortFunc_none { Try.sortH with } p c (.func (.func 65) #[] #[.pointer (some ⟨X, 0, none⟩)]) w
    change Calls Try.prog 64 _ _ _ at hcon
    refine hcon.mono ?_
    rintro e w' ⟨rfl, rfl⟩
    exact ⟨rfl, by simpa [srt] using h, Below.refl _ _⟩
  · obtain ⟨g, cap, rfl, hb, hg, hc⟩ := own_at h h0
    have hcmp : CmpLays Try.prog 65 #[.pointer (some ⟨X, 0, none⟩)] encH 2 (cfH m) g 0 L.toArray.size w := by
      intro q os dk hs x y
      have hg' : X < (sortWorldK encH 2 w g 0 q dk os).heap.size := by
        show X < ((putRowK encH 2 (Sort.ahead w q) g 0 dk).heap ++ os).size
        simp [putRowK, putRow, mapBlock, Sort.ahead]
        omega
      have hcell : (sortWorldK encH 2 w g 0 q dk os).cell? ⟨X, 0, none⟩ = some (.int .i64 m) := by
        unfold sortWorldK
        rw [cell?_grow _ _ _ (by show X < _; simp [putRowK, putRow, mapBlock, Sort.ahead]; omega), cell?_putRowK_other _ _ _ _ _ _ _ (by show X ≠ g; omega)]
        exact hm
      exact sort1_any m X x y _ hg' hcell
    have hcon := AnyQ.slices_SortFunc_total Try.sortH 2 Try.isAgg53 Try.sizeOf53 encH (fun _ => rfl) (fun x u hu => by simp [encH] at hu; rcases hu with rfl | rfl <;> rfl) (cfH m) (swo m) 65 #[.pointer (some ⟨X, 0, none⟩)] g 0 cap L.toArray w sort1_enters hcmp (own_holds h) hg (by simp; omega) (ltH_both hk)
    change Calls Try.prog 64 _ _ _ at hcon
    rw [List.size_toArray] at hcon
    refine hcon.mono ?_
    rintro e w' ⟨rfl, q, os, rfl⟩
    have hy : (srt m L).length = L.length := (srt_perm m L).length_eq
    refine ⟨rfl, ?_, below_sorted (Below.refl _ w) hb hB⟩
    have := own_sorted (q := q) (os := os) h hy
    exact this
set_option maxHeartbeats 1000000 in
set_option maxRecDepth 100000 in
theorem sort_any (m : Int) (L : List Ht) (v : Value) (w : World) (h : HsP w v L) (hl : L.length * 16 ≤ 140737488355328) :
    Calls Try.prog 54 #[.int .i64 m, v] w fun e w' => ∃ u, e = .returned u ∧ OwnH w' w.heap.size u (sortH m L) ∧ Below w.heap.size w w' := by
  have HB := Lib.hid (fresh_alloc w (.cells #[.int .i64 m] 3))
  have HC := Lib.hid (clone_any L v _ (h.below (fresh_alloc w (.cells #[.int .i64 m] 3))) hl)
  have HK := Lib.hid (fun W => known_any m W)
  have hz := heap_last w (.cells #[.int .i64 m] 3)
  have hc0 : (w.alloc (.cells #[.int .i64 m] 3)).cell? ⟨w.heap.size, 0, none⟩ = some (.int .i64 m) := by rw [Lib.cell_of_heap hz]; rfl
  have hzz : (w.alloc (.cells #[.int .i64 m] 3)).heap.size = w.heap.size + 1 := by simp
  unfold sortH
  obtain ⟨p, n, c, rfl⟩ : ∃ p n c, v = .slice p n c := by
    rcases h with ⟨_, c, rfl⟩ | ⟨g, off, c, rfl, _⟩
    · exact ⟨_, _, _, rfl⟩
    · exact ⟨_, _, _, rfl⟩
  cases hk : knownB m with
  | false =>
    rw [hk] at HK
    clear h hl HC hz
    go_enter Try.func54, Try.ntmps54
    go_wp2_with (go_at_call 62; refine (HK.out _).mono ?_; rintro e w1 ⟨rfl, rfl⟩)
    go_ret
    exact ⟨_, rfl, World.ownsRow_nil _ _ _ _, HB.out⟩
  | true =>
    rw [hk] at HK
    have HF := Lib.hid (fun (u : Value) (W : World) (b : Below w.heap.size w W) (hs : (w.alloc (.cells #[.int .i64 m] 3)).heap.size ≤ W.heap.size) (ho : OwnH W (w.heap.size + 1) u L) hm => sortfunc_any m hk w.heap.size L u (w.heap.size + 1) W ho (Nat.lt_succ_self _) (by omega) hm hl)
    have HC0 := Lib.hid hc0
    have HZ := Lib.hid hzz
    clear h hl hz hzz hk
    go_enter Try.func54, Try.ntmps54
    go_wp2_with (go_at_call 62; refine (HK.out _).mono ?_; rintro e w1 ⟨rfl, rfl⟩)
    refine HC.out.mono ?_
    rintro e w2 ⟨u, rfl, ho, hb⟩
    have hb1 : Below (w.heap.size + 1) (w.alloc (.cells #[.int .i64 m] 3)) w2 := by rw [HZ.out] at hb; exact hb
    have hm2 : w2.cell? ⟨w.heap.size, 0, none⟩ = some (.int .i64 m) := (hb1.cell (p := ⟨w.heap.size, 0, none⟩) (Nat.lt_succ_self _)).trans HC0.out
    have HB2 := Lib.hid (HB.out.trans (hb1.mono (Nat.le_succ _)))
    rw [HZ.out] at ho
    have HF2 := Lib.hid (HF.out u w2 HB2.out hb.size ho hm2)
    clear ho hb hb1 hm2
    go_wp2_with fail
    refine HF2.out.mono ?_
    rintro e w3 ⟨rfl, ho, hb⟩
    have HB3 := Lib.hid (HB2.out.trans (hb.mono (Nat.le_succ _)))
    have HO := Lib.hid (Go.Joins.ownsRow_le ho (Nat.le_succ _))
    clear ho hb
    go_wp2_with fail
    go_ret
    exact ⟨_, rfl, HO.out, HB3.out⟩
end Tq
end Go.Proofs.Ytfgmkdghpdpdkaa
