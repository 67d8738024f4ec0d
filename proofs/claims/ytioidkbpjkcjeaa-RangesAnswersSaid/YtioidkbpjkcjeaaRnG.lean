/- The program's rising row of entries, and its index. Conditions: those that each theorem names. -/
import Derived.Test.YtioidkbpjkcjeaaRnF
import Derived.Laws.EntriesVeiled
namespace Go.Proofs.Ytioidkbpjkcjeaa
set_option linter.unusedVariables false
open Go Go.RowKit Go.Shelf Go.Sort
namespace Rn
set_option maxHeartbeats 1000000 in
set_option maxRecDepth 100000 in
/-- Clone of no entries at some address. -/
theorem clone_zero (a : Addr) (c : Nat) (w : World) :
    Calls Try.prog 25 #[.slice (some a) 0 c] w fun e w' => ∃ v', e = .returned v' ∧ OwnH w' w.heap.size v' [] ∧ Below w.heap.size w w' := by
  obtain ⟨i0, hi, hz0, hz1, hz2⟩ := info_of infoH
  have ht := Try.underlying22
  have hr : ∀ (W : World) ty, (Builtin.append_ #[22, 22] ty #[.slice (some ⟨w.heap.size, 0, none⟩) 0 0, .slice (some a) 0 c]).run Try.prog W = .ok (.slice (some ⟨w.heap.size, 0, none⟩) 0 0) W := fun W ty => by
    simp [Builtin.append_, run_underlying ht, sizeOf, typeInfo, hi, Builtin.lenOf, Builtin.firstCells, storeCells, loadCells, loadCellsFrom]
  have hr2 := hr (w.alloc (.cells #[] 24))
  have HF : Hid (OwnH (w.alloc (.cells #[] 24)) w.heap.size (.slice (some ⟨w.heap.size, 0, none⟩) 0 0) [] ∧ Below w.heap.size w (w.alloc (.cells #[] 24))) := Lib.hid
    ⟨⟨rfl, .inr ⟨w.heap.size, 0, #[], rfl, Nat.le_refl _, heap_last _ _, Nat.le_refl _, Nat.zero_le _, rfl, rfl⟩⟩, fresh_alloc _ _⟩
  have q22 : ∀ w, (binOp .eql 22 (.slice (some a) 0 c) (.slice none 0 0)).run Try.prog w = .ok (.bool false) w := fun w => Lib.run_eql_slice_nil w _ _ (some a) 0 c 0 0 ht
  clear hr hi hz0 hz1 hz2 ht
  go_enter Try.func25, Try.ntmps25
  go_wp2_with (first | (at_builtin; refine wpList_append_run rfl _ _ _ _ rfl _ _ _ _ rfl rfl hr2 ?_))
  go_ret
  exact ⟨_, rfl, HF.out⟩
theorem clone_all (L : List En) (v : Value) (w : World) (h : HsAt w v L) (hl : L.length * 16 ≤ 140737488355328) :
    Calls Try.prog 25 #[v] w fun e w' => ∃ v', e = .returned v' ∧ OwnH w' w.heap.size v' L ∧ Below w.heap.size w w' := by
  rcases h with ⟨rfl, p, c, rfl⟩ | ⟨g, off, c, rfl, hg, hc⟩
  · cases p with
    | none => exact clone_any [] _ w (.inl ⟨rfl, c, rfl⟩) hl
    | some a => exact clone_zero a c w
  · exact clone_any L _ w (.inr ⟨g, off, c, rfl, hg, fun W hW j u hj => hs_cells (w := W) (fun W' hW' j h => hc W' (hW'.trans hW) j h) j u hj⟩) hl
theorem compact_len (R : List En) : (Lib.compact R).length ≤ R.length := by
  unfold Lib.compact Lib.compactUpTo
  rw [List.length_map]
  exact Nat.le_trans (List.length_filter_le _ _) (by simp)
theorem compact_nil (p : Option Addr) (c : Nat) (f : Value) (w : World) :
    Calls Try.prog 30 #[.slice p 0 c, f] w fun e w' => e = .returned (.slice p 0 c) ∧ w' = w := by
  go_enter Try.func30, Try.ntmps30
  go_wp2
  go_ret
  exact ⟨rfl, rfl⟩
/-- A frame over one block of one's own. -/
theorem gr_below {B g : Nat} {w w' : World} (h : Gr (one' g) w w') (hg : B ≤ g) (hB : B ≤ w.heap.size) : Below B w w' :=
  ⟨h.os, h.tape, h.output, h.size, fun k hk => h.block k (Nat.lt_of_lt_of_le hk hB) (fun e => by have : k = g := e; omega)⟩
theorem compact_own (R : List En) (v : Value) (B X : Nat) (w : World) (h : OwnH w B v R) (hX : X < B) (hm : w.cell? ⟨X, 0, none⟩ = some cmpV) (hB : B ≤ w.heap.size) (hsz : R.length ≤ 1125899906842624) :
    Calls Try.prog 30 #[v, fnV X] w fun e w' => ∃ u, e = .returned u ∧ OwnH w' B u (Lib.compact R) ∧ Below B w w' := by
  rcases Nat.eq_zero_or_pos R.length with h0 | h0
  · have hR : R = [] := List.length_eq_zero_iff.mp h0
    subst hR
    obtain ⟨p, c, rfl⟩ := own_nil h
    refine (compact_nil p c _ w).mono ?_
    rintro e w' ⟨rfl, rfl⟩
    exact ⟨_, rfl, by rw [compact_short (by simp)]; exact h, Below.refl _ _⟩
  · obtain ⟨g, cap, rfl, hb, hg, hc⟩ := own_at h h0
    refine (compact_any R B X g cap w ⟨hm, h, by omega, by omega⟩ hsz).mono ?_
    rintro e w' ⟨rfl, ho, hgr⟩
    exact ⟨_, rfl, ho, gr_below hgr hb hB⟩
/-- The box of the order, and the result's block behind it. -/
abbrev boxO : Obj := .cells #[cmpV] 41
abbrev rowO (f v : Value) : Obj := .cells #[f, v] 43
theorem two_new (w : World) : Below w.heap.size w ((w.alloc boxO).alloc (rowO .nilFunc (.slice none 0 0))) ∧ ((w.alloc boxO).alloc (rowO .nilFunc (.slice none 0 0))).heap.size = w.heap.size + 2 ∧
    ((w.alloc boxO).alloc (rowO .nilFunc (.slice none 0 0))).heap[w.heap.size]? = some boxO ∧ ((w.alloc boxO).alloc (rowO .nilFunc (.slice none 0 0))).heap[w.heap.size + 1]? = some (rowO .nilFunc (.slice none 0 0)) := by
  have hs : (w.alloc boxO).heap.size = w.heap.size + 1 := by simp
  refine ⟨((Below.refl _ w).alloc (Nat.le_refl _) _).alloc (by simp) _, by simp, (heap_old _ _ (by omega)).trans (heap_last _ _), ?_⟩
  have := heap_last (w.alloc boxO) (rowO .nilFunc (.slice none 0 0))
  rw [hs] at this
  exact this
theorem own_same {w w' : World} {B : Nat} {v : Value} {R : List En} (h : OwnH w B v R) (hs : ∀ k, B ≤ k → w'.heap[k]? = w.heap[k]?) : OwnH w' B v R := by
  refine ⟨h.1, ?_⟩
  rcases h.2 with x | ⟨g', cap', cur, e, hb, hg, r⟩
  · exact .inl x
  · exact .inr ⟨g', cap', cur, e, hb, (hs _ hb).trans hg, r⟩
section
variable {w : World} {Y : Nat} {a b : Value} {T : TypeId}
theorem setC0 (h : w.heap[Y]? = some (.cells #[a, b] T (0, 0))) (v : Value) : (w.setCell ⟨Y, 0, none⟩ v).heap[Y]? = some (.cells #[v, b] T (0, 0)) := by simpa using heap_setCell_same w Y 0 _ _ v h
theorem setC1 (h : w.heap[Y]? = some (.cells #[a, b] T (0, 0))) (v : Value) : (w.setCell ⟨Y, 1, none⟩ v).heap[Y]? = some (.cells #[a, v] T (0, 0)) := by simpa using heap_setCell_same w Y 1 _ _ v h
theorem set1 (h : w.heap[Y]? = some (.cells #[a, b] T (0, 0))) (v : Value) : (w.setCell ⟨Y, 0, none⟩ v).cell? ⟨Y, 1, none⟩ = some b := (two_cells (setC0 h v)).2
/-- Both cells of a block are written. -/
theorem set_both (h : w.heap[Y]? = some (.cells #[a, b] T (0, 0))) (u v : Value) :
    ((w.setCell ⟨Y, 0, none⟩ u).setCell ⟨Y, 1, none⟩ v).cell? ⟨Y, 0, none⟩ = some u ∧ ((w.setCell ⟨Y, 0, none⟩ u).setCell ⟨Y, 1, none⟩ v).cell? ⟨Y, 1, none⟩ = some v ∧
    ((w.setCell ⟨Y, 0, none⟩ u).setCell ⟨Y, 1, none⟩ v).heap.size = w.heap.size ∧ ∀ k, k ≠ Y → ((w.setCell ⟨Y, 0, none⟩ u).setCell ⟨Y, 1, none⟩ v).heap[k]? = w.heap[k]? := by
  have h2 := setC1 (setC0 h u) v
  exact ⟨(two_cells h2).1, (two_cells h2).2, by simp [World.setCell], fun k hk => by rw [heap_setCell_other _ _ _ _ hk, heap_setCell_other _ _ _ _ hk]⟩
end
set_option maxHeartbeats 2000000 in
set_option maxRecDepth 100000 in
theorem rising_any (l : List En) (v : Value) (w : World) (h : HsAt w v l) (hl : l.length * 16 ≤ 140737488355328) :
    Calls Try.prog 20 #[v, cmpV] w fun e w' => ∃ u, e = .returned (.agg #[cmpV, u]) ∧ OwnH w' w.heap.size u (can l) ∧ Below w.heap.size w w' := by
  obtain ⟨t1, t2, t3, t4⟩ := two_new w
  have HCL := Lib.hid (clone_all l v _ (h.below t1) hl)
  have hx0 : ((w.alloc boxO).alloc (rowO .nilFunc (.slice none 0 0))).cell? ⟨w.heap.size, 0, none⟩ = some cmpV := by rw [Lib.cell_of_heap t3]; rfl
  have HT := Lib.hid t1
  have HT2 := Lib.hid t2
  have HT4 := Lib.hid t4
  have HX0 := Lib.hid hx0
  have HS : Hid (∀ (B : Nat) (u : Value) (W : World), OwnH W B u l → B ≤ W.heap.size → Calls Try.prog 28 #[u, cmpV] W fun e w' => e = .returned (.tuple #[]) ∧ OwnH w' B u (srt l) ∧ Below B W w') := Lib.hid (fun B u W ho hB => sortfunc_any l u B W ho hB hl)
  have HC : Hid (∀ (B X : Nat) (u : Value) (W : World), OwnH W B u (srt l) → X < B → W.cell? ⟨X, 0, none⟩ = some cmpV → B ≤ W.heap.size → Calls Try.prog 30 #[u, fnV X] W fun e w' => ∃ u, e = .returned u ∧ OwnH w' B u (can l) ∧ Below B W w') := Lib.hid (fun B X u W ho hX hm hB => by
    have := compact_own (srt l) u B X W ho hX hm hB (by rw [(srt_perm l).length_eq]; omega)
    rwa [compact_srt] at this)
  clear t1 t2 t3 t4 hx0 h hl
  unfold cmpV
  go_enter Try.func20, Try.ntmps20
  go_wp2_with fail
  generalize hW0 : (w.alloc (.cells #[(.func (.func 21) #[] #[])] 41)).alloc (.cells #[.nilFunc, .slice none 0 0] 43) = W0 at *
  refine HCL.out.mono ?_
  rintro e w1 ⟨u, rfl, ho, hb⟩
  rw [HT2.out] at ho hb
  have hx1 : w1.cell? ⟨w.heap.size, 0, none⟩ = some (.func (.func 21) #[] #[]) := (hb.cell (p := ⟨w.heap.size, 0, none⟩) (by show w.heap.size < _; omega)).trans HX0.out
  have HX1 := Lib.hid hx1
  have h41 : Hid (w1.heap[w.heap.size + 1]? = some (rowO .nilFunc (.slice none 0 0))) := Lib.hid ((hb.block _ (by omega)).trans HT4.out)
  have hz1 : w.heap.size + 2 ≤ w1.heap.size := by have := hb.size; have := HT2.out; omega
  have HS1 := Lib.hid (HS.out (w.heap.size + 2) u w1 ho hz1)
  have HZ1 := Lib.hid hz1
  have HB1 := Lib.hid (HT.out.trans (hb.mono (by omega)))
  clear ho hb hz1 HCL HS HX0 HT HT2 HT4
  go_wp2_with fail
  refine HS1.out.mono ?_
  rintro e w2 ⟨rfl, ho, hb⟩
  have hx2 : w2.cell? ⟨w.heap.size, 0, none⟩ = some (.func (.func 21) #[] #[]) := (hb.cell (p := ⟨w.heap.size, 0, none⟩) (by show w.heap.size < _; omega)).trans HX1.out
  have h42 := (hb.block (w.heap.size + 1) (by omega)).trans h41.out
  have hz2 := Nat.le_trans HZ1.out hb.size
  have HC2 := Lib.hid (HC.out (w.heap.size + 2) w.heap.size u w2.drew (own_gn ho (Gn.refl _).drew) (by omega) hx2 hz2)
  have HB2 := Lib.hid (HB1.out.trans (hb.mono (by omega)))
  have HX2 := Lib.hid hx2
  have H42 := Lib.hid h42
  have HZ2 := Lib.hid hz2
  have hx2d : w2.drew.cell? ⟨w.heap.size, 0, none⟩ = some (.func (.func 21) #[] #[]) := hx2
  clear ho hb hx1 h41 HC HS1 HX1 HZ1 HB1 h42 hz2
  have mixed : Try.prog.follows .mixedOrders = true := by kernel_rfl
  unfold fnV at HC2
  go_wp2_with fail
  go_region_with (go_at_call 30; refine HC2.out.mono ?_; rintro e w3 ⟨u3, rfl, ho3, hb3⟩; obtain ⟨p3, c3, rfl⟩ := (own_entries ho3).form; (have hx3 : w3.cell? ⟨w.heap.size, 0, none⟩ = some (.func (.func 21) #[] #[]) := (hb3.cell (p := ⟨w.heap.size, 0, none⟩) (by show w.heap.size < _; omega)).trans HX2.out); (have h43 : w3.heap[w.heap.size + 1]? = some (rowO .nilFunc (.slice none 0 0)) := (hb3.block (w.heap.size + 1) (by omega)).trans H42.out); have y0 := (two_cells h43).1; have y1 := set1 h43; have z0 := Lib.frozen_of_heap h43 0; have z1 := fun v => Lib.frozen_of_heap (setC0 h43 v) 1)
  all_goals
    obtain ⟨q0, q1, q2, q3⟩ := set_both h43 (.func (.func 21) #[] #[]) (.slice p3 (can l).length c3)
    have HF : Hid (OwnH ((w3.setCell ⟨w.heap.size + 1, 0, none⟩ (.func (.func 21) #[] #[])).setCell ⟨w.heap.size + 1, 1, none⟩ (.slice p3 (can l).length c3)) w.heap.size (.slice p3 (can l).length c3) (can l) ∧ Below w.heap.size w ((w3.setCell ⟨w.heap.size + 1, 0, none⟩ (.func (.func 21) #[] #[])).setCell ⟨w.heap.size + 1, 1, none⟩ (.slice p3 (can l).length c3))) := Lib.hid
      ⟨Go.Joins.ownsRow_le (own_same ho3 (fun k hk => q3 k (by omega))) (by omega), ((HB2.out.drew.trans (hb3.mono (by omega))).setCell (p := ⟨w.heap.size + 1, 0, none⟩) (by show w.heap.size ≤ w.heap.size + 1; omega) _).setCell (p := ⟨w.heap.size + 1, 1, none⟩) (by show w.heap.size ≤ w.heap.size + 1; omega) _⟩
    clear ho3 hb3 h43 y0 y1 z0 z1 q2 q3 hx3 hW0
    generalize (w3.setCell ⟨w.heap.size + 1, 0, none⟩ (.func (.func 21) #[] #[])).setCell ⟨w.heap.size + 1, 1, none⟩ (.slice p3 (can l).length c3) = w4 at *
    go_wp2_with fail
    refine bodyPost_ret (v := .agg #[(.func (.func 21) #[] #[]), .slice p3 (can l).length c3]) (by simp [results, Try.results20, go_sem, q0, q1]) rfl ?_
    exact ⟨_, rfl, HF.out⟩
end Rn
end Go.Proofs.Ytioidkbpjkcjeaa
