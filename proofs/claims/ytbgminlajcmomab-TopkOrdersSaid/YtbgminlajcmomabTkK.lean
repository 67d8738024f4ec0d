/- The heap of hits: push, replace. Conditions: those that each theorem names. -/
import Derived.Test.YtbgminlajcmomabTkD
import Derived.Test.YtbgminlajcmomabTkI
import Derived.Test.YtbgminlajcmomabTkJ
import Derived.Deep.RegionLaw
import Derived.OneCell
namespace Go.Proofs.Ytbgminlajcmomab
set_option linter.unusedVariables false
open Go Go.RowKit Go.Shelf Go.Sort Go.Maps Tk
theorem sw_zero {R : List Ht} {x : Ht} : (R.set 0 x).length = R.length := by simp
section
variable {w : World} {base B X M : Nat} {m : Int} {K : Nat} {rv : Value} {R Q : List Ht}
/-- A Best's heap. -/
theorem BestAt.heap {g cap : Nat} (h : BestAt w base B X M m K rv R Q) (hr : rv = .slice (some ⟨g, 0, none⟩) R.length cap) : HpM w B X g cap m R := by
  subst hr
  obtain ⟨c0, c1, c2, c3, c4⟩ := h.cells
  exact ⟨c2, c3, h.met, Go.Joins.ownsRow_le h.own (Nat.zero_le _), fun e => h.gB (by rw [e]; rfl), fun e => h.gX (by rw [e]; rfl), h.ltB, h.ltX⟩
/-- What push and replace leave: the rows alone. -/
def RowsP (w : World) (base B X : Nat) (m : Int) (K : Nat) (M : Nat) (rv : Value) (R : List Ht) (w' : World) : Prop :=
  ∃ rv' R', w'.heap[B]? = some (.cells #[.int .i64 m, .int .i64 K, .func (.func 28) #[] #[.pointer (some ⟨X, 0, none⟩)], rv', .map (some M)] 54 (0, 0)) ∧ OwnH w' base rv' R' ∧ Heap m R' ∧ R'.Perm R ∧ (rv'.ownBlock = rv.ownBlock ∨ ∃ g, rv'.ownBlock = some g ∧ w.heap.size ≤ g) ∧ Gr (fun b => b = B ∨ rv.ownBlock = some b) w w'
theorem hp_own {g cap : Nat} {L : List Ht} (H : HpM w B X g cap m L) (hb : base ≤ g) : OwnH w base (.slice (some ⟨g, 0, none⟩) L.length cap) L := by
  refine ⟨H.own.1, ?_⟩
  rcases H.own.2 with ⟨e, _⟩ | ⟨g', cap', cur, e, _, r⟩
  · cases e
  · refine .inr ⟨g', cap', cur, e, ?_, r⟩
    injection e with e1
    injection e1 with e1
    injection e1 with e1
    omega
theorem rows_of {w' : World} {g cap : Nat} {R' R0 : List Ht} (h : BestAt w base B X M m K (.slice (some ⟨g, 0, none⟩) R.length cap) R Q) (H : HpM w' B X g cap m R') (hg : base ≤ g) (hl : R'.length = R.length) (hh : Heap m R') (hp : R'.Perm R0) (G : Gr (one' g) w w') :
    RowsP w base B X m K M (.slice (some ⟨g, 0, none⟩) R.length cap) R0 w' :=
  ⟨.slice (some ⟨g, 0, none⟩) R'.length cap, R', by rw [hl, G.block B h.ltB (fun e => H.neB e.symm)]; exact h.blk, hp_own H hg, hh, hp, .inl rfl, G.mono (fun b _ e => .inr (by rw [show b = g from e]; rfl))⟩
set_option maxHeartbeats 2000000 in
set_option maxRecDepth 100000 in
theorem replace_any (h : BestAt w base B X M m K rv R Q) (x : Ht) (h0 : 0 < R.length) (hl : R.length ≤ 1125899906842624) :
    Calls Try.prog 30 #[.pointer (some ⟨B, 2, none⟩), hv x] w fun e w' => e = .returned (.tuple #[]) ∧ RowsP w base B X m K M rv (R.set 0 x) w' := by
  have mixed : Try.prog.follows .mixedOrders = true := by kernel_rfl
  obtain ⟨g, cap, rfl, hb, hg, hc⟩ := own_at h.own h0
  have H0 := Lib.hid h
  have hw := h.gn ((Gn.refl w).alloc (hobj x))
  have HM := Lib.hid (hw.heap rfl)
  obtain ⟨d0, d1⟩ := two_cells (heap_last w (hobj x))
  obtain ⟨xi, xs⟩ := x
  have f3 := HM.out.rows
  obtain ⟨a0, a1⟩ := HM.out.at (i := 0) h0
  have z0 := HM.out.own.frozenAt 0
  have z1 := HM.out.own.frozenAt 1
  have HX := Lib.hid (HM.out.set 0 (xi, xs))
  have HX2 := Lib.hid h.hp
  have hgB : Hid (Gr (one' g) w (w.alloc (hobj (xi, xs)))) := Lib.hid ((Gn.refl w).alloc _).gr
  have HGB := Lib.hid hb
  have hgl : ¬ g = w.heap.size := by omega
  have hgl' : ¬ w.heap.size = g := by omega
  have hpz : (0 : Int) < (R.length : Int) := by omega
  have HH0 := Lib.hid h0
  have HL := Lib.hid hl
  simp only [Nat.zero_mul, Nat.zero_add] at a0 a1 HX
  clear h hw hc hb hl h0
  generalize hn : R.length = n at *
  go_enter Try.func30, Try.ntmps30
  go_wp2_with fail
  generalize hW : w.alloc (hobj (xi, xs)) = W at *
  go_region
  have HM2 : Hid (HpM (((W.setCell ⟨g, 0, none⟩ (.int .i64 xi)).setCell ⟨g, 1, none⟩ (.int .i64 xs)).drew) B X g cap m (R.set 0 (xi, xs))) := Lib.hid (HX.out.gn (Gn.refl _).drew)
  have HG2 : Hid (Gr (one' g) w (((W.setCell ⟨g, 0, none⟩ (.int .i64 xi)).setCell ⟨g, 1, none⟩ (.int .i64 xs)).drew)) := Lib.hid (gr_set (gr_set hgB.out _ _) _ _).drew
  clear a0 a1 z0 z1 f3 d0 d1 HX HM hgB
  generalize ((W.setCell ⟨g, 0, none⟩ (.int .i64 xi)).setCell ⟨g, 1, none⟩ (.int .i64 xs)).drew = W2 at *
  have HS := Lib.hid (sink_any m B X g cap (R.set 0 (xi, xs)) W2 HM2.out (by rw [List.length_set, hn]; exact HH0.out) (HX2.out.put (xi, xs) (by rw [hn]; exact HH0.out)) (by rw [List.length_set, hn]; exact HL.out))
  go_wp2_with fail
  refine HS.out.mono ?_
  rintro e w3 ⟨rfl, R', HR, hh, hp, hg3⟩
  have HF := Lib.hid (rows_of (R0 := R.set 0 (xi, xs)) (by rw [hn]; exact H0.out) HR HGB.out (by rw [hp.length_eq, List.length_set]) hh hp (HG2.out.trans hg3))
  rw [hn] at HF
  clear HR hh hp hg3
  go_wp2_with fail
  go_end0
  exact ⟨rfl, HF.out⟩
/-- What the append of push has left. -/
theorem push_mem {W W' : World} {v' : Value} (h : BestAt w base B X M m K rv R Q) (x : Ht) (hW : W = (w.alloc (hobj x)).alloc (hobj x)) (ho : OwnH W' base v' (R ++ [x])) (hg : W.drew.grownBy W' rv.ownBlock) (h5 : v'.ownBlock = rv.ownBlock ∨ v'.ownBlock = some W.drew.heap.size) :
    ∃ g cap, v' = .slice (some ⟨g, 0, none⟩) (R.length + 1) cap ∧ base ≤ g ∧ (rv.ownBlock = some g ∨ w.heap.size ≤ g) ∧
      HpM (W'.setCell ⟨B, 3, none⟩ v') B X g cap m (R ++ [x]) ∧ (W'.setCell ⟨B, 3, none⟩ v').heap[B]? = some (.cells #[.int .i64 m, .int .i64 K, .func (.func 28) #[] #[.pointer (some ⟨X, 0, none⟩)], v', .map (some M)] 54 (0, 0)) ∧
      Gr (fun b => b = B ∨ rv.ownBlock = some b) w (W'.setCell ⟨B, 3, none⟩ v') ∧ W'.cell? ⟨B, 3, none⟩ = some rv ∧ W'.frozen? ⟨B, 3, none⟩ = false := by
  have hl : (R ++ [x]).length = R.length + 1 := by simp
  have hs : W.drew.heap.size = w.heap.size + 2 := by rw [hW]; show ((w.alloc _).alloc _).heap.size = _; simp
  have hw : Gn w W.drew := by rw [hW]; exact (((Gn.refl w).alloc _).alloc _).drew
  have h1 := h.gn hw
  obtain ⟨g, cap, rfl⟩ : ∃ g cap, v' = .slice (some ⟨g, 0, none⟩) (R.length + 1) cap := by
    rcases ho.2 with ⟨_, h0⟩ | ⟨g, cap, cur, rfl, _⟩
    · omega
    · exact ⟨g, cap, by rw [hl]⟩
  have hbg : base ≤ g := (ho.lt g rfl).1
  have hgg : rv.ownBlock = some g ∨ w.heap.size ≤ g := by
    rcases h5 with e | e
    · exact .inl (by rw [← e]; rfl)
    · right
      have : g = W.drew.heap.size := by simpa [Value.ownBlock] using e
      omega
  have hgB : g ≠ B := fun e => by
    rcases hgg with c | c
    · exact h.gB (by rw [c, e])
    · have := h.ltB; omega
  have hgX : g ≠ X := fun e => by
    rcases hgg with c | c
    · exact h.gX (by rw [c, e])
    · have := h.ltX; omega
  have kB : W'.heap[B]? = W.drew.heap[B]? := hg.block B h1.ltB (fun e => h.gB e.symm)
  have kX : W'.heap[X]? = W.drew.heap[X]? := hg.block X h1.ltX (fun e => h.gX e.symm)
  have hblk := kB.trans h1.blk
  have hset := heap_setCell_same W' B 3 _ _ (.slice (some ⟨g, 0, none⟩) (R.length + 1) cap) hblk
  have hset2 : (W'.setCell ⟨B, 3, none⟩ (.slice (some ⟨g, 0, none⟩) (R.length + 1) cap)).heap[B]? = some (.cells #[.int .i64 m, .int .i64 K, .func (.func 28) #[] #[.pointer (some ⟨X, 0, none⟩)], .slice (some ⟨g, 0, none⟩) (R.length + 1) cap, .map (some M)] 54 (0, 0)) := hset
  have hsz : (W'.setCell ⟨B, 3, none⟩ (.slice (some ⟨g, 0, none⟩) (R.length + 1) cap)).heap.size = W'.heap.size := by simp
  have hsz2 : w.heap.size ≤ W'.heap.size := by have := hg.size; omega
  refine ⟨g, cap, rfl, hbg, hgg, ⟨?_, ?_, ?_, ?_, hgB, hgX, ?_, ?_⟩, hset2, ?_, ?_, ?_⟩
  · rw [Lib.cell_of_heap hset2]; rfl
  · rw [Lib.cell_of_heap hset2, hl]; rfl
  · rw [World.cell?_setCell_far _ _ _ _ (fun e => h.xB e.symm)]
    exact (World.cell?_of_block (w := W.drew) (a := ⟨X, 0, none⟩) kX).trans h1.met
  · have hs2 := ownsRow_setCell_other (Go.Joins.ownsRow_le ho (Nat.zero_le base)) (a := ⟨B, 3, none⟩) (fun e => hgB (by simpa [Value.ownBlock] using e)) (.slice (some ⟨g, 0, none⟩) (R.length + 1) cap)
    show World.ownsRow _ _ _ _ _ _ _
    rw [hl] at hs2 ⊢
    exact hs2
  · rw [hsz]; have := h.ltB; omega
  · rw [hsz]; have := h.ltX; omega
  · exact Gr.setCell (Gr.grown (hw.gr) hg (fun k e _ => .inr e)) (a := ⟨B, 3, none⟩) (fun _ => .inl rfl) _
  · rw [Lib.cell_of_heap hblk]; rfl
  · simp [World.frozen?, hblk]
theorem rows_push {W w' : World} {g cap : Nat} {R' R0 : List Ht} {rv : Value} (hw : w.heap.size ≤ W.heap.size) (hB : B < W.heap.size) (hblk : W.heap[B]? = some (.cells #[.int .i64 m, .int .i64 K, .func (.func 28) #[] #[.pointer (some ⟨X, 0, none⟩)], .slice (some ⟨g, 0, none⟩) R'.length cap, .map (some M)] 54 (0, 0))) (H : HpM w' B X g cap m R') (hg : base ≤ g) (hgg : rv.ownBlock = some g ∨ w.heap.size ≤ g)
    (hh : Heap m R') (hp : R'.Perm R0) (G0 : Gr (fun b => b = B ∨ rv.ownBlock = some b) w W) (G : Gr (one' g) W w') : RowsP w base B X m K M rv R0 w' :=
  ⟨.slice (some ⟨g, 0, none⟩) R'.length cap, R', by rw [G.block B hB (fun e => H.neB e.symm)]; exact hblk, hp_own H hg, hh, hp, hgg.elim (fun c => .inl (by rw [c]; rfl)) (fun c => .inr ⟨g, rfl, c⟩),
    G0.trans' G (fun b hb e => hgg.elim (fun c => .inr (by rw [show b = g from e]; exact c)) (fun c => absurd hb (by rw [show b = g from e]; omega)))⟩
set_option maxHeartbeats 4000000 in
set_option maxRecDepth 100000 in
theorem push_any (h : BestAt w base B X M m K rv R Q) (x : Ht) (hl : (R.length + 1) * 16 ≤ 140737488355328) (hr : R.length + 1 ≤ 1125899906842624) (hbase : base ≤ w.heap.size) :
    Calls Try.prog 29 #[.pointer (some ⟨B, 2, none⟩), hv x] w fun e w' => e = .returned (.tuple #[]) ∧ RowsP w base B X m K M rv (R ++ [x]) w' := by
  have mixed : Try.prog.follows .mixedOrders = true := by kernel_rfl
  obtain ⟨c0, c1, c2, c3, c4⟩ := (h.gn ((Gn.refl w).alloc (hobj x))).cells
  obtain ⟨d0, d1⟩ := two_cells (heap_last w (hobj x))
  have hown := (h.gn ((((Gn.refl w).alloc (hobj x)).alloc (hobj x)).drew)).own
  have hlast := heap_last (w.alloc (hobj x)) (hobj x)
  obtain ⟨v', W', happ, ho, hg, h5⟩ := append_hit (w := ((w.alloc (hobj x)).alloc (hobj x)).drew) (g := (w.alloc (hobj x)).heap.size) (x := x) hown hlast hl (by show base ≤ ((w.alloc (hobj x)).alloc (hobj x)).heap.size; simp; omega)
  obtain ⟨g, cap, rfl, hbg, hgg, HP, hblk, hG, w3, wz⟩ := push_mem h x rfl ho hg h5
  have HPM := Lib.hid HP
  have HBK := Lib.hid hblk
  have HGR := Lib.hid hG
  have HBG := Lib.hid hbg
  have HGG := Lib.hid hgg
  have HHP := Lib.hid h.hp
  have HRS := Lib.hid hr
  have HBL := Lib.hid h.ltB
  obtain ⟨p, c, rfl⟩ := h.form
  obtain ⟨xi, xs⟩ := x
  have c3' : ((w.alloc (hobj (xi, xs))).alloc (hobj (xi, xs))).cell? ⟨B, 3, none⟩ = some (.slice p R.length c) := (h.gn (((Gn.refl w).alloc (hobj (xi, xs))).alloc (hobj (xi, xs)))).cells.2.2.2.1
  have e1 : wrap64 (((R.length : Int) + 1) - 1) = (R.length : Int) := by unfold wrap64; omega
  have hln : (R ++ [(xi, xs)]).length = R.length + 1 := by simp
  clear h hl hown hlast ho hg h5 HP hblk hG hbg hgg c0 c1 c2 c4 hr hbase
  generalize hn : R.length = n at *
  go_enter Try.func29, Try.ntmps29
  go_wp2_with fail
  generalize hW : w.alloc (hobj (xi, xs)) = W at *
  go_region_law (refine step_append_run (by rfl) _ _ _ _ (by rfl) _ _ (.slice (some ⟨g, 0, none⟩) (n + 1) cap) W' (by rfl) (by rfl) happ ?_)
  all_goals
    clear happ c3' w3 wz d0 d1 hW
    generalize hW3 : W'.setCell ⟨B, 3, none⟩ (.slice (some ⟨g, 0, none⟩) (n + 1) cap) = W3 at *
    have f3 := HPM.out.rows
    rw [hln] at f3
    have HS := Lib.hid (rise_any m B X g cap n (R ++ [(xi, xs)]) W3 HPM.out (by rw [hln]; omega) (by have := HHP.out.push (xi, xs); rw [hn] at this; exact this) (by rw [hln]; exact HRS.out))
    have hsub : (n : Int) + 1 - 1 = n := by omega
    have HLN := Lib.hid hln
    clear hln hW3
    have hsz : n + 1 ≤ 1125899906842624 := HRS.out
    go_wp2_with fail
    refine HS.out.mono ?_
    rintro e w4 ⟨rfl, R', HR, hh, hp, hg4⟩
    have hl2 : R'.length = n + 1 := by rw [hp.length_eq, HLN.out]
    have HF := Lib.hid (rows_push (base := base) HGR.out.size (Nat.lt_of_lt_of_le HBL.out HGR.out.size) (by rw [hl2]; exact HBK.out) HR HBG.out HGG.out hh hp HGR.out hg4)
    clear HR hh hp hg4 f3
    go_wp2_with fail
    go_end0
    exact ⟨rfl, HF.out⟩
end
end Go.Proofs.Ytbgminlajcmomab
