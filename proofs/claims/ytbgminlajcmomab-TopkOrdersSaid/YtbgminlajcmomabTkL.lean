/- topk's Add. Conditions: those that each theorem names. -/
import Derived.Test.YtbgminlajcmomabTkK
import Derived.Deep.DeepCutAuto
namespace Go.Proofs.Ytbgminlajcmomab
set_option linter.unusedVariables false
open Go Go.RowKit Go.Shelf Go.Sort Go.Maps Tk
section
variable {w : World} {base B X M : Nat} {m : Int} {K : Nat} {rv : Value} {R Q : List Ht}
theorem map_under : Try.prog.underlying 52 = some (.map 23 55) := Try.underlying52
theorem look_yes {h : Ht} (H : BestAt w base B X M m K rv R Q) (hh : h ∈ Q) : ∀ W : World, W.heap[M]? = w.heap[M]? → (Instr.lookup 52 (.map (some M)) (hv h) true).run Try.prog W = .ok (.tuple #[.agg #[], .bool true]) W :=
  fun W hW => H.map.look hit_keyed map_under (z := .agg #[]) (fun W => Try.zeroValue55 W) ⟨rfl, h, hh, rfl⟩ true W hW
theorem hv_inj {a b : Ht} (h : hv a = hv b) : a = b := by
  obtain ⟨a1, a2⟩ := a
  obtain ⟨b1, b2⟩ := b
  simp [hv] at h
  rw [h.1, h.2]
theorem look_no {h : Ht} (H : BestAt w base B X M m K rv R Q) (hh : h ∉ Q) (ok : OkH h) : ∀ W : World, W.heap[M]? = w.heap[M]? → (Instr.lookup 52 (.map (some M)) (hv h) true).run Try.prog W = .ok (.tuple #[.agg #[], .bool false]) W := by
  obtain ⟨l, hl⟩ := key_hit h ok
  exact fun W hW => H.map.miss hit_keyed map_under (z := .agg #[]) (fun W => Try.zeroValue55 W) hl (fun v ⟨_, x, hx, e⟩ => hh (by rw [hv_inj e]; exact hx)) true W hW
/-- What Add leaves. -/
def AddP (w : World) (base B X M : Nat) (m : Int) (K : Nat) (rv : Value) (R : List Ht) (h : Ht) (e : Ending) (w' : World) : Prop :=
  ∃ rv' R', e = .returned (.bool (addW m K (srt m R) h).2) ∧ BestAt w' base B X M m K rv' R' R' ∧ srt m R' = (addW m K (srt m R) h).1 ∧ Gr (St B M rv) w w' ∧ ∀ b, b < w.heap.size → St B M rv' b → St B M rv b
/-- Add's beginning: two boxes. -/
structure AddS (w W2 : World) (base B X M : Nat) (m : Int) (K : Nat) (rv : Value) (R : List Ht) (h : Ht) : Prop where
  best : BestAt W2 base B X M m K rv R R
  b0 : W2.cell? ⟨w.heap.size, 0, none⟩ = some (.int .i64 h.1)
  b1 : W2.cell? ⟨w.heap.size, 1, none⟩ = some (.int .i64 h.2)
  gn : RowKit.Below w.heap.size w W2
  lt : w.heap.size < W2.heap.size
theorem below_gr {S : Nat → Prop} {w w' : World} (h : RowKit.Below w.heap.size w w') : Gr S w w' := Gr.of_below h (fun b hb hlt => absurd hb (Nat.not_le.2 hlt))
theorem AddS.below' {W2 W3 : World} {h : Ht} (H : AddS w W2 base B X M m K rv R h) (g : RowKit.Below W2.heap.size W2 W3) : AddS w W3 base B X M m K rv R h :=
  ⟨H.best.below g, (g.cell (p := ⟨w.heap.size, 0, none⟩) H.lt).trans H.b0, (g.cell (p := ⟨w.heap.size, 1, none⟩) H.lt).trans H.b1, H.gn.trans (g.mono (Nat.le_of_lt H.lt)), Nat.lt_of_lt_of_le H.lt g.size⟩
theorem AddS.gn' {W2 W3 : World} {h : Ht} (H : AddS w W2 base B X M m K rv R h) (g : Gn W2 W3) : AddS w W3 base B X M m K rv R h := H.below' g.below
theorem AddS.start {h : Ht} (H : BestAt w base B X M m K rv R R) (T : TypeId) : AddS w ((w.alloc (hobj h)).alloc (.cells #[] T)).drew base B X M m K rv R h := by
  have g0 : Gn w (w.alloc (hobj h)) := (Gn.refl w).alloc _
  obtain ⟨d0, d1⟩ := two_cells (heap_last w (hobj h))
  exact (AddS.mk (H.gn g0) d0 d1 g0.below (by simp)).gn' (((Gn.refl _).alloc _).drew)
theorem twice_done {W2 : World} {h : Ht} (H : AddS w W2 base B X M m K rv R h) (hh : h ∈ R) : AddP w base B X M m K rv R h (.returned (.bool false)) W2 := by
  have e := add_twice (m := m) (k := K) hh
  exact ⟨rv, R, by rw [e], H.best, by rw [e], below_gr H.gn, fun _ _ x => x⟩
set_option maxHeartbeats 2000000 in
set_option maxRecDepth 100000 in
theorem add_twice_any (h : Ht) (H : BestAt w base B X M m K rv R R) (hh : h ∈ R) :
    Calls Try.prog 16 #[.pointer (some ⟨B, 0, none⟩), hv h] w fun e w' => AddP w base B X M m K rv R h e w' := by
  have mixed : Try.prog.follows .mixedOrders = true := by kernel_rfl
  have HS := Lib.hid (AddS.start (h := h) H 55)
  have H1 := H.gn ((Gn.refl w).alloc (hobj h))
  obtain ⟨c0, c1, c2, c3, c4⟩ := H1.cells
  obtain ⟨d0, d1⟩ := two_cells (heap_last w (hobj h))
  have k0 : (w.alloc (hobj h)).heap[M]? = w.heap[M]? := heap_old _ _ H.ltM
  have l0 := look_yes H hh (w.alloc (hobj h)).drew k0
  have l1 := look_yes H hh ((w.alloc (hobj h)).alloc (.cells #[] 55)).drew ((heap_old _ _ (by have := H.ltM; simp; omega)).trans k0)
  have c4' := (H1.gn ((Gn.refl _).alloc (.cells #[] 55))).cells.2.2.2.2
  have d0' := HS.out.b0
  have d1' := HS.out.b1
  rw [show ((w.alloc (hobj h)).alloc (.cells #[] 55)).drew.cell? = ((w.alloc (hobj h)).alloc (.cells #[] 55)).cell? from rfl] at d0' d1'
  have HH := Lib.hid hh
  obtain ⟨hi, hs⟩ := h
  clear H H1 hh k0 c0 c1 c2 c3
  go_enter Try.func16, Try.ntmps16
  go_wp2_with fail
  generalize w.alloc (hobj (hi, hs)) = W at *
  go_cut [5, 6] (fun p b wx => b = .bool true ∧ wx = (W.alloc (.cells #[] 55)).drew)
  case first =>
    go_region
    all_goals (go_wp2_with fail; go_meet; exact ⟨rfl, rfl⟩)
  case rest =>
    obtain ⟨rfl, rfl⟩ := hcut
    clear c4 d0 d1 l0 l1 c4' d0' d1'
    generalize (W.alloc (.cells #[] 55)).drew = W2 at *
    go_wp2_with fail
    go_ret
    exact twice_done HS.out HH.out
/-- The map with one hit more. -/
theorem best_put {W : World} {h : Ht} (H : BestAt W base B X M m K rv R Q) (hh : h ∉ Q) (ok : OkH h) (hl : Q.length < maxLen) :
    ∃ o, (∀ Y : World, Y.heap[M]? = W.heap[M]? → (Instr.mapUpdate 52 (.map (some M)) (hv h) (.agg #[])).run Try.prog Y = .ok () (Go.ChangeMaps.setBlock Y M o)) ∧
      BestAt (Go.ChangeMaps.setBlock W M o) base B X M m K rv R (h :: Q) := by
  obtain ⟨l, hk⟩ := key_hit h ok
  obtain ⟨o, h1, h2⟩ := H.map.put_new hit_keyed map_under (v := .agg #[]) hk (fun v ⟨_, x, hx, e⟩ => hh (by rw [hv_inj e]; exact hx)) hl
  refine ⟨o, h1, ?_⟩
  have ne : ∀ b, b ≠ M → (Go.ChangeMaps.setBlock W M o).heap[b]? = W.heap[b]? := fun b hb => setBlock_ne o hb
  exact { H with
    blk := (ne B (fun e => H.mB e.symm)).trans H.blk
    met := (World.cell?_of_block (w := W) (a := ⟨X, 0, none⟩) (ne X H.xM)).trans H.met
    own := own_keep H.own (fun g e _ => ne g (fun x => H.gM (by rw [e, x])))
    map := (h2 _ (setBlock_at o H.ltM)).congr (fun y u => by
      constructor
      · rintro (⟨rfl, rfl⟩ | ⟨_, rfl, x, hx, rfl⟩)
        · exact ⟨rfl, h, by simp, rfl⟩
        · exact ⟨rfl, x, by simp [hx], rfl⟩
      · rintro ⟨rfl, x, hx, rfl⟩
        rcases List.mem_cons.1 hx with rfl | hx
        · exact .inl ⟨rfl, rfl⟩
        · exact .inr ⟨fun e => hh (by rw [← hv_inj e]; exact hx), rfl, x, hx, rfl⟩)
    ltX := by rw [setBlock_size]; exact H.ltX }
theorem set_gr (W : World) (M : Nat) (o : Obj) (S : Nat → Prop) (hS : S M) : Gr S W (Go.ChangeMaps.setBlock W M o) :=
  ⟨rfl, rfl, rfl, by rw [setBlock_size]; exact Nat.le_refl _, fun b _ hn => setBlock_ne o (fun e => hn (by rw [e]; exact hS))⟩
/-- What is left when the rows have turned. -/
theorem rows_best {W w' : World} {Q R0 : List Ht} (H : BestAt W base B X M m K rv R Q) (hr : RowsP W base B X m K M rv R0 w') (hq : ∀ x, x ∈ R0 ↔ x ∈ Q) (hl : R0.length = Q.length) (hk : R0.length ≤ K) (hn : R0.Nodup) (ok : ∀ x ∈ R0, OkH x) :
    ∃ rv' R', BestAt w' base B X M m K rv' R' R' ∧ R'.Perm R0 ∧ Gr (fun b => b = B ∨ rv.ownBlock = some b) W w' ∧ ∀ b, b < W.heap.size → rv'.ownBlock = some b → rv.ownBlock = some b := by
  obtain ⟨rv', R', hb, ho, hh, hp, hrel, hg⟩ := hr
  have kM := hg.block M H.ltM (fun e => e.elim H.mB (fun c => H.gM c))
  have kX := hg.block X H.ltX (fun e => e.elim H.xB (fun c => H.gX c))
  refine ⟨rv', R', { blk := hb, met := (World.cell?_of_block (w := W) (a := ⟨X, 0, none⟩) kX).trans H.met, own := ho, map := ?_, ltX := Nat.lt_of_lt_of_le H.ltX hg.size, bB := H.bB, bX := H.bX, bM := H.bM, xB := H.xB, xM := H.xM, mB := H.mB, gX := ?_, ok := fun x hx => ok x (hp.mem_iff.1 hx), nd := hp.nodup_iff.2 hn, len := by rw [hp.length_eq]; exact hk, hp := hh, kn := H.kn, kK := H.kK, kM := H.kM }, hp, hg, fun b hb2 e => ?_⟩
  · rw [hp.length_eq, hl]
    exact (H.map.kept kM).congr (fun y u => by simp only [hp.mem_iff, hq])
  · rcases hrel with c | ⟨g, c, hg2⟩
    · rw [c]; exact H.gX
    · intro e
      rw [c] at e
      have := H.ltX
      injection e with e
      omega
  · rcases hrel with c | ⟨g, c, hg2⟩
    · rw [← c]; exact e
    · rw [c] at e
      injection e with e
      omega
theorem push_done {W5 W6 : World} {h : Ht} (hm : knownB m = true) (hh : h ∉ R) (hk : R.length < K) (hn : R.Nodup) (ok : ∀ x ∈ R, OkH x) (okh : OkH h) (G : Gr (St B M rv) w W5) (H : BestAt W5 base B X M m K rv R (h :: R)) (hr : RowsP W5 base B X m K M rv (R ++ [h]) W6) :
    AddP w base B X M m K rv R h (.returned (.bool true)) W6 := by
  obtain ⟨rv', R', H', hp, hg, hs⟩ := rows_best H hr (fun x => by simp [or_comm]) (by simp) (by simp; omega) (by rw [List.nodup_append]; exact ⟨hn, by simp, fun a ha b hb => by simp at hb; subst hb; exact fun e => hh (e ▸ ha)⟩) (fun x hx => by
    rcases List.mem_append.1 hx with hx | hx
    · exact ok x hx
    · simp at hx; subst hx; exact okh)
  have e := add_push hm hh hk (hp.trans List.perm_append_comm : R'.Perm (h :: R))
  refine ⟨rv', R', by rw [e], H', by rw [e], G.trans' hg (fun b _ x => x.elim .inl (fun c => .inr (.inr c))), fun b hb x => ?_⟩
  rcases x with x | x | x
  · exact .inl x
  · exact .inr (.inl x)
  · exact .inr (.inr (hs b (Nat.lt_of_lt_of_le hb G.size) x))
set_option maxHeartbeats 4000000 in
set_option maxRecDepth 100000 in
theorem add_push_any (h : Ht) (H : BestAt w base B X M m K rv R R) (hh : h ∉ R) (ok : OkH h) (hk : R.length < K) (hl : (R.length + 1) * 16 ≤ 140737488355328) (hbase : base ≤ w.heap.size) :
    Calls Try.prog 16 #[.pointer (some ⟨B, 0, none⟩), hv h] w fun e w' => AddP w base B X M m K rv R h e w' := by
  have mixed : Try.prog.follows .mixedOrders = true := by kernel_rfl
  have HS := Lib.hid (AddS.start (h := h) H 55)
  have H1 := H.gn ((Gn.refl w).alloc (hobj h))
  obtain ⟨c0, c1, c2, c3, c4⟩ := H1.cells
  obtain ⟨d0, d1⟩ := two_cells (heap_last w (hobj h))
  have k0 : (w.alloc (hobj h)).heap[M]? = w.heap[M]? := heap_old _ _ H.ltM
  have l0 := look_no H hh ok (w.alloc (hobj h)).drew k0
  have l1 := look_no H hh ok ((w.alloc (hobj h)).alloc (.cells #[] 55)).drew ((heap_old _ _ (by have := H.ltM; simp; omega)).trans k0)
  have c4' := (H1.gn ((Gn.refl _).alloc (.cells #[] 55))).cells.2.2.2.2
  have d0' := HS.out.b0
  have d1' := HS.out.b1
  rw [show ((w.alloc (hobj h)).alloc (.cells #[] 55)).drew.cell? = ((w.alloc (hobj h)).alloc (.cells #[] 55)).cell? from rfl] at d0' d1'
  have HH := Lib.hid hh
  have HN := Lib.hid H.nd
  have HOK := Lib.hid H.ok
  have HKN := Lib.hid H.kn
  have HK := Lib.hid hk
  have HL := Lib.hid hl
  have HBS := Lib.hid hbase
  have HOH := Lib.hid ok
  have HMW := Lib.hid H.ltM
  obtain ⟨hi, hs⟩ := h
  clear H H1 hh k0 c0 c1 c2 c3 hk hl hbase ok
  go_enter Try.func16, Try.ntmps16
  go_wp2_with fail
  generalize w.alloc (hobj (hi, hs)) = W at *
  go_cut [5, 6] (fun p b wx => b = .bool false ∧ wx = (W.alloc (.cells #[] 55)).drew)
  case first =>
    go_region
    all_goals (go_wp2_with fail; go_meet; exact ⟨rfl, rfl⟩)
  case rest =>
    obtain ⟨rfl, rfl⟩ := hcut
    clear c4 d0 d1 l0 l1 c4' d0' d1'
    generalize (W.alloc (.cells #[] 55)).drew = W2 at *
    have HF := full_any HS.out.best
    rw [decide_eq_false (by have := HK.out; omega)] at HF
    go_wp2_with fail
    refine HF.mono ?_
    rintro e w3 ⟨rfl, hg3⟩
    have HS3 := Lib.hid (HS.out.gn' hg3)
    have HS4 := Lib.hid (HS3.out.gn' (Gn.refl w3).drew)
    clear hg3 HF
    obtain ⟨o, hput, hbest⟩ := best_put HS4.out.best HH.out HOH.out (by have := HL.out; unfold maxLen; omega)
    have HBP := Lib.hid hbest
    have c4 := HS3.out.best.cells.2.2.2.2
    have d0 := HS3.out.b0
    have d1 := HS3.out.b1
    have p0 := hput w3.drew rfl
    have hMw : w.heap.size ≠ M := by have := HMW.out; omega
    have e0 : (Go.ChangeMaps.setBlock w3.drew M o).cell? ⟨w.heap.size, 0, none⟩ = some (.int .i64 hi) := (setBlock_cell o hMw).trans d0
    have e1 : (Go.ChangeMaps.setBlock w3.drew M o).cell? ⟨w.heap.size, 1, none⟩ = some (.int .i64 hs) := (setBlock_cell o hMw).trans d1
    have HG5 : Hid (Gr (St B M rv) w (Go.ChangeMaps.setBlock w3.drew M o)) := Lib.hid ((below_gr HS4.out.gn).trans (set_gr _ M o (St B M rv) (.inr (.inl rfl))))
    clear hput hbest hMw
    go_wp2_with fail
    go_region
    clear c4 d0 d1 p0
    generalize Go.ChangeMaps.setBlock w3.drew M o = w5 at *
    have HP := Lib.hid (push_any (HBP.out.gn (Gn.refl w5).drew) (hi, hs) HL.out (by have := HL.out; omega) (Nat.le_trans HBS.out HG5.out.size))
    have HB5 := Lib.hid (HBP.out.gn (Gn.refl w5).drew)
    have HG6 := Lib.hid HG5.out.drew
    go_wp2_with fail
    go_still_tail 4, (by kernel_rfl)
    change wpList _ _ _ _ _ w5.drew
    go_wp2_with (go_at_call 29; refine HP.out.mono ?_; rintro e w6 ⟨rfl, hr⟩)
    go_ret
    exact push_done HKN.out HH.out HK.out HN.out HOK.out HOH.out HG6.out HB5.out hr
end
end Go.Proofs.Ytbgminlajcmomab
