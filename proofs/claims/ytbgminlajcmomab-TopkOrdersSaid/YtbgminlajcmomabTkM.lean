/- topk's Add, where k are kept. Conditions: those that each theorem names. -/
import Derived.Test.YtbgminlajcmomabTkL
namespace Go.Proofs.Ytbgminlajcmomab
set_option linter.unusedVariables false
open Go Go.RowKit Go.Shelf Go.Sort Go.Maps Tk
section
variable {w : World} {base B X M : Nat} {m : Int} {K : Nat} {rv : Value} {R Q : List Ht}
/-- The map with one hit less. -/
theorem best_del {W : World} {x : Ht} {t : List Ht} (H : BestAt W base B X M m K rv (x :: t) (x :: t)) :
    ∃ o, (∀ (Y : World) ty, Y.heap[M]? = W.heap[M]? → (Builtin.delete_ #[52, 23] ty #[.map (some M), hv x]).run Try.prog Y = .ok (.tuple #[]) (Go.ChangeMaps.setBlock Y M o)) ∧
      BestAt (Go.ChangeMaps.setBlock W M o) base B X M m K rv (x :: t) t := by
  have hx : x ∉ t := (List.nodup_cons.1 H.nd).1
  obtain ⟨o, h1, h2⟩ := H.map.del_old hit_keyed map_under (x := hv x) (u0 := .agg #[]) (ty := 0) ⟨rfl, x, by simp, rfl⟩
  have h1' : ∀ (Y : World) ty, Y.heap[M]? = W.heap[M]? → (Builtin.delete_ #[52, 23] ty #[.map (some M), hv x]).run Try.prog Y = .ok (.tuple #[]) (Go.ChangeMaps.setBlock Y M o) := fun Y ty hY => h1 Y hY
  refine ⟨o, h1', ?_⟩
  have ne : ∀ b, b ≠ M → (Go.ChangeMaps.setBlock W M o).heap[b]? = W.heap[b]? := fun b hb => setBlock_ne o hb
  exact { H with
    blk := (ne B (fun e => H.mB e.symm)).trans H.blk
    met := (World.cell?_of_block (w := W) (a := ⟨X, 0, none⟩) (ne X H.xM)).trans H.met
    own := own_keep H.own (fun g e _ => ne g (fun y => H.gM (by rw [e, y])))
    map := by
      have h3 := h2 _ (setBlock_at o H.ltM)
      simp only [List.length_cons, Nat.add_sub_cancel] at h3
      exact h3.congr (fun y u => by
        constructor
        · rintro ⟨hy, rfl, z, hz, rfl⟩
          rcases List.mem_cons.1 hz with rfl | hz
          · exact absurd rfl hy
          · exact ⟨rfl, z, hz, rfl⟩
        · rintro ⟨rfl, z, hz, rfl⟩
          exact ⟨fun e => hx (by rw [← hv_inj e]; exact hz), rfl, z, by simp [hz], rfl⟩)
    ltX := by rw [setBlock_size]; exact H.ltX }
theorem full_no_done {W2 : World} {h : Ht} (H : AddS w W2 base B X M m K rv R h) (hh : h ∉ R) (hk : R.length = K) (hw : ltH m h R[0]! = false) : AddP w base B X M m K rv R h (.returned (.bool false)) W2 := by
  have e := add_no H.best.kn hh hk H.best.hp (by have := H.best.kK; omega) hw
  exact ⟨rv, R, by rw [e], H.best, by rw [e], below_gr H.gn, fun _ _ x => x⟩
theorem full_yes_done {W5 W6 : World} {h x0 : Ht} {t : List Ht} (hm : knownB m = true) (hh : h ∉ x0 :: t) (hk : (x0 :: t).length = K) (hn : (x0 :: t).Nodup) (ok : ∀ x ∈ x0 :: t, OkH x) (okh : OkH h) (hp0 : Heap m (x0 :: t)) (hw : ltH m h x0 = true)
    (G : Gr (St B M rv) w W5) (H : BestAt W5 base B X M m K rv (x0 :: t) (h :: t)) (hr : RowsP W5 base B X m K M rv ((x0 :: t).set 0 h) W6) :
    AddP w base B X M m K rv (x0 :: t) h (.returned (.bool true)) W6 := by
  have hht : h ∉ t := fun c => hh (by simp [c])
  obtain ⟨rv', R', H', hp, hg, hs⟩ := rows_best H hr (fun x => by simp) (by simp) (by simp at hk ⊢; omega) (by simp only [List.set_cons_zero]; exact List.nodup_cons.2 ⟨hht, (List.nodup_cons.1 hn).2⟩) (fun x hx => by
    simp only [List.set_cons_zero] at hx
    rcases List.mem_cons.1 hx with rfl | hx
    · exact okh
    · exact ok x (by simp [hx]))
  have e := add_yes hm hh hk hp0 (by simp) (by simpa using hw) hp
  refine ⟨rv', R', by rw [e], H', by rw [e], G.trans' hg (fun b _ x => x.elim .inl (fun c => .inr (.inr c))), fun b hb x => ?_⟩
  rcases x with x | x | x
  · exact .inl x
  · exact .inr (.inl x)
  · exact .inr (.inr (hs b (Nat.lt_of_lt_of_le hb G.size) x))
set_option maxHeartbeats 8000000 in
set_option maxRecDepth 100000 in
theorem add_full_any (h x0 : Ht) (t : List Ht) (H : BestAt w base B X M m K rv (x0 :: t) (x0 :: t)) (hh : h ∉ x0 :: t) (ok : OkH h) (hk : (x0 :: t).length = K) (hl : ((x0 :: t).length + 1) * 16 ≤ 140737488355328) (hbase : base ≤ w.heap.size) :
    Calls Try.prog 16 #[.pointer (some ⟨B, 0, none⟩), hv h] w fun e w' => AddP w base B X M m K rv (x0 :: t) h e w' := by
  have mixed : Try.prog.follows .mixedOrders = true := by kernel_rfl
  have hen := new1_enters
  have HS := Lib.hid (AddS.start (h := h) H 55)
  have H1 := H.gn ((Gn.refl w).alloc (hobj h))
  obtain ⟨c0, c1, c2, c3, c4⟩ := H1.cells
  obtain ⟨d0, d1⟩ := two_cells (heap_last w (hobj h))
  have k0 : (w.alloc (hobj h)).heap[M]? = w.heap[M]? := heap_old _ _ H.ltM
  have l0 := look_no H hh ok (w.alloc (hobj h)).drew k0
  have l1 := look_no H hh ok ((w.alloc (hobj h)).alloc (.cells #[] 55)).drew ((heap_old _ _ (by have := H.ltM; simp; omega)).trans k0)
  have c4' := (H1.gn ((Gn.refl _).alloc (.cells #[] 55))).cells.2.2.2.2
  have d0' := HS.out.b0
  have d1' := HS.out.b1
  rw [show ((w.alloc (hobj h)).alloc (.cells #[] 55)).drew.cell? = ((w.alloc (hobj h)).alloc (.cells #[] 55)).cell? from rfl] at d0' d1'
  have HH := Lib.hid hh
  have HN := Lib.hid H.nd
  have HOK := Lib.hid H.ok
  have HKN := Lib.hid H.kn
  have HHP := Lib.hid H.hp
  have HK := Lib.hid hk
  have HL := Lib.hid hl
  have HBS := Lib.hid hbase
  have HOH := Lib.hid ok
  have HMW := Lib.hid H.ltM
  obtain ⟨hi, hs⟩ := h
  obtain ⟨xi, xs⟩ := x0
  clear H H1 hh k0 c0 c1 c2 c3 hk hl hbase ok
  go_enter Try.func16, Try.ntmps16
  go_wp2_with fail
  generalize w.alloc (hobj (hi, hs)) = W at *
  go_cut [5, 6] (fun p b wx => b = .bool false ∧ wx = (W.alloc (.cells #[] 55)).drew)
  case first =>
    go_region
    all_goals (go_wp2_with fail; go_meet; exact ⟨rfl, rfl⟩)
  case rest =>
    obtain ⟨rfl, rfl⟩ := hcut
    clear c4 d0 d1 l0 l1 c4' d0' d1'
    generalize (W.alloc (.cells #[] 55)).drew = W2 at *
    have HF := full_any HS.out.best
    rw [decide_eq_true HK.out] at HF
    go_wp2_with fail
    refine HF.mono ?_
    rintro e w3 ⟨rfl, hg3⟩
    have HS3 := Lib.hid (HS.out.gn' hg3)
    clear hg3 HF
    have HW := worst_any HS3.out.best
    rw [if_neg (by simp), show (((xi, xs) : Ht) :: t)[0]! = (xi, xs) from rfl, decide_eq_true (by simp)] at HW
    go_wp2_with fail
    refine HW.mono ?_
    rintro e w4 ⟨rfl, hb4⟩
    have HS4 := Lib.hid (HS3.out.below' hb4)
    have HS5 := Lib.hid (HS4.out.gn' ((Gn.refl w4).alloc (hobj (xi, xs))))
    clear hb4 HW
    have HZ := Lib.hid (two_cells (heap_last w4 (hobj (xi, xs))))
    have hzl : w4.heap.size < (w4.alloc (hobj (xi, xs))).heap.size := by simp
    have HZL := Lib.hid hzl
    clear hzl
    go_wp2_with fail
    generalize hZb : w4.heap.size = Z at *
    generalize w4.alloc (hobj (xi, xs)) = w5 at *
    have hq := fun n os => HS5.out.gn' (W3 := grow (w5.drewN n) os) ⟨n, os, rfl⟩
    have f2 := fun n os => (hq n os).best.cells.2.2.1
    have d0 := fun n os => (hq n os).b0
    have d1 := fun n os => (hq n os).b1
    have z0 := fun n os => ((Gn.below (w := w5) (w' := grow (w5.drewN n) os) ⟨n, os, rfl⟩).cell (p := ⟨Z, 0, none⟩) HZL.out).trans HZ.out.1
    have z1 := fun n os => ((Gn.below (w := w5) (w' := grow (w5.drewN n) os) ⟨n, os, rfl⟩).cell (p := ⟨Z, 1, none⟩) HZL.out).trans HZ.out.2
    have HC := Lib.hid (fun (n : Nat) (os : Array Obj) => new1_any m X (xi, xs) (hi, hs) _ (hq n os).best.ltX (hq n os).best.met)
    clear hq
    cases hb : ltH m (hi, hs) (xi, xs) with
    | false =>
      rw [hb] at HC
      have HBB := Lib.hid hb
      clear hb
      go_quiet_grown (first | (go_at_fn 28; refine Calls.grown_of (HC.out _ _)))
      dsimp only
      have HS6 := Lib.hid (HS5.out.gn' (W3 := grow (w5.drewN nq) osq) ⟨nq, osq, rfl⟩)
      clear f2 d0 d1 z0 z1
      generalize grow (w5.drewN nq) osq = w6 at *
      go_wp2
      go_ret
      exact full_no_done HS6.out HH.out HK.out HBB.out
    | true =>
      rw [hb] at HC
      have HBB := Lib.hid hb
      clear hb
      go_quiet_grown (first | (go_at_fn 28; refine Calls.grown_of (HC.out _ _)))
      dsimp only
      have HS6 := Lib.hid (HS5.out.gn' (W3 := grow (w5.drewN nq) osq) ⟨nq, osq, rfl⟩)
      have y0 := z0 nq osq
      have y1 := z1 nq osq
      clear f2 d0 d1 z0 z1 HC
      generalize grow (w5.drewN nq) osq = w6 at *
      have HS7 := Lib.hid (HS6.out.gn' (Gn.refl w6).drew)
      obtain ⟨o1, hdel, hb1⟩ := best_del HS7.out.best
      have p1 : ∀ ty, (Builtin.delete_ #[52, 23] ty #[.map (some M), .agg #[.int .i64 xi, .int .i64 xs]]).run Try.prog w6.drew = .ok (.tuple #[]) (Go.ChangeMaps.setBlock w6.drew M o1) := fun ty => hdel w6.drew ty rfl
      have c4 := HS6.out.best.cells.2.2.2.2
      have hMw : w.heap.size ≠ M := by have := HMW.out; omega
      have HB1 := Lib.hid hb1
      have e0 : (Go.ChangeMaps.setBlock w6.drew M o1).cell? ⟨w.heap.size, 0, none⟩ = some (.int .i64 hi) := (setBlock_cell o1 hMw).trans HS7.out.b0
      have e1 : (Go.ChangeMaps.setBlock w6.drew M o1).cell? ⟨w.heap.size, 1, none⟩ = some (.int .i64 hs) := (setBlock_cell o1 hMw).trans HS7.out.b1
      have HG1 : Hid (Gr (St B M rv) w (Go.ChangeMaps.setBlock w6.drew M o1)) := Lib.hid ((below_gr HS7.out.gn).trans (set_gr _ M o1 (St B M rv) (.inr (.inl rfl))))
      clear hdel hb1
      go_wp2_with fail
      go_region
      clear c4 p1 y0 y1
      generalize Go.ChangeMaps.setBlock w6.drew M o1 = w7 at *
      have HB2 := Lib.hid (HB1.out.gn (Gn.refl w7).drew)
      have hht : (hi, hs) ∉ t := fun c => HH.out (by simp [c])
      obtain ⟨o2, hput, hb2⟩ := best_put HB2.out hht HOH.out (by have := HL.out; simp only [List.length_cons] at this; unfold maxLen; omega)
      have p2 := hput w7.drew rfl
      have c4 := HB1.out.cells.2.2.2.2
      have HB3 := Lib.hid hb2
      have g0 : (Go.ChangeMaps.setBlock w7.drew M o2).cell? ⟨w.heap.size, 0, none⟩ = some (.int .i64 hi) := (setBlock_cell o2 hMw).trans e0
      have g1 : (Go.ChangeMaps.setBlock w7.drew M o2).cell? ⟨w.heap.size, 1, none⟩ = some (.int .i64 hs) := (setBlock_cell o2 hMw).trans e1
      have HG2 : Hid (Gr (St B M rv) w (Go.ChangeMaps.setBlock w7.drew M o2)) := Lib.hid (HG1.out.drew.trans (set_gr _ M o2 (St B M rv) (.inr (.inl rfl))))
      clear hput hb2 hht hMw
      go_wp2_with fail
      go_region
      clear c4 p2 e0 e1
      generalize Go.ChangeMaps.setBlock w7.drew M o2 = w8 at *
      have HB4 := Lib.hid (HB3.out.gn (Gn.refl w8).drew)
      have HP := Lib.hid (replace_any HB4.out (hi, hs) (by simp) (by have := HL.out; omega))
      have HG3 := Lib.hid HG2.out.drew
      go_wp2_with fail
      go_still_tail 4, (by kernel_rfl)
      change wpList _ _ _ _ _ w8.drew
      go_wp2_with (go_at_call 30; refine HP.out.mono ?_; rintro e w9 ⟨rfl, hr⟩)
      go_ret
      exact full_yes_done HKN.out HH.out HK.out HN.out HOK.out HOH.out HHP.out HBB.out HG3.out HB4.out hr
/-- topk's Add is the document's. -/
theorem add_any (h : Ht) (H : BestAt w base B X M m K rv R R) (ok : OkH h) (hl : (R.length + 1) * 16 ≤ 140737488355328) (hbase : base ≤ w.heap.size) :
    Calls Try.prog 16 #[.pointer (some ⟨B, 0, none⟩), hv h] w fun e w' => AddP w base B X M m K rv R h e w' := by
  by_cases hh : h ∈ R
  · exact add_twice_any h H hh
  · by_cases hk : R.length < K
    · exact add_push_any h H hh ok hk hl hbase
    · have hl2 := H.len
      have hk2 := H.kK
      match R, H, hh, hl, hk, hl2 with
      | [], _, _, _, hk, hl2 => simp at hk; omega
      | x0 :: t, H, hh, hl, hk, hl2 => exact add_full_any h x0 t H hh ok (by omega) hl hbase
end
end Go.Proofs.Ytbgminlajcmomab
