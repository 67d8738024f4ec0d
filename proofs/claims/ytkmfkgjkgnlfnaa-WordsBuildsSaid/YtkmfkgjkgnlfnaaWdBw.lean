/- The program's Build, walked. Conditions: those that each theorem names. -/
import Derived.Test.YtkmfkgjkgnlfnaaWdB
namespace Go.Proofs.Ytkmfkgjkgnlfnaa
set_option linter.unusedVariables false
namespace Wd
open Go Go.RowKit Go.Shelf Go.Sort Go.Maps Pq Pq.Pl Rk Ids
open Go.ChangeMaps (setBlock)
/-- What the loop of Build starts from. -/
structure BldC (w w3 : World) (M0 M : Nat) (n : Nat) (v vi : Value) (L : List Pt) (IL : List Int) : Prop where
  pts : PtsAt w v L
  mp : Mp Try.prog 3 w3 M0 (lastS L) n
  m0 : M0 < w3.heap.size
  ne : M0 ≠ M
  ids : ∃ g cap, vi = .slice (some ⟨g, 0, none⟩) IL.length cap ∧ g < w3.heap.size ∧ g ≠ M ∧ ∀ W : World, W.heap[g]? = w3.heap[g]? → ∀ j (h : j < IL.length), W.cell? ⟨g, j, none⟩ = some (.int .i64 IL[j])
  mem : ∀ x, x ∈ IL ↔ x ∈ L.map fun p => p.id
  bel : Below w.heap.size w w3
  hM : w.heap.size ≤ M
  len : IL.length ≤ L.length
/-- What a round of Build reads of the points. -/
theorem bld_reads {w w3 wr : World} {M0 M n k : Nat} {v vi : Value} {L : List Pt} {IL : List Int} {s : Nm} (C : BldC w w3 M0 M n v vi L IL) (hb : Below w.heap.size w wr) (hk : k < IL.length) (hold : ∀ b, b < w3.heap.size → b ≠ M → wr.heap[b]? = w3.heap[b]?) :
    ∃ (j : Nat) (hj : j < L.length) (g off c : Nat) (r : Rp), v = .slice (some ⟨g, off, none⟩) L.length c ∧ (Instr.lookup 55 (.map (some M0)) (.int .i64 IL[k]) false).run Try.prog wr = .ok (.int .i64 (j : Int)) wr ∧
      wr.cell? ⟨g, off + j * 3 + 2, none⟩ = some (slv r.f) ∧ FldsAt wr (slv r.f) (L[j]).flds ∧ last (rlOf L s) IL[k] = some (getL (L[j]).flds s) := by
  have hin : IL[k] ∈ L.map fun p => p.id := (C.mem _).1 (List.getElem_mem hk)
  obtain ⟨u, hu⟩ := (lastS_has L IL[k]).2 hin
  obtain ⟨j, hj, _, rfl⟩ := lastS_one hu
  obtain ⟨_, hlast⟩ := last_at s _ L rfl IL[k] j hj hu
  obtain ⟨g, off, c, ev, hg, hc⟩ := pts_at (C.pts.below hb) (fun p c e => by obtain ⟨p', c', e'⟩ := C.pts.form; rw [e'] at e; injection e with _ e; omega)
  obtain ⟨r, ⟨_, _, hf⟩, hcell⟩ := hc j hj
  have hm := (C.mp.kept (w' := wr) (hold M0 C.m0 C.ne)).look int_keyed Try.underlying55 (z := .int .i64 0) Try.zeroValue3 hu false wr rfl
  exact ⟨j, hj, g, off, c, r, ev, hm, (hcell wr rfl).2.2, hf, hlast⟩
set_option maxHeartbeats 4000000 in
set_option maxRecDepth 100000 in
theorem build_any (L : List Pt) (v : Value) (s : Nm) (w : World) (h : PtsAt w v L) (hl : L.length * 56 ≤ 140737488355328) (hok : ∀ p ∈ L, OkP p) :
    Calls Try.prog 8 #[v, .string s] w fun e w' => ∃ B R, e = .returned (.pointer (some ⟨B, 0, none⟩)) ∧ IxAt w' w.heap.size B R ∧ (∀ y, y ∈ R ↔ y ∈ rowsL (rlOf L s)) ∧ Below w.heap.size w w' := by
  have hmm := @run_makeMap Try.prog
  have HL := Lib.hid hl
  have HS : Hid (L.length ≤ maxLen) := Lib.hid (by unfold maxLen; omega)
  have C1 := Lib.hid (lasts_any L v w h (by unfold Room; omega) (fun p hp => (hok p hp).id))
  have HP := Lib.hid h
  have HO := Lib.hid hok
  obtain ⟨p, c, rfl⟩ := h.form
  clear hl h hok
  go_enter Try.func8, Try.ntmps8
  go_wp2_with fail
  refine C1.out.mono ?_
  rintro e w1 ⟨M0, n, rfl, hn, hm, hM0, hb1⟩
  have HC0 := Lib.hid (fun mb W => keys_any mb W)
  have hcs := sorted_any (w := w1.alloc (.map #[] 0)) (hm.kept (w' := w1.alloc (.map #[] 0)) (Rk.heap_old _ _ hm.lt)) (by have := HL.out; omega)
  rw [show (w1.alloc (.map #[] 0)).heap.size = w1.heap.size + 1 by simp] at hcs
  have HCS := Lib.hid hcs
  clear hcs
  have HM := Lib.hid hm
  have HN := Lib.hid hn
  have HB1 := Lib.hid hb1
  have HM0 := Lib.hid hM0
  clear hn hm hM0 hb1 C1
  go_wp2_with (first
    | (go_at_call 26; refine (HC0.out _ _).mono ?_; rintro e w2 ⟨rfl, rfl⟩)
    | (go_at_call 25; refine HCS.out.mono ?_; rintro e w3 ⟨vi, IL, rfl, hris, hmem, hlen, hown, hb3⟩
       have HC : Hid (BldC w w3 M0 w1.heap.size n (.slice p L.length c) vi L IL ∨ IL = []) := Lib.hid (by
         have b13 : Below w1.heap.size w1 w3 := (Rk.fresh_alloc w1 (.map #[] 0)).trans (hb3.mono (by simp))
         have hs : (w1.alloc (.map #[] 0)).heap.size = w1.heap.size + 1 := by simp
         have hs3 := hb3.size
         rcases Nat.eq_zero_or_pos IL.length with h0 | h0
         · exact .inr (List.length_eq_zero_iff.1 h0)
         · left
           obtain ⟨g, cap, e, hg1, hg2⟩ := own_form hown h0
           refine ⟨HP.out, HM.out.kept (b13.block M0 HM.out.lt), Nat.lt_of_lt_of_le HM.out.lt b13.size, Nat.ne_of_lt HM.out.lt, ⟨g, cap, e, hg2, by omega, fun W hW j hj => ?_⟩, fun x => ?_, HB1.out.trans (b13.mono HB1.out.size), HB1.out.size, by have := HN.out; omega⟩
           · rcases hown.2 with ⟨e2, _⟩ | ⟨g', cap', cur, e2, _, hgc, h1, h2, h3, h4⟩
             · rw [e2] at e; cases e
             · rw [e] at e2
               injection e2 with e3
               injection e3 with e3
               injection e3 with e3
               subst e3
               rw [cell_of_row _ _ _ _ _ _ (hW.trans hgc)]
               have e5 : (cur.toList.take (IL.length * 1))[j]? = (ints IL)[j]? := by rw [h4]
               rw [List.getElem?_take, if_pos (by omega), Array.getElem?_toList] at e5
               rw [e5]
               simp [ints, hj]
           · rw [hmem, lastS_has])
       have HR := Lib.hid hris
       have HLN := Lib.hid hlen
       have HB3 := Lib.hid hb3
       have HMEM : Hid (∀ x, x ∈ IL ↔ x ∈ L.map fun p => p.id) := Lib.hid (fun x => by rw [hmem, lastS_has])
       obtain ⟨pi, ci, rfl⟩ := hown.at.form
       clear hris hmem hlen hown hb3))
  have HIS : Hid (IL.length ≤ maxLen) := Lib.hid (by have := HLN.out; have := HN.out; have := HS.out; omega)
  have HW13 : Hid (w1.heap.size ≤ w3.heap.size ∧ w1.heap.size < w3.heap.size) := Lib.hid (by have := HB3.out.size; simp at this; omega)
  have H0 : Hid (BldW w w3 w1.heap.size (rlOf L s) IL 0 w3) := Lib.hid (by
    have b1 : Below w1.heap.size w1 w3 := (Rk.fresh_alloc w1 (.map #[] 0)).trans (HB3.out.mono (by simp))
    exact ⟨[], (grp_made w1 w3.heap.size).below (by simpa using HB3.out), by simp [gpOf, grpL], HB1.out.trans (b1.mono HB1.out.size), fun b _ _ => rfl, Nat.le_refl _⟩)
  clear HC0 HCS HM HB3
  go_loopw [18] (fun i wr => ∃ k : Nat, k ≤ IL.length ∧ i = .int .i64 k ∧ BldW w w3 w1.heap.size (rlOf L s) IL k wr) (fun i _ => IL.length - (RowKit.intOf i).toNat)
  case atStart => exact ⟨0, Nat.zero_le _, rfl, H0.out⟩
  case round =>
    obtain ⟨k, hk, rfl, hr⟩ := hrel
    by_cases hlt : k < IL.length
    · have C : BldC w w3 M0 w1.heap.size n (.slice p L.length c) (.slice pi IL.length ci) L IL := by
        rcases HC.out with C | e
        · exact C
        · subst e; exact absurd hlt (by simp)
      have HR2 := Lib.hid hr
      obtain ⟨G, g1, g2, g3, g4, g5⟩ := hr
      obtain ⟨j, hj, g, off, c', r, ev, hlook, hcell, hf, hlast⟩ := bld_reads (s := s) C g3 hlt g4
      injection ev with ev1 ev2 ev3
      subst ev1
      obtain ⟨gi, cap, evi, hgi, hgM, hids⟩ := C.ids
      injection evi with evi1 evi2 evi3
      subst evi1
      have hid := hids wr (g4 gi hgi hgM) k hlt
      have hx : IL[k]? = some IL[k] := List.getElem?_eq_getElem hlt
      generalize IL[k] = x at *
      have HG := Lib.hid (fun W (hb : Below wr.heap.size wr W) => get_any (L[j]).flds (slv r.f) s W (hf.below hb) (HO.out _ (List.getElem_mem hj)).flds)
      have HOKV := Lib.hid (fun v (h : last (rlOf L s) x = some (some v)) => rows_ok HO.out h)
      generalize getL (L[j]).flds s = q at *
      have HLAST := Lib.hid hlast
      have HX := Lib.hid hx
      have HJ : Hid (j < L.length) := Lib.hid hj
      have hjl : (j : Int) < (L.length : Int) := by omega
      obtain ⟨rid, ⟨vp, vn, vc⟩, ⟨fp, fn, fc⟩⟩ := r
      simp only at hcell HG
      clear C g1 g2 g3 g4 g5 hf hids hgi hgM hlast hx evi2 evi3 ev2 ev3 hj
      go_wp2_with fail
      refine (HG.out wr (Below.refl _ _)).mono ?_
      rintro e w4 ⟨rfl, hb4⟩
      have HB4 := Lib.hid hb4
      clear hb4 hid hlook hcell HG
      cases q with
      | none =>
        simp only [gotV]
        have HNX := Lib.hid (bld_next HR2.out HX.out HLAST.out (HB4.out.trans ((Rk.fresh_alloc w4 (.cells #[.int .i64 0, .int .i64 0, .string ⟨#[]⟩] 24)).mono HB4.out.size)) (by have := HB1.out.size; have := HW13.out; omega))
        go_wp2_with fail
        go_roundw
        case rel => exact ⟨k + 1, by omega, congrArg _ (wrap_s HIS.out hlt), HNX.out⟩
        case measure =>
          rw [wrap_s HIS.out hlt]
          exact int_lessV hlt
      | some y =>
        simp only [gotV]
        have hoy := HOKV.out y HLAST.out
        have HOY := Lib.hid hoy
        obtain ⟨d0, d1, d2⟩ := cells3_of (Pq.heap_last w4 (vobj y))
        have HCL := Lib.hid (clone_any y.text (w4.alloc (vobj y)) hoy.2.2)
        clear hoy
        go_wp2_with fail
        refine HCL.out.mono ?_
        rintro e w6 ⟨rfl, hb6⟩
        have x6 : w6.heap[w4.heap.size]? = some (vobj y) := (hb6.block _ (by simp)).trans (Pq.heap_last w4 (vobj y))
        have B6 : Below wr.heap.size wr w6 := HB4.out.trans (((Rk.fresh_alloc w4 (vobj y)).trans (hb6.mono (by simp))).mono HB4.out.size)
        have hvb := HB4.out.size
        obtain ⟨u, o1, st, sN, W5, o2, a1, a2, a3, hnx⟩ := bld_put HR2.out HX.out HLAST.out HOY.out (W7 := w6.setCell ⟨w4.heap.size, 2, none⟩ (.string y.text)) (B6.setCell (p := ⟨w4.heap.size, 2, none⟩) hvb _) (by have := HB1.out.size; have := HW13.out; omega) HB1.out.size (by have := HL.out; have := HLN.out; have := HN.out; omega)
        rw [show (w6.setCell ⟨w4.heap.size, 2, none⟩ (.string y.text)).heap.size = w6.heap.size by simp] at a2
        obtain ⟨e0, e1, e2⟩ := cells3_of x6
        have k2 : w6.frozen? ⟨w4.heap.size, 2, none⟩ = false := Lib.frozen_of_heap x6 2
        obtain ⟨f0, f1, f2⟩ := cells3_of (setCell_at (k := 2) x6 (.string y.text))
        have HNX := Lib.hid hnx
        obtain ⟨up, un, uc⟩ := u
        obtain ⟨sp, sn, sc⟩ := sN
        obtain ⟨yk, yn, yt⟩ := y
        simp only at a1 a2 a3 e0 e1 e2 f0 f1 f2
        clear hnx hb6 x6 B6 hvb d0 d1 d2
        go_wp2_with (at_builtin; refine wpList_append_run rfl _ _ _ _ rfl _ _ _ _ rfl rfl a2 ?_)
        go_roundw
        case rel => exact ⟨k + 1, by omega, congrArg _ (wrap_s HIS.out hlt), HNX.out⟩
        case measure =>
          rw [wrap_s HIS.out hlt]
          exact int_lessV hlt
    · obtain rfl : k = IL.length := by omega
      have HR2 := Lib.hid hr
      clear hr
      go_wp2_with fail
      go_ret
      obtain ⟨G, g1, g2, g3, g4, g5⟩ := HR2.out
      rw [List.take_length] at g2
      refine ⟨wr.heap.size, IL.map (rowT (rlOf L s)), rfl, ⟨w1.heap.size, G, w3.heap.size, Rk.heap_last _ _, g1.below (Rk.fresh_alloc _ _), g2, by have := HB1.out.size; have := HW13.out; omega, HB1.out.size, by have := g3.size; omega, by simp, ?_, ?_, ?_⟩, rows_are HMEM.out, g3.trans ((Rk.fresh_alloc _ _).mono g3.size)⟩
      · rw [List.map_map]
        have : (Prod.fst ∘ rowT (rlOf L s)) = id := rfl
        rw [this, List.map_id]
        exact HR.out
      · rw [List.length_map]; have := HL.out; have := HLN.out; have := HN.out; omega
      · intro r hr v hv
        obtain ⟨x, hx, rfl⟩ := List.mem_map.1 hr
        obtain ⟨o, ho⟩ := last_some s ((HMEM.out x).1 hx)
        have e : (rowT (rlOf L s) x).2 = o := by show (last _ x).getD none = o; rw [ho]; rfl
        rw [e] at hv
        subst hv
        exact rows_ok HO.out ho
end Wd
end Go.Proofs.Ytkmfkgjkgnlfnaa
