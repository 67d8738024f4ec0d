/- The document's own rows of an index: Rows. Conditions: those that each theorem names. -/
import Derived.Test.YtkmfkgjkgnlfnaaWdB
import Derived.Deep.QuietTactic
import Derived.BigQuiet
namespace Go.Proofs.Ytkmfkgjkgnlfnaa
set_option linter.unusedVariables false
namespace Wd
open Go Go.RowKit Go.Shelf Go.Sort Go.Maps Pq Pq.Pl Rk Ids
/-! ### Rows of ids, values, whether there is one -/
def valO : Option Val → Val
  | none => ⟨0, 0, ⟨#[]⟩⟩
  | some v => v
def encR (r : Rw Val) : List Value := [.int .i64 r.1, .int .i64 (valO r.2).kind, .int .i64 (valO r.2).n, .string (valO r.2).text, .bool r.2.isSome]
abbrev robj (r : Rw Val) : Obj := .cells #[.int .i64 r.1, .int .i64 (valO r.2).kind, .int .i64 (valO r.2).n, .string (valO r.2).text, .bool r.2.isSome] 68
theorem flatR : Flat Try.prog encR 5 68 28 48 where
  under := Try.underlying28
  info := info_of (z := .agg #[.int .i64 0, .int .i64 0, .int .i64 0, .string ⟨#[]⟩, .bool false]) (by kernel_rfl) rfl
  pos := by decide
  len _ := rfl
  one x u hu := by simp [encR] at hu; rcases hu with rfl | rfl | rfl | rfl | rfl <;> rfl
abbrev OwnR (w : World) (base : Nat) (v : Value) (L : List (Rw Val)) : Prop := Rk.Own encR 5 68 w base v L
theorem gotV_is (q : Option Val) : gotV q = .tuple #[vv (valO q), .bool q.isSome] := by cases q <;> rfl
theorem cells5_own {w : World} {base g n cap : Nat} {L : List (Rw Val)} (h : OwnR w base (.slice (some ⟨g, 0, none⟩) n cap) L) (j : Nat) (hj : j < L.length) :
    (w.cell? ⟨g, j * 5, none⟩ = some (.int .i64 (L[j]).1) ∧ w.frozen? ⟨g, j * 5, none⟩ = false) ∧ (w.cell? ⟨g, j * 5 + 1, none⟩ = some (.int .i64 (valO (L[j]).2).kind) ∧ w.frozen? ⟨g, j * 5 + 1, none⟩ = false) ∧
    (w.cell? ⟨g, j * 5 + 2, none⟩ = some (.int .i64 (valO (L[j]).2).n) ∧ w.frozen? ⟨g, j * 5 + 2, none⟩ = false) ∧ (w.cell? ⟨g, j * 5 + 3, none⟩ = some (.string (valO (L[j]).2).text) ∧ w.frozen? ⟨g, j * 5 + 3, none⟩ = false) ∧
    (w.cell? ⟨g, j * 5 + 4, none⟩ = some (.bool (L[j]).2.isSome) ∧ w.frozen? ⟨g, j * 5 + 4, none⟩ = false) :=
  ⟨Rk.own_cell flatR h j hj (i := 0) rfl, Rk.own_cell flatR h j hj (i := 1) rfl, Rk.own_cell flatR h j hj (i := 2) rfl, Rk.own_cell flatR h j hj (i := 3) rfl, Rk.own_cell flatR h j hj (i := 4) rfl⟩
/-- What stands in the rows behind k points. -/
def RowW (w : World) (L : List Pt) (s : Nm) (k : Nat) (o : Value) (wr : World) : Prop := OwnR wr w.heap.size o (rowsL (rlOf (L.take k) s)) ∧ Below w.heap.size w wr
theorem rl_next {L : List Pt} {s : Nm} {k : Nat} (hk : k < L.length) : rowsL (rlOf (L.take (k + 1)) s) = putRow ((L[k]).id, getL (L[k]).flds s) (rowsL (rlOf (L.take k) s)) := by
  have e : rlOf (L.take (k + 1)) s = rlOf (L.take k) s ++ [((L[k]).id, getL (L[k]).flds s)] := by
    unfold rlOf
    rw [List.take_add_one, List.getElem?_eq_getElem hk, List.map_append]
    rfl
  rw [e, rowsL_snoc]
theorem rl_length (L : List Pt) (s : Nm) (k : Nat) : (rowsL (rlOf (L.take k) s)).length ≤ k := by
  have := rowsL_length (rlOf (L.take k) s)
  unfold rlOf at this ⊢
  simp at this ⊢
  omega
/-- Only draws. -/
def Dr (w w' : World) : Prop := w'.heap = w.heap ∧ Below w.heap.size w w'
theorem Dr.refl (w : World) : Dr w w := ⟨rfl, Below.refl _ _⟩
theorem Dr.drewN {w w' : World} (h : Dr w w') (n : Nat) : Dr w (w'.drewN n) := ⟨h.1, below_drewN h.2 n⟩
theorem Dr.drew {w w' : World} (h : Dr w w') : Dr w w'.drew := h.drewN 1
theorem Dr.block {w w' : World} (h : Dr w w') (g : Nat) : w'.heap[g]? = w.heap[g]? := by rw [h.1]
theorem below_setCells {B g : Nat} {w0 : World} (hg : B ≤ g) : ∀ (vs : List Value) (o : Nat) {w : World}, Below B w0 w → Below B w0 (w.setCells g o vs)
  | [], _, _, h => h
  | v :: r, o, _, h => below_setCells hg r (o + 1) (h.setCell (p := ⟨g, o, none⟩) hg v)
/-- A row of the document's laid over another's place. -/
theorem row_done {w W6 : World} {L : List Pt} {s : Nm} {k a gr co : Nat} {R : List (Rw Val)} {x : Rw Val} (hb : Below w.heap.size w W6) (hown : OwnR W6 w.heap.size (.slice (some ⟨gr, 0, none⟩) R.length co) R) (ha : a < R.length) (hn : rowsL (rlOf (L.take (k + 1)) s) = R.set a x) :
    RowW w L s (k + 1) (.slice (some ⟨gr, 0, none⟩) R.length co) (W6.setCells gr (a * 5) (encR x)).drew := by
  have h1 := own_set flatR hown a ha x
  have hg := (Rk.own_block hown gr rfl).1
  have h2 := below_setCells hg (encR x) (a * 5) hb
  generalize W6.setCells gr (a * 5) (encR x) = W7 at *
  refine ⟨?_, h2.drew⟩
  rw [hn]
  exact own_keep (w := W7) h1 (fun _ _ _ => rfl)
set_option maxHeartbeats 8000000 in
set_option maxRecDepth 100000 in
theorem rrows_any (L : List Pt) (v : Value) (s : Nm) (w : World) (h : PtsAt w v L) (hl : L.length * 56 ≤ 140737488355328) (hok : ∀ p ∈ L, FldsOk p.flds) :
    Calls Try.prog 9 #[v, .string s] w fun e w' => ∃ u, e = .returned u ∧ OwnR w' w.heap.size u (rowsL (rlOf L s)) ∧ Below w.heap.size w w' := by
  have HL := Lib.hid hl
  have HS : Hid (L.length ≤ maxLen) := Lib.hid (by unfold maxLen; omega)
  have HP := Lib.hid h
  have HO := Lib.hid hok
  obtain ⟨p, c, rfl⟩ := h.form
  clear hl h hok
  go_enter Try.func9, Try.ntmps9
  go_wp2_with fail
  go_loopw [5, 6] (fun o i wr => ∃ k : Nat, k ≤ L.length ∧ i = .int .i64 k ∧ RowW w L s k o wr) (fun _ i _ => L.length - (RowKit.intOf i).toNat)
  case atStart => exact ⟨0, Nat.zero_le _, rfl, own_none _ _, Below.refl _ _⟩
  case round =>
    obtain ⟨k, hk, rfl, hr⟩ := hrel
    by_cases hlt : k < L.length
    · obtain ⟨wo, rfl⟩ : ∃ wo : World, wo = wr := ⟨_, rfl⟩
      have HR := Lib.hid hr
      obtain ⟨ho, hb⟩ := hr
      obtain ⟨g, off, c', ev, hg, hc⟩ := pts_at HP.out (fun p c e => by injection e with _ e; omega)
      injection ev with ev1 ev2 ev3
      subst ev1
      obtain ⟨r, ⟨hid, _, hf⟩, hcell⟩ := hc k hlt
      obtain ⟨c0, c1, c2⟩ := hcell wo (hb.block g hg)
      have HG := Lib.hid (rget_any (L[k]).flds (slv r.f) s wo (hf.below hb) (HO.out _ (List.getElem_mem hlt)))
      have HC5 := Lib.hid (fun W (hW : Below w.heap.size w W) => (hcell W (hW.block g hg)).1)
      have HLT := Lib.hid (fun g0 h0 => (Rk.own_block ho g0 h0).2)
      have HNX : Hid (rowsL (rlOf (L.take (k + 1)) s) = putRow (r.id, getL (L[k]).flds s) (rowsL (rlOf (L.take k) s))) := Lib.hid (by rw [hid]; exact rl_next hlt)
      have HRL := Lib.hid (rl_length L s k)
      obtain ⟨rid, ⟨vp, vn, vc⟩, ⟨fp, fn, fc⟩⟩ := r
      simp only at c0 c1 c2 HG HC5 HNX
      obtain ⟨po, co, rfl⟩ := (own_row flatR ho).form
      have HOW := Lib.hid ho
      have HB := Lib.hid hb
      clear ho hb hc hcell hf hid ev2 ev3 hg c0 c1 HR
      generalize getL (L[k]).flds s = q at *
      generalize rowsL (rlOf (L.take k) s) = R at *
      rw [gotV_is] at HG
      have hklt : (k : Int) < (L.length : Int) := by omega
      go_wp2_with fail
      refine HG.out.mono ?_
      rintro e w4 ⟨rfl, hb4⟩
      have HB4 := Lib.hid hb4
      clear hb4 c2 HG
      go_wp2_with fail
      obtain ⟨W5, hW5⟩ : ∃ W5, W5 = w4.alloc (vobj (valO q)) := ⟨_, rfl⟩
      have b5 : Below wo.heap.size wo W5 := by rw [hW5]; exact HB4.out.trans ((Rk.fresh_alloc w4 _).mono HB4.out.size)
      have HV5 : Hid (∀ W : World, W.heap[w4.heap.size]? = W5.heap[w4.heap.size]? → W.cell? ⟨w4.heap.size, 0, none⟩ = some (.int .i64 (valO q).kind) ∧ W.cell? ⟨w4.heap.size, 1, none⟩ = some (.int .i64 (valO q).n) ∧ W.cell? ⟨w4.heap.size, 2, none⟩ = some (.string (valO q).text)) := Lib.hid (fun W hW => cells3_of (hW.trans (by rw [hW5]; exact Pq.heap_last w4 (vobj (valO q)))))
      have HO5 : Hid (∀ W : World, Dr W5 W → OwnR W w.heap.size (.slice po R.length co) R) := Lib.hid (fun W hW => Rk.own_below (Rk.own_below HOW.out b5) hW.2)
      have HB5 : Hid (Below w.heap.size w W5) := Lib.hid (HB.out.trans (b5.mono HB.out.size))
      have HW4 : Hid (w4.heap.size < W5.heap.size ∧ w.heap.size ≤ w4.heap.size ∧ wo.heap.size ≤ w4.heap.size) := Lib.hid (by rw [hW5]; have := HB4.out.size; have := HB.out.size; simp; omega)
      have HBD : Hid (∀ W, Dr W5 W → Below w.heap.size w W) := Lib.hid (fun W hW => HB5.out.trans (hW.2.mono HB5.out.size))
      have HRM : Hid (R.length ≤ maxLen) := Lib.hid (by have := HRL.out; have := HS.out; omega)
      rw [← hW5]
      clear b5 hW5 HOW HB HB4
      go_loopw [9] (fun a wx => ∃ a' : Nat, a' ≤ R.length ∧ a = .int .i64 a' ∧ Hid (∀ j (h : j < R.length), j < a' → (R[j]).1 ≠ rid) ∧ Dr W5 wx) (fun a _ => R.length - (RowKit.intOf a).toNat)
      case atStart => exact ⟨0, Nat.zero_le _, rfl, Lib.hid (fun j _ h => absurd h (Nat.not_lt_zero _)), Dr.refl _⟩
      case round =>
        obtain ⟨a, ha, rfl, HNO, hdr⟩ := hrel
        have HDR := Lib.hid hdr
        by_cases hla : a < R.length
        · have hown := HO5.out wr hdr
          obtain ⟨gr, cap, epo, hgr1, hgr2⟩ := Rk.own_form hown (by omega)
          injection epo with ep1 ep2 ep3
          subst ep1
          subst ep3
          obtain ⟨⟨k0, z0⟩, ⟨k1, z1⟩, ⟨k2, z2⟩, ⟨k3, z3⟩, ⟨k4, z4⟩⟩ := cells5_own hown a hla
          have c0 := HC5.out wr (HBD.out wr hdr)
          clear hown hdr ep2 hgr1 hgr2
          have hal : (a : Int) < (R.length : Int) := by omega
          by_cases hrid : (R[a]).1 = rid
          · rw [hrid] at k0
            go_wp2_with fail
            go_quiet (fail)
            obtain ⟨W6, hW6⟩ : ∃ W6, W6 = wr.drewN nq := ⟨_, rfl⟩
            have HD6 : Hid (Dr W5 W6) := Lib.hid (by rw [hW6]; exact HDR.out.drewN nq)
            rw [← hW6]
            clear hW6 k0 k1 k2 k3 k4 z0 z1 z2 z3 z4 c0
            have hown := HO5.out W6 HD6.out
            obtain ⟨⟨k0, z0⟩, ⟨k1, z1⟩, ⟨k2, z2⟩, ⟨k3, z3⟩, ⟨k4, z4⟩⟩ := cells5_own hown a hla
            have c0 := HC5.out W6 (HBD.out W6 HD6.out)
            obtain ⟨d0, d1, d2⟩ := HV5.out W6 (HD6.out.block _)
            have hane : ((a : Int) == (R.length : Int)) = false := by simp; omega
            have HX : Hid (RowW w L s (k + 1) (.slice (some ⟨gr, 0, none⟩) R.length co) (W6.setCells gr (a * 5) (encR (rid, q))).drew) := Lib.hid (row_done (HBD.out W6 HD6.out) hown hla (HNX.out.trans ((putRow_at (rid, q) R a (Nat.le_of_lt hla) (fun j hj hja => HNO.out j hj hja)).1 hla hrid)))
            clear hown hrid
            go_wp2_with fail
            go_region
            go_wp2_with fail
            go_roundw
            case rel => exact ⟨k + 1, by omega, congrArg _ (wrap_s HS.out hlt), HX.out⟩
            case measure =>
              rw [wrap_s HS.out hlt]
              exact int_lessV hlt
          · have hne : ((R[a]).1 != rid) = true := by simpa using hrid
            go_wp2_with fail
            go_quiet (fail)
            go_wp2_with fail
            go_roundw
            case rel => exact ⟨a + 1, by omega, congrArg _ (wrap_s HRM.out hla), Lib.hid (fun j hj hja => by
              rcases Nat.lt_or_ge j a with c | c
              · exact HNO.out j hj c
              · obtain rfl : j = a := by omega
                exact hrid), HDR.out.drewN _⟩
            case measure =>
              rw [wrap_s HRM.out hla]
              exact int_lessV hla
        · obtain rfl : a = R.length := by omega
          clear hdr
          go_wp2_with fail
          go_region
          obtain ⟨W6, hW6⟩ : ∃ W6, W6 = wr.drew := ⟨_, rfl⟩
          have HD6 : Hid (Dr W5 W6) := Lib.hid (by rw [hW6]; exact HDR.out.drew)
          rw [← hW6]
          clear hW6
          have hown := HO5.out W6 HD6.out
          have b6 := HBD.out W6 HD6.out
          have hA : Below W6.heap.size W6 (W6.alloc (robj (0, none))) := Rk.fresh_alloc _ _
          obtain ⟨v', W7, happ, ho7, hg7, _, g', cap, rfl, hg1, hg2⟩ := append_el flatR (Rk.own_below hown hA) (x := (0, none)) (m := (0, 0)) (Rk.heap_last W6 (robj (0, none))) (by have := HRL.out; have := HL.out; omega) (by have := HRL.out; have := HS.out; omega) (by have := b6.size; simp; omega)
          have b7 : Below w.heap.size w W7 := (b6.trans (hA.mono b6.size)).grown hg7 (b6.trans (hA.mono b6.size)).size (fun j hj => (Rk.own_block (Rk.own_below hown hA) j hj).1)
          have hl7 : (R ++ [(0, none)]).length = R.length + 1 := by simp
          have ho7' : OwnR W7 w.heap.size (.slice (some ⟨g', 0, none⟩) (R ++ [(0, none)]).length cap) (R ++ [(0, none)]) := by rw [hl7]; exact ho7
          have hlt7 : R.length < (R ++ [((0 : Int), (none : Option Val))]).length := by rw [hl7]; omega
          obtain ⟨⟨k0, z0⟩, ⟨k1, z1⟩, ⟨k2, z2⟩, ⟨k3, z3⟩, ⟨k4, z4⟩⟩ := cells5_own ho7' R.length hlt7
          have c0 := HC5.out W7 b7
          have hd7 : W7.heap[w4.heap.size]? = W5.heap[w4.heap.size]? := by
            have h1 := hg7.block w4.heap.size (by have := HD6.out.2.size; have := HW4.out.1; simp; omega) (fun e => by
              have := HLT.out w4.heap.size e.symm
              have := HW4.out.2.2
              omega)
            exact h1.trans ((hA.block w4.heap.size (by have := HD6.out.2.size; have := HW4.out.1; omega)).trans (HD6.out.block _))
          obtain ⟨d0, d1, d2⟩ := HV5.out W7 hd7
          have HX : Hid (RowW w L s (k + 1) (.slice (some ⟨g', 0, none⟩) (R ++ [(0, none)]).length cap) (W7.setCells g' (R.length * 5) (encR (rid, q))).drew) := Lib.hid (row_done b7 ho7' hlt7 (HNX.out.trans (by
            rw [(putRow_at (rid, q) R R.length (Nat.le_refl _) (fun j hj hja => HNO.out j hj hja)).2 rfl]
            simp)))
          rw [hl7] at HX
          simp only [List.getElem_append_right, Nat.le_refl, Nat.sub_self, List.getElem_cons_zero] at k0 k1 k2 k3 k4
          clear ho7 ho7' hlt7 hd7 hg7 b7 b6 hA hown hl7 hg1 hg2
          go_wp2_with (at_builtin; refine wpList_append_run rfl _ _ _ _ rfl _ _ _ _ rfl rfl happ ?_)
          have hrl : (R.length : Int) < (R.length : Int) + 1 := by omega
          go_region
          go_wp2_with fail
          go_roundw
          case rel => exact ⟨k + 1, by omega, congrArg _ (wrap_s HS.out hlt), HX.out⟩
          case measure =>
            rw [wrap_s HS.out hlt]
            exact int_lessV hlt
    · have hr2 := hr
      unfold RowW at hr2
      obtain rfl : k = L.length := by omega
      rw [List.take_length] at hr2
      obtain ⟨po, co, rfl⟩ := (own_row flatR hr2.1).form
      have HR := Lib.hid hr2
      clear hr hr2
      go_wp2_with fail
      go_ret
      exact ⟨_, rfl, HR.out⟩
end Wd
end Go.Proofs.Ytkmfkgjkgnlfnaa
