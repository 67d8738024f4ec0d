/- The walk of the law WordsParts: the ids of all values make up the ids of all points that have one, each once. Conditions: those that each theorem names. -/
import Derived.Test.YtkmfkgjkgnlfnaaWdU
import Derived.Test.YtkmfkgjkgnlfnaaWdV
import Derived.Test.YtkmfkgjkgnlfnaaWdArgs
namespace Go.Proofs.Ytkmfkgjkgnlfnaa
set_option linter.unusedVariables false
namespace Wd
open Go Go.RowKit Go.Shelf Go.Sort Go.Maps Pq Pq.Pl Rk Ids
theorem allL_take {R : List (Rw Val)} {V : List Val} {k : Nat} (hk : k < V.length) : allL R (V.take (k + 1)) = allL R (V.take k) ++ findL R V[k] := by
  unfold allL
  rw [List.take_add_one, List.getElem?_eq_getElem hk, List.flatMap_append]
  simp
theorem allL_len (R : List (Rw Val)) (V : List Val) (k : Nat) : (allL R (V.take k)).length ≤ (allL R V).length := by
  have e : allL R V = allL R (V.take k) ++ allL R (V.drop k) := by
    unfold allL
    rw [← List.flatMap_append, List.take_append_drop]
  rw [e, List.length_append]
  omega
theorem ints_kept {w w' : World} {v : Value} {L : List Int} (h : Go.Proofs.Ytkmfkgjkgnlfnaa.IntsAt w v L) (hs : w.heap.size ≤ w'.heap.size) (g : ∀ b, v.ownBlock = some b → b < w.heap.size → w'.heap[b]? = w.heap[b]?) : Go.Proofs.Ytkmfkgjkgnlfnaa.IntsAt w' v L := by
  rcases h with ⟨rfl, p, c, rfl⟩ | ⟨b, off, c, rfl, hb, hc⟩
  · exact .inl ⟨rfl, p, c, rfl⟩
  · have e := g b rfl hb
    exact .inr ⟨b, off, c, rfl, by omega, fun W hW => hc W (hW.trans e)⟩
/-- A row A ++ F.take m of one's own beside the row F that is read. -/
def Beside (w2 : World) (F : List Int) (fu : Value) (A : List Int) (m : Nat) (all : Value) (wr : World) : Prop :=
  Go.Proofs.Ytkmfkgjkgnlfnaa.Own wr w2.heap.size all (A ++ F.take m) ∧ Below w2.heap.size w2 wr ∧ Go.Proofs.Ytkmfkgjkgnlfnaa.IntsAt wr fu F ∧ ∀ g, fu.ownBlock = some g → g < wr.heap.size ∧ all.ownBlock ≠ some g
theorem beside_next {w2 wr : World} {F A : List Int} {fu all : Value} {m : Nat} (h : Beside w2 F fu A m all wr) (hm : m < F.length) (hb : (A.length + m + 1) * 8 ≤ 140737488355328) {x : Int} (hx : F[m] = x) :
    ∃ v' w', (∀ ty, (Builtin.append_ #[37, 37] ty #[all, .slice (some ⟨wr.heap.size, 0, none⟩) 1 1]).run Try.prog (wr.alloc (.cells #[.int .i64 x] 3)) = .ok v' w') ∧ Beside w2 F fu A (m + 1) v' w' := by
  obtain ⟨ho, hbl, hi, hn⟩ := h
  have hl : (A ++ F.take m).length = A.length + m := by simp; omega
  have hsz : (wr.alloc (.cells #[.int .i64 x] 3)).heap.size = wr.heap.size + 1 := by simp
  have hi0 := Rk.heap_last wr (.cells (encI x).toArray 3)
  obtain ⟨v', w', hr, ho', hg, hob, _⟩ := append_el flatI (Rk.own_below (own_int.1 ho) (Rk.fresh_alloc wr (.cells #[.int .i64 x] 3))) hi0 (by rw [hl]; omega) (by rw [hl]; unfold maxLen; omega) (by rw [hsz]; have := hbl.size; omega)
  rw [hsz] at hob
  have hgs : wr.heap.size + 1 ≤ w'.heap.size := by have := hg.size; omega
  refine ⟨v', w', hr, ?_, ?_, ?_, ?_⟩
  · rw [List.take_add_one, List.getElem?_eq_getElem hm, hx, ← List.append_assoc]
    exact own_int.2 ho'
  · exact (hbl.alloc hbl.size _).grown hg (by rw [hsz]; have := hbl.size; omega) (fun j hj => (ho.block j hj).1)
  · refine ints_kept hi (by omega) fun b hb hbl => ?_
    rw [hg.block b (by omega) (fun e => (hn b hb).2 e.symm)]
    exact Rk.heap_old wr _ hbl
  · intro g hg'
    refine ⟨by have := (hn g hg').1; omega, fun e => ?_⟩
    rcases hob with h | h
    · exact (hn g hg').2 (h.symm.trans e)
    · rw [h] at e
      injection e with e
      have := (hn g hg').1
      omega
theorem any_len' (R : List (Rw Val)) : (anyL R).length ≤ R.length := by
  have := anyL_len R R.length
  rwa [List.take_length] at this
/-- What the law's walk has at the round k: the ids of the first k values, in a row of one's own. -/
def PtWld (w1 w2 : World) (R : List (Rw Val)) (k : Nat) (all : Value) (wr : World) : Prop := Go.Proofs.Ytkmfkgjkgnlfnaa.Own wr w2.heap.size all (allL R ((valsL ltV R).take k)) ∧ Below w2.heap.size w2 wr
theorem wrap_p {n k : Nat} (h : n ≤ maxLen) (hk : k + 1 < n) : wrap64 (((k + 1 : Nat) : Int) - 1) = (k : Int) := by
  unfold maxLen at h; unfold wrap64; omega
theorem hasB_no {L : List Int} {n : Int} (h : n ∉ L) : hasB L n = false := by
  unfold hasB
  simpa using h
theorem ints_cell {w : World} {v : Value} {L : List Int} (h : Go.Proofs.Ytkmfkgjkgnlfnaa.IntsAt w v L) {m : Nat} (hm : m < L.length) : ∃ g off c, v = .slice (some ⟨g, off, none⟩) L.length c ∧ g < w.heap.size ∧ ∀ W : World, W.heap[g]? = w.heap[g]? → ∀ j (hj : j < L.length), W.cell? ⟨g, off + j, none⟩ = some (.int .i64 L[j]) := by
  rcases h with ⟨rfl, _⟩ | ⟨g, off, c, rfl, hg, hc⟩
  · exact absurd hm (Nat.not_lt_zero _)
  · exact ⟨g, off, c, rfl, hg, fun W hW j hj => hc W hW j hj⟩
theorem new_at {R : List (Rw Val)} {A F : List Int} (h : ∀ i ∈ F, i ∉ A) (hn : F.Nodup) (m : Nat) (hm : m < F.length) : F[m] ∉ A ++ F.take m := by
  intro hc
  rcases List.mem_append.1 hc with c | c
  · exact h _ (List.getElem_mem hm) c
  · obtain ⟨j, hj, e⟩ := List.getElem_of_mem c
    rw [List.getElem_take] at e
    have hj' : j < m := by simp at hj; omega
    exact List.pairwise_iff_getElem.1 hn j m (by omega) hm hj' e
set_option maxHeartbeats 8000000 in
set_option maxRecDepth 100000 in
theorem parts_any (v0 : Value) (l0 : List Pt) (a1 : Nm) (w : World) (wf0 : PtsAt w v0 l0) (s0 : OkA l0) :
    Calls Try.prog 5 #[v0, .string a1] w fun e w' => e = .returned (.bool true) ∧ Below w.heap.size w w' := by
  have HBU := Lib.hid (build_any l0 v0 a1 w wf0 (by have := s0.len; omega) s0.ok)
  go_enter Try.func5, Try.ntmps5
  go_wp2_with fail
  refine HBU.out.mono ?_
  rintro e w1 ⟨B, R, rfl, hix, _, hb1⟩
  have HIX := Lib.hid hix
  have HB1 := Lib.hid hb1
  have HR : Hid (R.length * 56 ≤ 140737488355328 ∧ (R.map Prod.fst).Nodup ∧ ∀ r ∈ R, ∀ v, r.2 = some v → OkV v) := Lib.hid (by
    obtain ⟨M, G, rb, h1, h2, h3, h4, h5, h6, h7, h8, h9, h10⟩ := hix
    exact ⟨h9, ris_nodup h8, h10⟩)
  have HVA := Lib.hid (values_any hix)
  clear hix hb1
  go_wp2_with fail
  refine HVA.out.mono ?_
  rintro e w2 ⟨u, rfl, ho, hb2⟩
  have HB2 := Lib.hid hb2
  have HV := Lib.hid ho
  obtain ⟨pu, cu, rfl⟩ := (own_row flatV ho).form
  clear hb2 ho
  have HLV : Hid ((valsL ltV R).length ≤ maxLen) := Lib.hid (by have := valsL_length ordV R; have := HR.out.1; unfold maxLen; omega)
  go_wp2_with fail
  go_loopw [6, 8] (fun all i wr => ∃ k : Nat, k ≤ (valsL ltV R).length ∧ i = .int .i64 k ∧ PtWld w1 w2 R k all wr) (fun _ i _ => (valsL ltV R).length - (RowKit.intOf i).toNat)
  case atStart => exact ⟨0, Nat.zero_le _, rfl, own_nil _ _, Below.refl _ _⟩
  case round =>
    obtain ⟨k, hk, rfl, ho, hb⟩ := hrel
    have HO := Lib.hid ho
    have HB := Lib.hid hb
    by_cases hlt : k < (valsL ltV R).length
    · obtain ⟨g, cap, ev, hg, hv⟩ := cells3_ownV HV.out (by omega)
      injection ev with ev1 ev2 ev3
      subst ev1
      have HCELL := Lib.hid (fun (W : World) (hW : Below w2.heap.size w2 W) (j : Nat) (hj : j < (valsL ltV R).length) => hv W (hW.block g hg) j hj)
      have HIX2 := Lib.hid (fun (W : World) (hW : Below w2.heap.size w2 W) => (HIX.out.below HB2.out).below hW)
      have HNEW0 := Lib.hid (fun i hi => parts_new ordV HR.out.2.1 k hlt (i := i) hi)
      have HTK := Lib.hid (allL_take (R := R) hlt)
      have HALL : Hid ((allL R ((valsL ltV R).take (k + 1))).length ≤ R.length) := Lib.hid (Nat.le_trans (allL_len R _ _) (by rw [parts_len ordV HR.out.2.1]; exact any_len' R))
      have HOKV : Hid (OkV (valsL ltV R)[k]) := Lib.hid (by
        obtain ⟨i, hi⟩ := (mem_valsL ordV).1 (List.getElem_mem hlt)
        exact HR.out.2.2 _ hi _ rfl)
      have HNE0 : Hid ((((findL R (valsL ltV R)[k]).length : Int) == 0) = false) := Lib.hid (by
        have := parts_some ordV (List.getElem_mem hlt)
        have h2 : (findL R (valsL ltV R)[k]).length ≠ 0 := fun e => this (List.length_eq_zero_iff.1 e)
        simpa using h2)
      clear hv ev2 ev3 hg
      have hklt : (k : Int) < ((valsL ltV R).length : Int) := by omega
      have HCK := Lib.hid (fun (W : World) (hW : Below w2.heap.size w2 W) => HCELL.out W hW k hlt)
      obtain ⟨wo, rfl⟩ : ∃ wo : World, wo = wr := ⟨_, rfl⟩
      by_cases h0 : k = 0
      · have hz : decide (0 < k) = false := by simpa using h0
        clear h0
        generalize (valsL ltV R)[k] = x at *
        have HFI := Lib.hid (find_any (HIX2.out wo hb) x HOKV.out)
        obtain ⟨c0, c1, c2⟩ := HCK.out wo hb
        obtain ⟨xk, xn, xt⟩ := x
        simp only at c0 c1 c2 HCK
        clear hb ho
        go_wp2_with fail
        refine HFI.out.mono ?_
        rintro e w3 ⟨fu, rfl, hfo, hb3⟩
        obtain ⟨fp, fc, rfl⟩ := hfo.at.form
        have HF := Lib.hid hfo
        have HB3 := Lib.hid hb3
        have HOA := Lib.hid (Go.Proofs.Ytkmfkgjkgnlfnaa.own_below HO.out hb3)
        have HBW := Lib.hid (HB.out.trans (hb3.mono HB.out.size))
        have HND := Lib.hid (ris_nodup (ris_findL R ⟨xk, xn, xt⟩))
        have HLA : Hid ((allL R ((valsL ltV R).take k)).length + (findL R ⟨xk, xn, xt⟩).length ≤ R.length) := Lib.hid (by have h := HALL.out; rwa [HTK.out, List.length_append] at h)
        have HLF : Hid ((findL R ⟨xk, xn, xt⟩).length ≤ maxLen) := Lib.hid (by have := HLA.out; have := HR.out.1; unfold maxLen; omega)
        have HNEW := HNEW0
        have hne : (((findL R ⟨xk, xn, xt⟩).length : Int) == 0) = false := HNE0.out
        clear c0 c1 c2 hfo HFI
        generalize findL R ⟨xk, xn, xt⟩ = F at *
        go_wp2_with fail
        go_region
        have HST := Lib.hid (show Beside w2 F (.slice fp F.length fc) (allL R ((valsL ltV R).take k)) 0 _ w3.drew from by
          have b5 := (Below.refl w3.heap.size w3).drew
          refine ⟨by rw [List.take_zero, List.append_nil]; exact Go.Proofs.Ytkmfkgjkgnlfnaa.own_below HOA.out b5, HBW.out.trans (b5.mono HBW.out.size), (Go.Proofs.Ytkmfkgjkgnlfnaa.own_below HF.out b5).at, fun g hg => ⟨by have := (HF.out.block g hg).2; have := b5.size; omega, fun e => ?_⟩⟩
          have h1 := (HF.out.block g hg).1
          have h2 := (HO.out.block g e).2
          omega)
        go_wp2_with fail
        go_loopw [6, 10] (fun a i W => ∃ m : Nat, m ≤ F.length ∧ i = .int .i64 m ∧ Beside w2 F (.slice fp F.length fc) (allL R ((valsL ltV R).take k)) m a W) (fun _ i _ => F.length - (RowKit.intOf i).toNat)
        case atStart => exact ⟨0, Nat.zero_le _, rfl, HST.out⟩
        case round =>
          obtain ⟨m, hm, rfl, hbs⟩ := hrel
          by_cases hlm : m < F.length
          · obtain ⟨g2, off2, c2, hpe, hg2, hcell⟩ := ints_cell hbs.2.2.1 hlm
            injection hpe with hp1 hp2 hp3
            subst hp1
            have hml : (m : Int) < (F.length : Int) := by omega
            have e0 := hcell wr rfl m hlm
            have hnew := new_at (R := R) HNEW.out HND.out m hlm
            have HH := Lib.hid (hasRef_any _ _ F[m] wr hbs.1.at (by have := HLA.out; have := HR.out.1; unfold maxLen; simp; omega))
            rw [hasB_no hnew] at HH
            obtain ⟨v', W', hap, hnx⟩ := beside_next hbs hlm (by have := HLA.out; have := HR.out.1; omega) rfl
            have HNX := Lib.hid hnx
            clear hbs hnx hnew hcell hg2 hp2 hp3
            generalize F[m] = xx at *
            go_wp2_with (first | (go_at_call 21; refine HH.out.mono ?_; rintro e w5 ⟨rfl, rfl⟩) | (at_builtin; refine wpList_append_run (by rfl) _ _ _ _ (by rfl) _ _ v' W' (by rfl) (by rfl) hap ?_))
            go_roundw
            case rel => exact ⟨m + 1, by omega, congrArg _ (wrap_s HLF.out hlm), HNX.out⟩
            case measure =>
              rw [wrap_s HLF.out hlm]
              exact int_lessV hlm
          · obtain rfl : m = F.length := by omega
            have HBS := Lib.hid hbs
            clear hbs
            go_wp2_with fail
            go_roundw
            case rel => exact ⟨k + 1, by omega, congrArg _ (wrap_s HLV.out hlt), by
              have h := HBS.out
              refine ⟨?_, h.2.1⟩
              rw [HTK.out]
              have h1 := h.1
              rwa [List.take_length] at h1⟩
            case measure =>
              rw [wrap_s HLV.out hlt]
              exact int_lessV hlt
      · have hz : decide (0 < k) = true := by simpa using (show 0 < k by omega)
        obtain ⟨k', hk'⟩ : ∃ k', k = k' + 1 := ⟨k - 1, by omega⟩
        have hlt' : k' < (valsL ltV R).length := by omega
        have hklt' : (k' : Int) < ((valsL ltV R).length : Int) := by omega
        have hw1 : wrap64 ((k : Int) - 1) = (k' : Int) := by have := HLV.out; unfold maxLen at this; unfold wrap64; omega
        have hw2 : IntKind.i64.wrap ((k : Int) - 1) = (k' : Int) := by have := HLV.out; unfold maxLen at this; rw [IntKind.wrap_i64]; omega
        have HCY := Lib.hid (fun (W : World) (hW : Below w2.heap.size w2 W) => HCELL.out W hW k' hlt')
        have hcv : ltV (valsL ltV R)[k'] (valsL ltV R)[k] = true := List.pairwise_iff_getElem.1 (ris_valsL ordV R) k' k hlt' hlt (by omega)
        generalize (valsL ltV R)[k'] = y at *
        generalize (valsL ltV R)[k] = x at *
        clear h0 hk' hlt'
        have HCM := Lib.hid (fun W => rcompare_any y.kind y.n x.kind x.n y.text x.text W)
        have hcv' : decide (0 ≤ cmpV y x) = false := by unfold ltV at hcv; simp at hcv; simpa using hcv
        clear hcv
        have HFI := Lib.hid (find_any (HIX2.out wo hb) x HOKV.out)
        obtain ⟨c0, c1, c2⟩ := HCK.out wo hb
        obtain ⟨xk, xn, xt⟩ := x
        obtain ⟨yk, yn, yt⟩ := y
        simp only at c0 c1 c2 HCK HCY HCM
        generalize cmpV ⟨yk, yn, yt⟩ ⟨xk, xn, xt⟩ = cv at *
        clear hb ho
        go_wp2_with fail
        refine HFI.out.mono ?_
        rintro e w3 ⟨fu, rfl, hfo, hb3⟩
        obtain ⟨fp, fc, rfl⟩ := hfo.at.form
        have HF := Lib.hid hfo
        have HB3 := Lib.hid hb3
        have HOA := Lib.hid (Go.Proofs.Ytkmfkgjkgnlfnaa.own_below HO.out hb3)
        have HBW := Lib.hid (HB.out.trans (hb3.mono HB.out.size))
        have HND := Lib.hid (ris_nodup (ris_findL R ⟨xk, xn, xt⟩))
        have HLA : Hid ((allL R ((valsL ltV R).take k)).length + (findL R ⟨xk, xn, xt⟩).length ≤ R.length) := Lib.hid (by have h := HALL.out; rwa [HTK.out, List.length_append] at h)
        have HLF : Hid ((findL R ⟨xk, xn, xt⟩).length ≤ maxLen) := Lib.hid (by have := HLA.out; have := HR.out.1; unfold maxLen; omega)
        have HNEW := HNEW0
        have hne : (((findL R ⟨xk, xn, xt⟩).length : Int) == 0) = false := HNE0.out
        clear c0 c1 c2 hfo HFI
        generalize findL R ⟨xk, xn, xt⟩ = F at *
        go_wp2_with fail
        have hbd := HBW.out.drew
        have hS : w3.drew.cell? ⟨g, k' * 3, none⟩ = some (.int .i64 yk) ∧ w3.drew.cell? ⟨g, k' * 3 + 1, none⟩ = some (.int .i64 yn) ∧ w3.drew.cell? ⟨g, k' * 3 + 2, none⟩ = some (.string yt) ∧ w3.drew.cell? ⟨g, k * 3, none⟩ = some (.int .i64 xk) ∧ w3.drew.cell? ⟨g, k * 3 + 1, none⟩ = some (.int .i64 xn) ∧ w3.drew.cell? ⟨g, k * 3 + 2, none⟩ = some (.string xt) ∧ Below w2.heap.size w2 w3.drew := ⟨(HCY.out _ hbd).1, (HCY.out _ hbd).2.1, (HCY.out _ hbd).2.2, (HCK.out _ hbd).1, (HCK.out _ hbd).2.1, (HCK.out _ hbd).2.2, hbd⟩
        have HK := Lib.hid (fun (z : World) (b3 : Below w3.drew.heap.size w3.drew z) => show z.cell? ⟨g, k' * 3, none⟩ = some (.int .i64 yk) ∧ z.cell? ⟨g, k' * 3 + 1, none⟩ = some (.int .i64 yn) ∧ z.cell? ⟨g, k' * 3 + 2, none⟩ = some (.string yt) ∧ z.cell? ⟨g, k * 3, none⟩ = some (.int .i64 xk) ∧ z.cell? ⟨g, k * 3 + 1, none⟩ = some (.int .i64 xn) ∧ z.cell? ⟨g, k * 3 + 2, none⟩ = some (.string xt) ∧ Below w2.heap.size w2 z from by
          have b4 := hbd.trans (b3.mono hbd.size)
          exact ⟨(HCY.out _ b4).1, (HCY.out _ b4).2.1, (HCY.out _ b4).2.2, (HCK.out _ b4).1, (HCK.out _ b4).2.1, (HCK.out _ b4).2.2, b4⟩)
        have HCM1 := Lib.hid (HCM.out w3.drew)
        clear hb3 hbd
        go_region_held3 (fun x => x.cell? ⟨g, k' * 3, none⟩ = some (.int .i64 yk) ∧ x.cell? ⟨g, k' * 3 + 1, none⟩ = some (.int .i64 yn) ∧ x.cell? ⟨g, k' * 3 + 2, none⟩ = some (.string yt) ∧ x.cell? ⟨g, k * 3, none⟩ = some (.int .i64 xk) ∧ x.cell? ⟨g, k * 3 + 1, none⟩ = some (.int .i64 xn) ∧ x.cell? ⟨g, k * 3 + 2, none⟩ = some (.string xt) ∧ Below w2.heap.size w2 x)
          (first | assumption | exact HK.out _ hb4)
          (first | (go_at_call 20; refine HCM1.out.mono ?_; rintro e w4 ⟨rfl, hb4⟩))
        have HB4 := Lib.hid ((Below.refl w3.heap.size w3).drew.trans hb4)
        clear hb4 hS
        have HST := Lib.hid (show Beside w2 F (.slice fp F.length fc) (allL R ((valsL ltV R).take k)) 0 _ w4 from by
          have b5 := HB4.out
          refine ⟨by rw [List.take_zero, List.append_nil]; exact Go.Proofs.Ytkmfkgjkgnlfnaa.own_below HOA.out b5, HBW.out.trans (b5.mono HBW.out.size), (Go.Proofs.Ytkmfkgjkgnlfnaa.own_below HF.out b5).at, fun g hg => ⟨by have := (HF.out.block g hg).2; have := b5.size; omega, fun e => ?_⟩⟩
          have h1 := (HF.out.block g hg).1
          have h2 := (HO.out.block g e).2
          omega)
        go_wp2_with fail
        go_loopw [6, 10] (fun a i W => ∃ m : Nat, m ≤ F.length ∧ i = .int .i64 m ∧ Beside w2 F (.slice fp F.length fc) (allL R ((valsL ltV R).take k)) m a W) (fun _ i _ => F.length - (RowKit.intOf i).toNat)
        case atStart => exact ⟨0, Nat.zero_le _, rfl, HST.out⟩
        case round =>
          obtain ⟨m, hm, rfl, hbs⟩ := hrel
          by_cases hlm : m < F.length
          · obtain ⟨g2, off2, c2, hpe, hg2, hcell⟩ := ints_cell hbs.2.2.1 hlm
            injection hpe with hp1 hp2 hp3
            subst hp1
            have hml : (m : Int) < (F.length : Int) := by omega
            have e0 := hcell wr rfl m hlm
            have hnew := new_at (R := R) HNEW.out HND.out m hlm
            have HH := Lib.hid (hasRef_any _ _ F[m] wr hbs.1.at (by have := HLA.out; have := HR.out.1; unfold maxLen; simp; omega))
            rw [hasB_no hnew] at HH
            obtain ⟨v', W', hap, hnx⟩ := beside_next hbs hlm (by have := HLA.out; have := HR.out.1; omega) rfl
            have HNX := Lib.hid hnx
            clear hbs hnx hnew hcell hg2 hp2 hp3
            generalize F[m] = xx at *
            go_wp2_with (first | (go_at_call 21; refine HH.out.mono ?_; rintro e w5 ⟨rfl, rfl⟩) | (at_builtin; refine wpList_append_run (by rfl) _ _ _ _ (by rfl) _ _ v' W' (by rfl) (by rfl) hap ?_))
            go_roundw
            case rel => exact ⟨m + 1, by omega, congrArg _ (wrap_s HLF.out hlm), HNX.out⟩
            case measure =>
              rw [wrap_s HLF.out hlm]
              exact int_lessV hlm
          · obtain rfl : m = F.length := by omega
            have HBS := Lib.hid hbs
            clear hbs
            go_wp2_with fail
            go_roundw
            case rel => exact ⟨k + 1, by omega, congrArg _ (wrap_s HLV.out hlt), by
              have h := HBS.out
              refine ⟨?_, h.2.1⟩
              rw [HTK.out]
              have h1 := h.1
              rwa [List.take_length] at h1⟩
            case measure =>
              rw [wrap_s HLV.out hlt]
              exact int_lessV hlt
    · obtain rfl : k = (valsL ltV R).length := by omega
      obtain ⟨wo, rfl⟩ : ∃ wo : World, wo = wr := ⟨_, rfl⟩
      have ho1 := ho
      rw [List.take_length] at ho1
      have HPL := Lib.hid (parts_len ordV HR.out.2.1)
      obtain ⟨pa, ca, ea⟩ := ho1.at.form
      rw [HPL.out] at ea
      subst ea
      have HLE := Lib.hid (any_len' R)
      have HSE := Lib.hid (set_any _ _ wo ho1.at (by have := HPL.out; have := HLE.out; have := HR.out.1; omega))
      rw [parts_set ordV] at HSE
      clear ho hb ho1
      go_wp2_with fail
      refine HSE.out.mono ?_
      rintro e w3 ⟨q3, rfl, ho3, hb3⟩
      have HO3 := Lib.hid ho3
      have HBW := Lib.hid (HB.out.trans (hb3.mono HB.out.size))
      have HX3 := Lib.hid ((HIX.out.below HB2.out).below HBW.out)
      have HAN := Lib.hid (any_any HX3.out)
      clear ho3 hb3
      go_wp2_with fail
      refine HAN.out.mono ?_
      rintro e w4 ⟨q4, rfl, ho4, hb4⟩
      have HX4 := Lib.hid (HX3.out.below hb4)
      have HB4 := Lib.hid (HBW.out.trans (hb4.mono HBW.out.size))
      have HID := Lib.hid (ids_any (anyL R) (anyL R) q3 q4 w4 (HO3.out.at.below hb4) ho4.at (by have := HLE.out; have := HR.out.1; unfold maxLen; omega) (by have := HLE.out; have := HR.out.1; unfold maxLen; omega))
      rw [eqB_same] at HID
      clear ho4 hb4
      go_wp2_with fail
      refine HID.out.mono ?_
      rintro e w5 ⟨rfl, hb5⟩
      have HX5 := Lib.hid (HX4.out.below hb5)
      have HB5 := Lib.hid (HB4.out.trans (hb5.mono HB4.out.size))
      have HLN := Lib.hid (len_any HX5.out)
      clear hb5
      go_wp2_with fail
      refine HLN.out.mono ?_
      rintro e w6 ⟨rfl, hb6⟩
      have HB6 := Lib.hid (HB5.out.trans (hb6.mono HB5.out.size))
      have HSU := Lib.hid (sure_any w6)
      clear hb6
      go_wp2_with fail
      refine HSU.out.mono ?_
      rintro e w7 ⟨rfl, hb7⟩
      have HB7 := Lib.hid (HB6.out.trans (hb7.mono HB6.out.size))
      clear hb7
      go_wp2_with fail
      go_ret
      exact ⟨rfl, HB1.out.trans ((HB2.out.trans (HB7.out.mono HB2.out.size)).mono HB1.out.size)⟩
end Wd
end Go.Proofs.Ytkmfkgjkgnlfnaa
