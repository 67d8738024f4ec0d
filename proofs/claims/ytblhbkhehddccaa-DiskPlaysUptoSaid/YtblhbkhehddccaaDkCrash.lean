/- What Crash of package disk does to a disk in memory. Conditions: those that each theorem names. -/
import Derived.Test.YtblhbkhehddccaaDkUndo
import Derived.StillTailTactics
namespace Go.Proofs.Ytblhbkhehddccaa
set_option linter.unusedVariables false
open Go.RowKit Dk

theorem crash_nil (v : Value) (n : Int) (p : Option Addr) (m c : Nat) (hv : v = .slice p m c) (w : World) :
    Calls Try.prog 23 #[.pointer none, .agg #[.int .i64 n, v]] w fun e w' => e = .returned (.tuple #[]) ∧ Below w.heap.size w w' := by
  subst hv
  go_enter Try.func23, Try.ntmps23
  go_wp2
  exact bodyPost_ret (v := .tuple #[]) (by simp [results, Try.results23, go_sem]) rfl ⟨rfl, (Below.refl _ _).alloc (Nat.le_refl _) _⟩

/-! ### the files, one by one -/
def crashN (bs : List Int) (L : List (Nm × Nat)) (k : Nat) (fs : List FileC) : List FileC := crashFiles bs (L.take k) 0 fs
theorem crashFiles_append (bs : List Int) (a b : List (Nm × Nat)) : ∀ (j : Nat) (fs : List FileC), crashFiles bs (a ++ b) j fs = crashFiles bs b (j + a.length) (crashFiles bs a j fs) := by
  induction a with
  | nil => intro j fs; rfl
  | cons x r ih =>
    intro j fs
    simp only [List.cons_append, crashFiles, ih, List.length_cons]
    congr 1; omega
theorem crashN_succ (bs : List Int) (L : List (Nm × Nat)) (k : Nat) (h : k < L.length) (fs : List FileC) : crashN bs L (k + 1) fs = (crashN bs L k fs).modify L[k].2 (fun f => f.crash (left bs k)) := by
  unfold crashN
  rw [List.take_succ_eq_append_getElem h, crashFiles_append]
  simp only [crashFiles, List.length_take, Nat.zero_add]
  rw [Nat.min_eq_left (by omega)]
theorem crashFiles_length (bs : List Int) (L : List (Nm × Nat)) : ∀ (j : Nat) (fs : List FileC), (crashFiles bs L j fs).length = fs.length := by
  induction L with
  | nil => intro j fs; rfl
  | cons x r ih => intro j fs; simp only [crashFiles, ih, List.length_modify]
theorem crashN_length (bs : List Int) (L : List (Nm × Nat)) (k : Nat) (fs : List FileC) : (crashN bs L k fs).length = fs.length := crashFiles_length _ _ _ _
def crashR (D : DSt) (bs : List Int) (k : Nat) : DSt := { D with files := crashN bs D.names k D.files }
def CrR (w2 : World) (A : Nat) (E : DSt) (bs : List Int) (ρ1 : Nat → Nat × Nat) (fb : List Nat) (k : Nat) (wr : World) : Prop := ∃ ρk, DiskAt wr A (crashR E bs k) ρk fb ∧ Fr own ρ1 ρk w2 wr

theorem IntsAt.kept {w w' : World} {v : Value} {l : List Int} (h : IntsAt w v l) (hb : ∀ g, v.ownBlock = some g → w'.heap[g]? = w.heap[g]?) (hs : w.heap.size ≤ w'.heap.size) : IntsAt w' v l := by
  rcases h with h | ⟨g, off, c, rfl, hg, hc⟩
  · exact .inl h
  · exact .inr ⟨g, off, c, rfl, by omega, fun W hW => hc W (hW.trans (hb g rfl))⟩
theorem IntsAt.lt {w : World} {v : Value} {l : List Int} (h : IntsAt w v l) : l = [] ∨ ∀ g, v.ownBlock = some g → g < w.heap.size := by
  rcases h with ⟨h, _⟩ | ⟨g, off, c, rfl, hg, hc⟩
  · exact .inl h
  · exact .inr fun g' h => by
      have : g = g' := by simpa [Value.ownBlock] using h
      omega
theorem crash_cut (f : FileC) (b : Nat) (h : f.synced ≤ f.data.length) : syncF (f.cut (f.synced + min b (f.data.length - f.synced))) = f.crash b := rfl

set_option maxHeartbeats 4000000 in
set_option maxRecDepth 100000 in
theorem crash_any (A : Nat) (D : DSt) (ρ : Nat → Nat × Nat) (fb : List Nat) (w : World) (h : DiskAt w A D ρ fb) (hnm : D.names.length + D.opn.flatten.length ≤ 1099511627776) (hop : D.opn.length ≤ 1099511627776) (keep : Int) (kk : Nat) (hk : max keep 0 = (kk : Int))
    (v : Value) (bs : List Int) (hb : IntsAt w v bs) (hbl : bs.length ≤ maxLen) (hbr : ∀ x ∈ bs, -9223372036854775808 ≤ x ∧ x ≤ 9223372036854775807) (hbo : bs = [] ∨ ∀ g, v.ownBlock = some g → ρ g = (0, 0)) :
    Calls Try.prog 23 #[.pointer (some ⟨A, 0, none⟩), .agg #[.int .i64 keep, v]] w fun e w' => e = .returned (.tuple #[]) ∧ Led w A (D.crash kk bs) ρ fb w' := by
  obtain ⟨p, n, c, rfl⟩ : ∃ p n c, v = .slice p n c := by
    rcases hb with ⟨_, p, c, rfl⟩ | ⟨g, off, c, rfl, _⟩ <;> exact ⟨_, _, _, rfl⟩
  have hD0 := fun o => h.alloc o
  have hU := fun o => undo_any A D ρ fb (w.alloc o) (hD0 o) hnm hop keep kk hk
  have HU := Lib.hid hU
  have HB := Lib.hid hb
  have HBR := Lib.hid hbr
  have HBO := Lib.hid hbo
  have HD := Lib.hid h
  have hEl : (D.undo kk).names.length ≤ 1099511627776 := by
    have h1 := undo_length D kk
    have h2 : (D.opn.drop kk).flatten.length ≤ D.opn.flatten.length := by
      have h4 : (D.opn.take kk).flatten.length + (D.opn.drop kk).flatten.length = D.opn.flatten.length := by rw [← List.length_append, ← List.flatten_append, List.take_append_drop]
      omega
    show (undoR D kk).names.length ≤ _
    omega
  clear h hD0 hU hb hbr hbo
  go_enter Try.func23, Try.ntmps23
  go_wp2_with fail
  refine (HU.out _).mono ?_
  rintro e w1 ⟨rfl, ρ1, hD1, hF1⟩
  -- the parameter's own block, and the list of bytes
  have hs0 : (w.alloc (.cells #[.int .i64 keep, .slice p n c] 35)).heap.size = w.heap.size + 1 := by simp
  have hbox1 : w1.heap[w.heap.size]? = some (.cells #[.int .i64 keep, .slice p n c] 35 (0, 0)) :=
    (hF1.block _ (by omega) (by rw [HD.out.out _ (Nat.le_refl _)]; simp [own])).trans (heap_alloc_new w _)
  have HNA := Lib.hid (names_any A (D.undo kk) ρ1 fb w1 hD1 hEl)
  have HD1 := Lib.hid hD1
  have HF1 := Lib.hid hF1
  have HBX := Lib.hid hbox1
  clear hD1 hF1 hbox1
  go_wp2_with fail
  refine (HNA.out).mono ?_
  rintro e w2 ⟨pn, cn, rfl, hrow, hbel⟩
  have hD2 : DiskAt w2 A (D.undo kk) ρ1 fb := HD1.out.others (Fr.others hbel.os hbel.tape hbel.output hbel.size (fun b hb _ => hbel.block b hb) HD1.out.out)
  have hsz1 := HF1.out.size
  have hsz2 := hbel.size
  have hFw2 : Fr own ρ ρ1 w w2 := by
    have h1 : Fr own ρ ρ w (w.alloc (.cells #[.int .i64 keep, .slice p n c] 35)) := ⟨rfl, rfl, rfl, by simp, fun b hb _ => heap_alloc_lt hb, fun _ _ => rfl, fun _ _ h => h, fun b hb => HD.out.out b (by simp at hb; omega)⟩
    have h2 := h1.trans HF1.out
    exact h2.later hbel.os hbel.tape hbel.output hbel.size (fun b hb => hbel.block b (by omega))
  have hbox2 : w2.heap[w.heap.size]? = some (.cells #[.int .i64 keep, .slice p n c] 35 (0, 0)) := (hbel.block _ (by omega)).trans HBX.out
  have hst : CrR w2 A (D.undo kk) bs ρ1 fb 0 w2 := ⟨ρ1, by
    have e : crashR (D.undo kk) bs 0 = D.undo kk := rfl
    rw [e]; exact hD2, ⟨rfl, rfl, rfl, Nat.le_refl _, fun _ _ _ => rfl, fun _ _ => rfl, fun _ _ h => h, hD2.out⟩⟩
  have hrowo : ∀ g, (Value.slice pn (D.undo kk).names.length cn).ownBlock = some g → ρ1 g = (0, 0) := fun g hg => HD1.out.out g (hrow.lt g hg).1
  have HROW := Lib.hid hrow
  have HRO := Lib.hid hrowo
  have HST := Lib.hid hst
  have HFW := Lib.hid hFw2
  have HB2 := Lib.hid hbox2
  have HD2 := Lib.hid hD2
  have hbox0 : ρ1 w.heap.size = (0, 0) := HF1.out.stay _ (by omega) (HD.out.out _ (Nat.le_refl _))
  have HX0 := Lib.hid hbox0
  clear hrow hbel hD2 hFw2 hbox2 hst hrowo hbox0
  generalize hNL : (D.undo kk).names.length = NL at hEl
  have HNL := Lib.hid hNL
  clear hNL
  go_wp2
  go_loopw [16] (fun i wr => ∃ j : Nat, j ≤ NL ∧ i = .int .i64 j ∧ CrR w2 A (D.undo kk) bs ρ1 fb j wr) (fun i _ => NL - (intOf i).toNat)
  case atStart => exact ⟨0, Nat.zero_le _, rfl, HST.out⟩
  case round =>
    obtain ⟨j, hj, rfl, ρj, hDj, hFj⟩ := hrel
    by_cases hlt : j < NL
    · have hjn : j < (D.undo kk).names.length := by rw [HNL.out]; exact hlt
      obtain ⟨gn, cn', hpn, hgn, hgnc, hgnm, hncells⟩ := ownsRow_cell HROW.out (by omega)
      injection hpn with hpn1 hpn2 hpn3
      subst hpn1 hpn3
      have hgo : ρ1 gn = (0, 0) := HRO.out gn rfl
      have e0 := hncells wr (hFj.block gn hgn (by rw [hgo]; simp [own])) j (.string (D.undo kk).names[j].1) (by simp [hjn])
      have hmem : (D.undo kk).names[j] ∈ (D.undo kk).names := List.getElem_mem hjn
      have HSU := Lib.hid (crashN_succ bs (D.undo kk).names j hjn (D.undo kk).files)
      generalize hnm' : (D.undo kk).names[j] = nm at e0 hmem HSU
      obtain ⟨nm, i⟩ := nm
      simp only at e0
      have hnok := hDj.ok.named (nm, i) hmem
      have hif : i < (crashN bs (D.undo kk).names j (D.undo kk).files).length := hnok.2
      obtain ⟨f, hf⟩ : ∃ f, (crashN bs (D.undo kk).names j (D.undo kk).files)[i]? = some f := ⟨_, List.getElem?_eq_getElem hif⟩
      obtain ⟨B, hB, hfa⟩ := hDj.files.2 i f hf
      obtain ⟨pf, cf, h1, h2, h3⟩ := hfa.form
      obtain ⟨m, op, pl, hA, hN, _⟩ := hDj.top
      have c0 : wr.cell? ⟨A, 0, none⟩ = some (.map m) := by simp [World.cell?, hA, topCells]
      have hlook := names_look hN hDj.ok.sorted (show nm.size ≤ maxLen from hnok.1) (fun p hp => by rw [hDj.files.1]; exact (hDj.ok.named p hp).2) wr (fun _ _ _ => rfl)
      have hgt : nmGet (crashR (D.undo kk) bs j).names nm = some i := (nmGet_some hDj.ok.sorted).2 hmem
      rw [hgt, show ptrV fb (some i) = .pointer (some ⟨B, 0, none⟩) by simp [ptrV, hB]] at hlook
      have b0 : wr.cell? ⟨B, 0, none⟩ = some (.slice pf f.data.length cf) := by simp [World.cell?, h1]
      have b1 : wr.cell? ⟨B, 1, none⟩ = some (.int .i64 f.synced) := by simp [World.cell?, h1]
      have hbx : wr.heap[w.heap.size]? = some (.cells #[.int .i64 keep, .slice p n c] 35 (0, 0)) := (hFj.block _ (by omega) (by rw [HX0.out]; simp [own])).trans HB2.out
      have x1 : wr.cell? ⟨w.heap.size, 1, none⟩ = some (.slice p n c) := by simp [World.cell?, hbx]
      have hsy := hDj.ok.synced f (List.mem_of_getElem? hf)
      have hints : IntsAt wr (.slice p n c) bs := by
        have hnil : bs = [] → IntsAt wr (.slice p n c) bs := fun h0 => by
          rcases HB.out with ⟨_, hh⟩ | ⟨g, off, c', hh, _⟩
          · exact .inl ⟨h0, hh⟩
          · rw [h0] at hh; exact .inl ⟨h0, _, _, hh⟩
        rcases HB.out.lt with h0 | h0
        · exact hnil h0
        · rcases HBO.out with hb0 | hb0
          · exact hnil hb0
          refine HB.out.kept (fun g hg => ?_) (by have := hFj.size; omega)
          have a1 := h0 g hg
          have a2 := hb0 g hg
          have a3 := HFW.out.stay g a1 a2
          exact (hFj.block g (by omega) (by rw [a3]; simp [own])).trans (HFW.out.block g a1 (by rw [a2]; simp [own]))
      have hleft := (left_any bs (.slice p n c) j wr.drew (by
        rcases hints with h | ⟨g, off, c', he, hg, hc⟩
        · exact .inl h
        · exact .inr ⟨g, off, c', he, hg, fun W hW => hc W hW⟩) hbl (by unfold maxLen; omega) HBR.out).mono (fun _ _ ⟨h1, h2⟩ => (⟨h1, h2.symm⟩ : _ ∧ _))
      have hcut := cut_any A (crashR (D.undo kk) bs j) ρj fb wr.drew hDj.drew i B f hf hB ((f.synced : Int) + min (left bs j : Int) ((f.data.length : Int) - (f.synced : Int))) (f.synced + min (left bs j) (f.data.length - f.synced)) (by omega)
      have hs1 : (f.synced : Int) ≤ (f.data.length : Int) := by omega
      have hs2 : (f.data.length : Int) ≤ 9223372036854775807 := by have := hsy.2; unfold maxLen at this; omega
      have HLF := Lib.hid hleft
      have HCUT := Lib.hid hcut
      have HFI := Lib.hid hf
      have HBB := Lib.hid hB
      have HSY := Lib.hid hsy
      have HFJ := Lib.hid hFj
      generalize hlb : left bs j = lb at *
      have hlb0 : (0 : Int) ≤ (lb : Int) := by omega
      clear hDj hFj hncells hmem hnok hif hf hB hfa h1 h2 h3 hA hN hgt hbx hsy hints hleft hcut hnm' hgo
      go_wp2
      refine wp_region_still_tail 21 (by kernel_rfl) (by kernel_rfl) ?_
      simp only [List.take_succ_cons, List.take_zero, List.drop_succ_cons, List.drop_zero]
      repeat still_step
      still_call (HLF.out)
      repeat still_step
      refine wpStill_nil ?_
      change wpList _ _ _ _ _ wr.drew
      go_wp2_with fail
      refine (HCUT.out).mono ?_
      rintro e w3 ⟨rfl, ρ3, hD3, hF3⟩
      obtain ⟨f', hf'⟩ : ∃ f', f' = f.cut (f.synced + min lb (f.data.length - f.synced)) := ⟨_, rfl⟩
      rw [← hf'] at hD3
      have hf3 : ((crashR (D.undo kk) bs j).files.set i f')[i]? = some f' := by
        exact List.getElem?_set_self (show i < (crashN bs (D.undo kk).names j (D.undo kk).files).length from (List.getElem?_eq_some_iff.1 HFI.out).1)
      obtain ⟨B', hB', hfa⟩ := hD3.files.2 i f' hf3
      have eB : B = B' := by have := HBB.out; rw [this] at hB'; exact Option.some.inj hB'
      subst eB
      obtain ⟨p3, c3, g1, g2, g3⟩ := hfa.form
      have d0 : w3.cell? ⟨B, 0, none⟩ = some (.slice p3 f'.data.length c3) := by simp [World.cell?, g1]
      have d1 : w3.cell? ⟨B, 1, none⟩ = some (.int .i64 f'.synced) := by simp [World.cell?, g1]
      have d2 : w3.frozen? ⟨B, 1, none⟩ = false := by simp [World.frozen?, g1]
      have hdr : Fr own ρj ρj wr wr.drew := ⟨rfl, rfl, rfl, Nat.le_refl _, fun _ _ _ => rfl, fun _ _ => rfl, fun _ _ h => h, HFJ.out.out⟩
      have hnew : CrR w2 A (D.undo kk) bs ρ1 fb (j + 1) (w3.setCell ⟨B, 1, none⟩ (.int .i64 f'.data.length)) := by
        obtain ⟨q1, q2⟩ := hD3.file_synced (f := f') hf3 HBB.out
        refine ⟨ρ3, ?_, ((HFJ.out.trans hdr).trans hF3).trans q2⟩
        have e : crashR (D.undo kk) bs (j + 1) = { crashR (D.undo kk) bs j with files := ((crashR (D.undo kk) bs j).files.set i f').set i (syncF f') } := by
          have e1 : (crashR (D.undo kk) bs (j + 1)).files = ((crashR (D.undo kk) bs j).files.set i f').set i (syncF f') := by
            show crashN bs (D.undo kk).names (j + 1) (D.undo kk).files = _
            rw [HSU.out, Go.ChangeMaps.modify_eq_set _ _ _ _ HFI.out, List.set_set, hf', crash_cut f lb HSY.out.1]
            rfl
          rw [← e1]; rfl
        rw [e]; exact q1
      have HNEW := Lib.hid hnew
      clear hD3 hF3 hf' hf3 hB' hfa g1 g2 g3 hdr hnew
      go_wp2
      go_roundw
      case rel => exact ⟨j + 1, by omega, by go_num, HNEW.out⟩
      case measure => simp [intOf]; omega
    · obtain rfl : j = NL := by omega
      have hE : crashR (D.undo kk) bs j = { D.undo kk with files := crashFiles bs (D.undo kk).names 0 D.files } := by
        have : crashN bs (D.undo kk).names j (D.undo kk).files = crashFiles bs (D.undo kk).names 0 D.files := by
          unfold crashN
          rw [List.take_of_length_le (by rw [HNL.out]; exact Nat.le_refl _)]; rfl
        unfold crashR
        rw [this]
      have hFwr := HFW.out.trans hFj
      obtain ⟨m, op, pl, hA, hN, hO, hP⟩ := hDj.top
      have c1 : wr.cell? ⟨A, 1, none⟩ = some op := by simp [World.cell?, hA, topCells]
      have f1 : wr.frozen? ⟨A, 1, none⟩ = false := by simp [World.frozen?, hA]
      obtain ⟨Y, hY⟩ : ∃ Y, Y = wr.setCell ⟨A, 1, none⟩ (.slice none 0 0) := ⟨_, rfl⟩
      obtain ⟨hDY, hFY⟩ := hDj.close
      rw [← hY] at hDY hFY
      obtain ⟨m2, op2, pl2, hA2, hN2, hO2, hP2⟩ := hDY.top
      have c3 : Y.cell? ⟨A, 3, none⟩ = some (.map pl2) := by simp [World.cell?, hA2, topCells]
      have f3 : Y.frozen? ⟨A, 3, none⟩ = false := by simp [World.frozen?, hA2]
      have hend : Led w A (D.crash kk bs) ρ fb (Y.setCell ⟨A, 3, none⟩ (.map none)) := by
        have F : Fr (fun r => r = (1, 0)) ρj ρj Y (Y.setCell ⟨A, 3, none⟩ (.map none)) := ⟨rfl, rfl, rfl, by simp [World.setCell], fun b hb hn => heap_setCell_ne (fun e => hn (by have e' : b = A := e; rw [e']; exact hDY.role)), fun _ _ => rfl, fun _ _ h => h, fun b hb => hDY.out b (by simpa [World.setCell] using hb)⟩
        refine ⟨ρj, ⟨⟨?_, ?_, ?_, ?_⟩, F.out, hDY.role, ⟨m2, op2, none, ?_, ?_, ?_, .inl ⟨rfl, rfl⟩⟩, ?_⟩, (hFwr.trans hFY).trans (F.weaken (fun r hr => by rw [hr]; simp [own]))⟩
        · exact hDY.ok.sorted
        · intro p hp; have := hDY.ok.named p hp; rw [show (DSt.close (crashR (D.undo kk) bs j)).files = (D.crash kk bs).files by rw [hE]; rfl] at this; exact this
        · intro l hl; simp [DSt.crash] at hl
        · have := hDY.ok.synced; rw [show (DSt.close (crashR (D.undo kk) bs j)).files = (D.crash kk bs).files by rw [hE]; rfl] at this; exact this
        · exact heap_setCell_same _ _ _ _ _ _ hA2
        · exact hN2.fr F (by simp)
        · exact hO2.fr F (by simp) (by simp)
        · have := hDY.files.fr F (by simp) (by simp); rw [show (DSt.close (crashR (D.undo kk) bs j)).files = (D.crash kk bs).files by rw [hE]; rfl] at this; exact this
      have HEND := Lib.hid hend
      have HY := Lib.hid hY
      rw [hY] at c3 f3
      clear hDj hFj hE hFwr hA hN hO hP hDY hFY hA2 hN2 hO2 hP2 hend hY
      go_wp2
      go_end0
      rw [← HY.out]
      exact ⟨rfl, HEND.out⟩
end Go.Proofs.Ytblhbkhehddccaa
