/- What Crash of package disk does to a disk in memory. The calls of package disk for a law that holds one disk of its own: what each answers, and what the disk holds then. The disk of a law, beside blocks of others that stay: what each call answers and what the disk holds then. The disk of a law: each call as one outcome, whatever it meets. Both disks, call by call: the answers are the same, and they stay alike. Conditions: those that each theorem names. -/
import Derived.Test.YtioidkbpjkcjeaaGreatDoorGaC
import Derived.StillTailTactics
import Derived.Test.YtioidkbpjkcjeaaGreatDoorGaB
import Derived.Test.YtioidkbpjkcjeaaGreatDoorGaE
namespace Go.Proofs.YtioidkbpjkcjeaaGreatDoor
set_option linter.unusedVariables false
open Go.RowKit Dk

theorem crash_nil (v : Value) (n : Int) (p : Option Addr) (m c : Nat) (hv : v = .slice p m c) (w : World) :
    Calls Tryz.prog 24 #[.pointer none, .agg #[.int .i64 n, v]] w fun e w' => e = .returned (.tuple #[]) ∧ Below w.heap.size w w' := by
  subst hv
  go_enter Tryz.func24, Tryz.ntmps24
  go_wp2
  exact bodyPost_ret (v := .tuple #[]) (by simp [results, Tryz.results24, go_sem]) rfl ⟨rfl, (Below.refl _ _).alloc (Nat.le_refl _) _⟩

/-! ### the files, one by one -/
def crashN (bs : List Int) (L : List (Nm × Nat)) (k : Nat) (fs : List FileC) : List FileC := crashFiles bs (L.take k) 0 fs
theorem crashFiles_append (bs : List Int) (a b : List (Nm × Nat)) : ∀ (j : Nat) (fs : List FileC), crashFiles bs (a ++ b) j fs = crashFiles bs b (j + a.length) (crashFiles bs a j fs) := by
  induction a with
  | nil => intro j fs; rfl
  | cons x r ih =>
    intro j fs
    simp only [List.cons_append, crashFiles, ih, List.length_cons]
    congr 1; omega
theorem crashN_succ (bs : List Int) (L : List (Nm × Nat)) (k : Nat) (h : k < L.length) (fs : List FileC) : crashN bs L (k + 1) fs = (crashN bs L k fs).modify L[k].2 (fun f => f.crash (left bs k)) := by
  unfold crashN
  rw [List.take_succ_eq_append_getElem h, crashFiles_append]
  simp only [crashFiles, List.length_take, Nat.zero_add]
  rw [Nat.min_eq_left (by omega)]
theorem crashFiles_length (bs : List Int) (L : List (Nm × Nat)) : ∀ (j : Nat) (fs : List FileC), (crashFiles bs L j fs).length = fs.length := by
  induction L with
  | nil => intro j fs; rfl
  | cons x r ih => intro j fs; simp only [crashFiles, ih, List.length_modify]
theorem crashN_length (bs : List Int) (L : List (Nm × Nat)) (k : Nat) (fs : List FileC) : (crashN bs L k fs).length = fs.length := crashFiles_length _ _ _ _
def crashR (D : DSt) (bs : List Int) (k : Nat) : DSt := { D with files := crashN bs D.names k D.files }
def CrR (w2 : World) (A : Nat) (E : DSt) (bs : List Int) (ρ1 : Nat → Nat × Nat) (fb : List Nat) (k : Nat) (wr : World) : Prop := ∃ ρk, DiskAt wr A (crashR E bs k) ρk fb ∧ Fr own ρ1 ρk w2 wr

theorem IntsAt.kept {w w' : World} {v : Value} {l : List Int} (h : IntsAt w v l) (hb : ∀ g, v.ownBlock = some g → w'.heap[g]? = w.heap[g]?) (hs : w.heap.size ≤ w'.heap.size) : IntsAt w' v l := by
  rcases h with h | ⟨g, off, c, rfl, hg, hc⟩
  · exact .inl h
  · exact .inr ⟨g, off, c, rfl, by omega, fun W hW => hc W (hW.trans (hb g rfl))⟩
theorem IntsAt.lt {w : World} {v : Value} {l : List Int} (h : IntsAt w v l) : l = [] ∨ ∀ g, v.ownBlock = some g → g < w.heap.size := by
  rcases h with ⟨h, _⟩ | ⟨g, off, c, rfl, hg, hc⟩
  · exact .inl h
  · exact .inr fun g' h => by
      have : g = g' := by simpa [Value.ownBlock] using h
      omega
theorem crash_cut (f : FileC) (b : Nat) (h : f.synced ≤ f.data.length) : syncF (f.cut (f.synced + min b (f.data.length - f.synced))) = f.crash b := rfl

set_option maxHeartbeats 4000000 in
set_option maxRecDepth 100000 in
theorem crash_any (A : Nat) (D : DSt) (ρ : Nat → Nat × Nat) (fb : List Nat) (w : World) (h : DiskAt w A D ρ fb) (hnm : D.names.length + D.opn.flatten.length ≤ 1099511627776) (hop : D.opn.length ≤ 1099511627776) (keep : Int) (kk : Nat) (hk : max keep 0 = (kk : Int))
    (v : Value) (bs : List Int) (hb : IntsAt w v bs) (hbl : bs.length ≤ maxLen) (hbr : ∀ x ∈ bs, -9223372036854775808 ≤ x ∧ x ≤ 9223372036854775807) (hbo : bs = [] ∨ ∀ g, v.ownBlock = some g → ρ g = (0, 0)) :
    Calls Tryz.prog 24 #[.pointer (some ⟨A, 0, none⟩), .agg #[.int .i64 keep, v]] w fun e w' => e = .returned (.tuple #[]) ∧ Led w A (D.crash kk bs) ρ fb w' := by
  obtain ⟨p, n, c, rfl⟩ : ∃ p n c, v = .slice p n c := by
    rcases hb with ⟨_, p, c, rfl⟩ | ⟨g, off, c, rfl, _⟩ <;> exact ⟨_, _, _, rfl⟩
  have hD0 := fun o => h.alloc o
  have hU := fun o => undo_any A D ρ fb (w.alloc o) (hD0 o) hnm hop keep kk hk
  have HU := Lib.hid hU
  have HB := Lib.hid hb
  have HBR := Lib.hid hbr
  have HBO := Lib.hid hbo
  have HD := Lib.hid h
  have hEl : (D.undo kk).names.length ≤ 1099511627776 := by
    have h1 := undo_length D kk
    have h2 : (D.opn.drop kk).flatten.length ≤ D.opn.flatten.length := by
      have h4 : (D.opn.take kk).flatten.length + (D.opn.drop kk).flatten.length = D.opn.flatten.length := by rw [← List.length_append, ← List.flatten_append, List.take_append_drop]
      omega
    show (undoR D kk).names.length ≤ _
    omega
  clear h hD0 hU hb hbr hbo
  go_enter Tryz.func24, Tryz.ntmps24
  go_wp2_with fail
  refine (HU.out _).mono ?_
  rintro e w1 ⟨rfl, ρ1, hD1, hF1⟩
  -- the parameter's own block, and the list of bytes
  have hs0 : (w.alloc (.cells #[.int .i64 keep, .slice p n c] 43)).heap.size = w.heap.size + 1 := by simp
  have hbox1 : w1.heap[w.heap.size]? = some (.cells #[.int .i64 keep, .slice p n c] 43 (0, 0)) :=
    (hF1.block _ (by omega) (by rw [HD.out.out _ (Nat.le_refl _)]; simp [own])).trans (heap_alloc_new w _)
  have HNA := Lib.hid (names_any A (D.undo kk) ρ1 fb w1 hD1 hEl)
  have HD1 := Lib.hid hD1
  have HF1 := Lib.hid hF1
  have HBX := Lib.hid hbox1
  clear hD1 hF1 hbox1
  go_wp2_with fail
  refine (HNA.out).mono ?_
  rintro e w2 ⟨pn, cn, rfl, hrow, hbel⟩
  have hD2 : DiskAt w2 A (D.undo kk) ρ1 fb := HD1.out.others (Fr.others hbel.os hbel.tape hbel.output hbel.size (fun b hb _ => hbel.block b hb) HD1.out.out)
  have hsz1 := HF1.out.size
  have hsz2 := hbel.size
  have hFw2 : Fr own ρ ρ1 w w2 := by
    have h1 : Fr own ρ ρ w (w.alloc (.cells #[.int .i64 keep, .slice p n c] 43)) := ⟨rfl, rfl, rfl, by simp, fun b hb _ => heap_alloc_lt hb, fun _ _ => rfl, fun _ _ h => h, fun b hb => HD.out.out b (by simp at hb; omega)⟩
    have h2 := h1.trans HF1.out
    exact h2.later hbel.os hbel.tape hbel.output hbel.size (fun b hb => hbel.block b (by omega))
  have hbox2 : w2.heap[w.heap.size]? = some (.cells #[.int .i64 keep, .slice p n c] 43 (0, 0)) := (hbel.block _ (by omega)).trans HBX.out
  have hst : CrR w2 A (D.undo kk) bs ρ1 fb 0 w2 := ⟨ρ1, by
    have e : crashR (D.undo kk) bs 0 = D.undo kk := rfl
    rw [e]; exact hD2, ⟨rfl, rfl, rfl, Nat.le_refl _, fun _ _ _ => rfl, fun _ _ => rfl, fun _ _ h => h, hD2.out⟩⟩
  have hrowo : ∀ g, (Value.slice pn (D.undo kk).names.length cn).ownBlock = some g → ρ1 g = (0, 0) := fun g hg => HD1.out.out g (hrow.lt g hg).1
  have HROW := Lib.hid hrow
  have HRO := Lib.hid hrowo
  have HST := Lib.hid hst
  have HFW := Lib.hid hFw2
  have HB2 := Lib.hid hbox2
  have HD2 := Lib.hid hD2
  have hbox0 : ρ1 w.heap.size = (0, 0) := HF1.out.stay _ (by omega) (HD.out.out _ (Nat.le_refl _))
  have HX0 := Lib.hid hbox0
  clear hrow hbel hD2 hFw2 hbox2 hst hrowo hbox0
  generalize hNL : (D.undo kk).names.length = NL at hEl
  have HNL := Lib.hid hNL
  clear hNL
  go_wp2
  go_loopw [16] (fun i wr => ∃ j : Nat, j ≤ NL ∧ i = .int .i64 j ∧ CrR w2 A (D.undo kk) bs ρ1 fb j wr) (fun i _ => NL - (intOf i).toNat)
  case atStart => exact ⟨0, Nat.zero_le _, rfl, HST.out⟩
  case round =>
    obtain ⟨j, hj, rfl, ρj, hDj, hFj⟩ := hrel
    by_cases hlt : j < NL
    · have hjn : j < (D.undo kk).names.length := by rw [HNL.out]; exact hlt
      obtain ⟨gn, cn', hpn, hgn, hgnc, hgnm, hncells⟩ := ownsRow_cell HROW.out (by omega)
      injection hpn with hpn1 hpn2 hpn3
      subst hpn1 hpn3
      have hgo : ρ1 gn = (0, 0) := HRO.out gn rfl
      have e0 := hncells wr (hFj.block gn hgn (by rw [hgo]; simp [own])) j (.string (D.undo kk).names[j].1) (by simp [hjn])
      have hmem : (D.undo kk).names[j] ∈ (D.undo kk).names := List.getElem_mem hjn
      have HSU := Lib.hid (crashN_succ bs (D.undo kk).names j hjn (D.undo kk).files)
      generalize hnm' : (D.undo kk).names[j] = nm at e0 hmem HSU
      obtain ⟨nm, i⟩ := nm
      simp only at e0
      have hnok := hDj.ok.named (nm, i) hmem
      have hif : i < (crashN bs (D.undo kk).names j (D.undo kk).files).length := hnok.2
      obtain ⟨f, hf⟩ : ∃ f, (crashN bs (D.undo kk).names j (D.undo kk).files)[i]? = some f := ⟨_, List.getElem?_eq_getElem hif⟩
      obtain ⟨B, hB, hfa⟩ := hDj.files.2 i f hf
      obtain ⟨pf, cf, h1, h2, h3⟩ := hfa.form
      obtain ⟨m, op, pl, hA, hN, _⟩ := hDj.top
      have c0 : wr.cell? ⟨A, 0, none⟩ = some (.map m) := by simp [World.cell?, hA, topCells]
      have hlook := names_look hN hDj.ok.sorted (show nm.size ≤ maxLen from hnok.1) (fun p hp => by rw [hDj.files.1]; exact (hDj.ok.named p hp).2) wr (fun _ _ _ => rfl)
      have hgt : nmGet (crashR (D.undo kk) bs j).names nm = some i := (nmGet_some hDj.ok.sorted).2 hmem
      rw [hgt, show ptrV fb (some i) = .pointer (some ⟨B, 0, none⟩) by simp [ptrV, hB]] at hlook
      have b0 : wr.cell? ⟨B, 0, none⟩ = some (.slice pf f.data.length cf) := by simp [World.cell?, h1]
      have b1 : wr.cell? ⟨B, 1, none⟩ = some (.int .i64 f.synced) := by simp [World.cell?, h1]
      have hbx : wr.heap[w.heap.size]? = some (.cells #[.int .i64 keep, .slice p n c] 43 (0, 0)) := (hFj.block _ (by omega) (by rw [HX0.out]; simp [own])).trans HB2.out
      have x1 : wr.cell? ⟨w.heap.size, 1, none⟩ = some (.slice p n c) := by simp [World.cell?, hbx]
      have hsy := hDj.ok.synced f (List.mem_of_getElem? hf)
      have hints : IntsAt wr (.slice p n c) bs := by
        have hnil : bs = [] → IntsAt wr (.slice p n c) bs := fun h0 => by
          rcases HB.out with ⟨_, hh⟩ | ⟨g, off, c', hh, _⟩
          · exact .inl ⟨h0, hh⟩
          · rw [h0] at hh; exact .inl ⟨h0, _, _, hh⟩
        rcases HB.out.lt with h0 | h0
        · exact hnil h0
        · rcases HBO.out with hb0 | hb0
          · exact hnil hb0
          refine HB.out.kept (fun g hg => ?_) (by have := hFj.size; omega)
          have a1 := h0 g hg
          have a2 := hb0 g hg
          have a3 := HFW.out.stay g a1 a2
          exact (hFj.block g (by omega) (by rw [a3]; simp [own])).trans (HFW.out.block g a1 (by rw [a2]; simp [own]))
      have hleft := (left_any bs (.slice p n c) j wr.drew (by
        rcases hints with h | ⟨g, off, c', he, hg, hc⟩
        · exact .inl h
        · exact .inr ⟨g, off, c', he, hg, fun W hW => hc W hW⟩) hbl (by unfold maxLen; omega) HBR.out).mono (fun _ _ ⟨h1, h2⟩ => (⟨h1, h2.symm⟩ : _ ∧ _))
      have hcut := cut_any A (crashR (D.undo kk) bs j) ρj fb wr.drew hDj.drew i B f hf hB ((f.synced : Int) + min (left bs j : Int) ((f.data.length : Int) - (f.synced : Int))) (f.synced + min (left bs j) (f.data.length - f.synced)) (by omega)
      have hs1 : (f.synced : Int) ≤ (f.data.length : Int) := by omega
      have hs2 : (f.data.length : Int) ≤ 9223372036854775807 := by have := hsy.2; unfold maxLen at this; omega
      have HLF := Lib.hid hleft
      have HCUT := Lib.hid hcut
      have HFI := Lib.hid hf
      have HBB := Lib.hid hB
      have HSY := Lib.hid hsy
      have HFJ := Lib.hid hFj
      generalize hlb : left bs j = lb at *
      have hlb0 : (0 : Int) ≤ (lb : Int) := by omega
      clear hDj hFj hncells hmem hnok hif hf hB hfa h1 h2 h3 hA hN hgt hbx hsy hints hleft hcut hnm' hgo
      go_wp2
      refine wp_region_still_tail 21 (by kernel_rfl) (by kernel_rfl) ?_
      simp only [List.take_succ_cons, List.take_zero, List.drop_succ_cons, List.drop_zero]
      repeat still_step
      still_call (HLF.out)
      repeat still_step
      refine wpStill_nil ?_
      change wpList _ _ _ _ _ wr.drew
      go_wp2_with fail
      refine (HCUT.out).mono ?_
      rintro e w3 ⟨rfl, ρ3, hD3, hF3⟩
      obtain ⟨f', hf'⟩ : ∃ f', f' = f.cut (f.synced + min lb (f.data.length - f.synced)) := ⟨_, rfl⟩
      rw [← hf'] at hD3
      have hf3 : ((crashR (D.undo kk) bs j).files.set i f')[i]? = some f' := by
        exact List.getElem?_set_self (show i < (crashN bs (D.undo kk).names j (D.undo kk).files).length from (List.getElem?_eq_some_iff.1 HFI.out).1)
      obtain ⟨B', hB', hfa⟩ := hD3.files.2 i f' hf3
      have eB : B = B' := by have := HBB.out; rw [this] at hB'; exact Option.some.inj hB'
      subst eB
      obtain ⟨p3, c3, g1, g2, g3⟩ := hfa.form
      have d0 : w3.cell? ⟨B, 0, none⟩ = some (.slice p3 f'.data.length c3) := by simp [World.cell?, g1]
      have d1 : w3.cell? ⟨B, 1, none⟩ = some (.int .i64 f'.synced) := by simp [World.cell?, g1]
      have d2 : w3.frozen? ⟨B, 1, none⟩ = false := by simp [World.frozen?, g1]
      have hdr : Fr own ρj ρj wr wr.drew := ⟨rfl, rfl, rfl, Nat.le_refl _, fun _ _ _ => rfl, fun _ _ => rfl, fun _ _ h => h, HFJ.out.out⟩
      have hnew : CrR w2 A (D.undo kk) bs ρ1 fb (j + 1) (w3.setCell ⟨B, 1, none⟩ (.int .i64 f'.data.length)) := by
        obtain ⟨q1, q2⟩ := hD3.file_synced (f := f') hf3 HBB.out
        refine ⟨ρ3, ?_, ((HFJ.out.trans hdr).trans hF3).trans q2⟩
        have e : crashR (D.undo kk) bs (j + 1) = { crashR (D.undo kk) bs j with files := ((crashR (D.undo kk) bs j).files.set i f').set i (syncF f') } := by
          have e1 : (crashR (D.undo kk) bs (j + 1)).files = ((crashR (D.undo kk) bs j).files.set i f').set i (syncF f') := by
            show crashN bs (D.undo kk).names (j + 1) (D.undo kk).files = _
            rw [HSU.out, Go.ChangeMaps.modify_eq_set _ _ _ _ HFI.out, List.set_set, hf', crash_cut f lb HSY.out.1]
            rfl
          rw [← e1]; rfl
        rw [e]; exact q1
      have HNEW := Lib.hid hnew
      clear hD3 hF3 hf' hf3 hB' hfa g1 g2 g3 hdr hnew
      go_wp2
      go_roundw
      case rel => exact ⟨j + 1, by omega, by go_num, HNEW.out⟩
      case measure => simp [intOf]; omega
    · obtain rfl : j = NL := by omega
      have hE : crashR (D.undo kk) bs j = { D.undo kk with files := crashFiles bs (D.undo kk).names 0 D.files } := by
        have : crashN bs (D.undo kk).names j (D.undo kk).files = crashFiles bs (D.undo kk).names 0 D.files := by
          unfold crashN
          rw [List.take_of_length_le (by rw [HNL.out]; exact Nat.le_refl _)]; rfl
        unfold crashR
        rw [this]
      have hFwr := HFW.out.trans hFj
      obtain ⟨m, op, pl, hA, hN, hO, hP⟩ := hDj.top
      have c1 : wr.cell? ⟨A, 1, none⟩ = some op := by simp [World.cell?, hA, topCells]
      have f1 : wr.frozen? ⟨A, 1, none⟩ = false := by simp [World.frozen?, hA]
      obtain ⟨Y, hY⟩ : ∃ Y, Y = wr.setCell ⟨A, 1, none⟩ (.slice none 0 0) := ⟨_, rfl⟩
      obtain ⟨hDY, hFY⟩ := hDj.close
      rw [← hY] at hDY hFY
      obtain ⟨m2, op2, pl2, hA2, hN2, hO2, hP2⟩ := hDY.top
      have c3 : Y.cell? ⟨A, 3, none⟩ = some (.map pl2) := by simp [World.cell?, hA2, topCells]
      have f3 : Y.frozen? ⟨A, 3, none⟩ = false := by simp [World.frozen?, hA2]
      have hend : Led w A (D.crash kk bs) ρ fb (Y.setCell ⟨A, 3, none⟩ (.map none)) := by
        have F : Fr (fun r => r = (1, 0)) ρj ρj Y (Y.setCell ⟨A, 3, none⟩ (.map none)) := ⟨rfl, rfl, rfl, by simp [World.setCell], fun b hb hn => heap_setCell_ne (fun e => hn (by have e' : b = A := e; rw [e']; exact hDY.role)), fun _ _ => rfl, fun _ _ h => h, fun b hb => hDY.out b (by simpa [World.setCell] using hb)⟩
        refine ⟨ρj, ⟨⟨?_, ?_, ?_, ?_⟩, F.out, hDY.role, ⟨m2, op2, none, ?_, ?_, ?_, .inl ⟨rfl, rfl⟩⟩, ?_⟩, (hFwr.trans hFY).trans (F.weaken (fun r hr => by rw [hr]; simp [own]))⟩
        · exact hDY.ok.sorted
        · intro p hp; have := hDY.ok.named p hp; rw [show (DSt.close (crashR (D.undo kk) bs j)).files = (D.crash kk bs).files by rw [hE]; rfl] at this; exact this
        · intro l hl; simp [DSt.crash] at hl
        · have := hDY.ok.synced; rw [show (DSt.close (crashR (D.undo kk) bs j)).files = (D.crash kk bs).files by rw [hE]; rfl] at this; exact this
        · exact heap_setCell_same _ _ _ _ _ _ hA2
        · exact hN2.fr F (by simp)
        · exact hO2.fr F (by simp) (by simp)
        · have := hDY.files.fr F (by simp) (by simp); rw [show (DSt.close (crashR (D.undo kk) bs j)).files = (D.crash kk bs).files by rw [hE]; rfl] at this; exact this
      have HEND := Lib.hid hend
      have HY := Lib.hid hY
      rw [hY] at c3 f3
      clear hDj hFj hE hFwr hA hN hO hP hDY hFY hA2 hN2 hO2 hP2 hend hY
      go_wp2
      go_end0
      rw [← HY.out]
      exact ⟨rfl, HEND.out⟩
end Go.Proofs.YtioidkbpjkcjeaaGreatDoor
namespace Go.Proofs.YtioidkbpjkcjeaaGreatDoor
set_option linter.unusedVariables false
open Go.RowKit Dk

/-- The disk at A, made since w0, holds D; what lay at w0 is as it was. -/
def At (w0 : World) (A : Nat) (D : DSt) (w : World) : Prop := ∃ ρ fb, DiskAt w A D ρ fb ∧ (∀ b, b < w0.heap.size → ρ b = (0, 0)) ∧ Below w0.heap.size w0 w
section
variable {w0 w : World} {A : Nat} {D : DSt}
theorem At.below (h : At w0 A D w) : Below w0.heap.size w0 w := let ⟨_, _, _, _, hb⟩ := h; hb
theorem At.size (h : At w0 A D w) : w0.heap.size ≤ w.heap.size := h.below.size
theorem At.alloc (h : At w0 A D w) (o : Obj) : At w0 A D (w.alloc o) := let ⟨ρ, fb, h1, h2, h3⟩ := h; ⟨ρ, fb, h1.alloc o, h2, h3.alloc h3.size o⟩
theorem At.others (h : At w0 A D w) {w' : World} (hb : Below w.heap.size w w') : At w0 A D w' := by
  obtain ⟨ρ, fb, h1, h2, h3⟩ := h
  exact ⟨ρ, fb, h1.others (Fr.others hb.os hb.tape hb.output hb.size (fun b hlt _ => hb.block b hlt) h1.out), h2, h3.trans (hb.mono h3.size)⟩
theorem at_kept {ρ : Nat → Nat × Nat} {fb : List Nat} (h : DiskAt w A D ρ fb) (hl : ∀ b, b < w0.heap.size → ρ b = (0, 0)) (hb : Below w0.heap.size w0 w) {D' : DSt} {w' : World} (k : Kept w A D' ρ w') : At w0 A D' w' := by
  obtain ⟨ρ', fb', h1, h2⟩ := k
  exact ⟨ρ', fb', h1, fun b hlt => h2.stay b (Nat.lt_of_lt_of_le hlt hb.size) (hl b hlt), hb.trans (h2.below hl hb.size)⟩
theorem at_new (w : World) : Calls Tryz.prog 4 #[] w fun e w' => e = .returned (.pointer (some ⟨w.heap.size, 0, none⟩)) ∧ At w w.heap.size Dk.new w' :=
  (new_any w).mono fun e w' ⟨he, hw⟩ => ⟨he, by
    subst hw
    exact ⟨_, _, DiskAt.made w, fun b hb => by have : w.heap.size ≠ b := by omega
                                               simp [setR, noMarks, this], (Below.refl _ _).alloc (Nat.le_refl _) _⟩⟩
theorem At.steps (h : At w0 A D w) : Calls Tryz.prog 21 #[.pointer (some ⟨A, 0, none⟩)] w fun e w' => e = .returned (.int .i64 D.steps) ∧ w = w' :=
  let ⟨ρ, fb, h1, _, _⟩ := h; steps_any A D ρ fb w h1
def NamesR (L : List (Nm × Nat)) (e : Ending) : Prop := ∃ p c, e = .returned (.slice p L.length c)
theorem At.names (h : At w0 A D w) (hnm : D.names.length ≤ 1099511627776) : Calls Tryz.prog 45 #[.pointer (some ⟨A, 0, none⟩)] w fun e w' => NamesR D.names e ∧ At w0 A D w' :=
  let ⟨ρ, fb, h1, _, _⟩ := h; (names_any A D ρ fb w h1 hnm).mono fun _ _ ⟨p, c, he, _, hb⟩ => ⟨⟨p, c, he⟩, At.others h hb⟩
theorem At.read_some (h : At w0 A D w) (s : ByteArray) (hl : s.size ≤ maxLen) (hs : s.toList.isEmpty = false) (i : Nat) (f : FileC) (hg : nmGet D.names s = some i) (hf : D.files[i]? = some f) :
    Calls Tryz.prog 8 #[.pointer (some ⟨A, 0, none⟩), .string s] w fun e w' => e = .returned (.tuple #[.string ⟨f.data.toArray⟩, .int .i64 0]) ∧ w = w' :=
  let ⟨ρ, fb, h1, _, _⟩ := h; Go.Proofs.YtioidkbpjkcjeaaGreatDoor.read_some A D ρ fb w h1 s hl hs i f hg hf
theorem At.read_none (h : At w0 A D w) (s : ByteArray) (hl : s.size ≤ maxLen) (hs : s.toList.isEmpty = false) (hg : nmGet D.names s = none) :
    Calls Tryz.prog 8 #[.pointer (some ⟨A, 0, none⟩), .string s] w fun e w' => e = .returned (.tuple #[.string ⟨#[]⟩, .int .i64 20]) ∧ w = w' :=
  let ⟨ρ, fb, h1, _, _⟩ := h; Go.Proofs.YtioidkbpjkcjeaaGreatDoor.read_none A D ρ fb w h1 s hl hs hg
theorem At.syncNames (h : At w0 A D w) (h0 : 0 ≤ D.steps) (h1 : D.steps ≤ 4611686018427387904) (hm : D.hit = none) :
    Calls Tryz.prog 74 #[.pointer (some ⟨A, 0, none⟩)] w fun e w' => e = .returned (.int .i64 0) ∧ At w0 A (DSt.close D.tick) w' :=
  let ⟨ρ, fb, hd, hl, hb⟩ := h; (syncNames_miss A D ρ fb w hd h0 h1 hm).mono fun _ _ ⟨he, hk⟩ => ⟨he, at_kept hd hl hb hk.kept⟩
theorem At.sync (h : At w0 A D w) (h0 : 0 ≤ D.steps) (h1 : D.steps ≤ 4611686018427387904) (s : ByteArray) (hl : s.size ≤ maxLen) (hs : s.toList.isEmpty = false) (i : Nat) (f : FileC) (hg : nmGet D.names s = some i) (hf : D.files[i]? = some f) (hm : D.hit = none) :
    Calls Tryz.prog 64 #[.pointer (some ⟨A, 0, none⟩), .string s] w fun e w' => e = .returned (.int .i64 0) ∧ At w0 A { D.tick with files := D.files.set i (syncF f) } w' :=
  let ⟨ρ, fb, hd, hlo, hb⟩ := h; (sync_miss A D ρ fb w hd h0 h1 s hl hs i f hg hf hm).mono fun _ _ ⟨he, hk⟩ => ⟨he, at_kept hd hlo hb hk.kept⟩
theorem At.write_new (h : At w0 A D w) (h0 : 0 ≤ D.steps) (h1 : D.steps ≤ 4611686018427387904) (hnm : D.names.length ≤ 1099511627776) (hop : D.opn.length ≤ 1099511627776)
    (s t : ByteArray) (hl : s.size ≤ maxLen) (ht : t.size ≤ maxLen) (hs : s.toList.isEmpty = false) (hm : D.hit = none) (hg : nmGet D.names s = none) (hb : t.size ≤ 200000000000000) :
    Calls Tryz.prog 61 #[.pointer (some ⟨A, 0, none⟩), .string s, .string t] w fun e w' => e = .returned (.tuple #[.int .i64 t.size, .int .i64 0]) ∧ At w0 A { more D.tick s with files := (more D.tick s).files.set D.files.length (FileC.mk t.data.toList 0) } w' :=
  let ⟨ρ, fb, hd, hlo, hbl⟩ := h; (Go.Proofs.YtioidkbpjkcjeaaGreatDoor.write_new A D ρ fb w hd h0 h1 hnm hop s t hl ht hs hm hg hb).mono fun _ _ ⟨he, hk⟩ => ⟨he, at_kept hd hlo hbl hk⟩
theorem At.write_old (h : At w0 A D w) (h0 : 0 ≤ D.steps) (h1 : D.steps ≤ 4611686018427387904) (s t : ByteArray) (hl : s.size ≤ maxLen) (ht : t.size ≤ maxLen) (hs : s.toList.isEmpty = false) (hm : D.hit = none)
    (i : Nat) (f : FileC) (hg : nmGet D.names s = some i) (hf : D.files[i]? = some f) (hb : f.data.length + t.size ≤ 200000000000000) :
    Calls Tryz.prog 61 #[.pointer (some ⟨A, 0, none⟩), .string s, .string t] w fun e w' => e = .returned (.tuple #[.int .i64 t.size, .int .i64 0]) ∧ At w0 A { D.tick with files := D.files.set i { f with data := f.data ++ t.data.toList } } w' :=
  let ⟨ρ, fb, hd, hlo, hbl⟩ := h; (Go.Proofs.YtioidkbpjkcjeaaGreatDoor.write_old A D ρ fb w hd h0 h1 s t hl ht hs hm i f hg hf hb).mono fun _ _ ⟨he, hk⟩ => ⟨he, at_kept hd hlo hbl hk⟩
theorem At.write_hit (h : At w0 A D w) (h0 : 0 ≤ D.steps) (h1 : D.steps ≤ 4611686018427387904) (s t : ByteArray) (hs : s.toList.isEmpty = false) (fa fk fn : Int) (hk : (fk != 2) = true) (hm : D.hit = some (fa, fk, fn)) :
    Calls Tryz.prog 61 #[.pointer (some ⟨A, 0, none⟩), .string s, .string t] w fun e w' => e = .returned (.tuple #[.int .i64 0, .int .i64 (hitErr (fa, fk, fn))]) ∧ At w0 A D.tick w' :=
  let ⟨ρ, fb, hd, hlo, hbl⟩ := h; (Go.Proofs.YtioidkbpjkcjeaaGreatDoor.write_hit A D ρ fb w hd h0 h1 s t hs fa fk fn hk hm).mono fun _ _ ⟨he, hk⟩ => ⟨he, at_kept hd hlo hbl hk⟩
theorem At.short_new (h : At w0 A D w) (h0 : 0 ≤ D.steps) (h1 : D.steps ≤ 4611686018427387904) (hnm : D.names.length ≤ 1099511627776) (hop : D.opn.length ≤ 1099511627776)
    (s t : ByteArray) (hl : s.size ≤ maxLen) (ht : t.size ≤ maxLen) (hs : s.toList.isEmpty = false) (fa : Int) (k : Nat) (hk : k ≤ t.size) (hm : D.hit = some (fa, 2, (k : Int))) (hg : nmGet D.names s = none) (hb : t.size ≤ 200000000000000) :
    Calls Tryz.prog 61 #[.pointer (some ⟨A, 0, none⟩), .string s, .string t] w fun e w' => e = .returned (.tuple #[.int .i64 k, .int .i64 22]) ∧ At w0 A { more D.tick s with files := (more D.tick s).files.set D.files.length (FileC.mk (t.data.toList.take k) 0) } w' :=
  let ⟨ρ, fb, hd, hlo, hbl⟩ := h; (Go.Proofs.YtioidkbpjkcjeaaGreatDoor.short_new A D ρ fb w hd h0 h1 hnm hop s t hl ht hs fa k hk hm hg hb).mono fun _ _ ⟨he, hk⟩ => ⟨he, at_kept hd hlo hbl hk⟩
theorem At.short_new_all (h : At w0 A D w) (h0 : 0 ≤ D.steps) (h1 : D.steps ≤ 4611686018427387904) (hnm : D.names.length ≤ 1099511627776) (hop : D.opn.length ≤ 1099511627776)
    (s t : ByteArray) (hl : s.size ≤ maxLen) (ht : t.size ≤ maxLen) (hs : s.toList.isEmpty = false) (fa fn : Int) (hk : (t.size : Int) < fn) (hm : D.hit = some (fa, 2, fn)) (hg : nmGet D.names s = none) (hb : t.size ≤ 200000000000000) :
    Calls Tryz.prog 61 #[.pointer (some ⟨A, 0, none⟩), .string s, .string t] w fun e w' => e = .returned (.tuple #[.int .i64 t.size, .int .i64 22]) ∧ At w0 A { more D.tick s with files := (more D.tick s).files.set D.files.length (FileC.mk t.data.toList 0) } w' :=
  let ⟨ρ, fb, hd, hlo, hbl⟩ := h; (Go.Proofs.YtioidkbpjkcjeaaGreatDoor.short_new_all A D ρ fb w hd h0 h1 hnm hop s t hl ht hs fa fn hk hm hg hb).mono fun _ _ ⟨he, hk⟩ => ⟨he, at_kept hd hlo hbl hk⟩
theorem At.crash (h : At w0 A D w) (hnm : D.names.length + D.opn.flatten.length ≤ 1099511627776) (hop : D.opn.length ≤ 1099511627776) (keep : Int) (kk : Nat) (hk : max keep 0 = (kk : Int))
    (v : Value) (bs : List Int) (hb : IntsAt w v bs) (hbl : bs.length ≤ maxLen) (hbr : ∀ x ∈ bs, -9223372036854775808 ≤ x ∧ x ≤ 9223372036854775807) (hbo : bs = [] ∨ ∀ g, v.ownBlock = some g → g < w0.heap.size) :
    Calls Tryz.prog 24 #[.pointer (some ⟨A, 0, none⟩), .agg #[.int .i64 keep, v]] w fun e w' => e = .returned (.tuple #[]) ∧ At w0 A (D.crash kk bs) w' :=
  let ⟨ρ, fb, hd, hlo, hbe⟩ := h; (crash_any A D ρ fb w hd hnm hop keep kk hk v bs hb hbl hbr (hbo.imp id (fun h g hg => hlo g (h g hg)))).mono fun _ _ ⟨he, hk⟩ => ⟨he, at_kept hd hlo hbe hk.kept⟩
/-- A crash whose list of bytes lies in a block that the law has just made. -/
theorem At.crash_own (h : At w0 A D w) (hnm : D.names.length + D.opn.flatten.length ≤ 1099511627776) (hop : D.opn.length ≤ 1099511627776) (keep : Int) (kk : Nat) (hk : max keep 0 = (kk : Int)) (x : Int) (hx : -9223372036854775808 ≤ x ∧ x ≤ 9223372036854775807) :
    Calls Tryz.prog 24 #[.pointer (some ⟨A, 0, none⟩), .agg #[.int .i64 keep, .slice (some ⟨w.heap.size, 0, none⟩) 1 1]] (w.alloc (.cells #[.int .i64 x] 3)) fun e w' => e = .returned (.tuple #[]) ∧ At w0 A (D.crash kk [x]) w' := by
  obtain ⟨ρ, fb, hd, hlo, hbe⟩ := h
  have hi : IntsAt (w.alloc (.cells #[.int .i64 x] 3)) (.slice (some ⟨w.heap.size, 0, none⟩) 1 1) [x] :=
    .inr ⟨w.heap.size, 0, 1, rfl, by simp, fun W hW j hj => by
      have : W.heap[w.heap.size]? = some (.cells #[.int .i64 x] 3 (0, 0)) := hW.trans (heap_alloc_new w _)
      have hj0 : j = 0 := by simpa using hj
      subst hj0
      simp [World.cell?, this]⟩
  exact (crash_any A D ρ fb _ (hd.alloc _) hnm hop keep kk hk _ [x] hi (by unfold maxLen; simp) (by simpa using hx) (.inr fun g hg => by
    have : w.heap.size = g := by simpa [Value.ownBlock] using hg
    exact hd.out g (by omega))).mono fun _ _ ⟨he, hk⟩ => ⟨he, at_kept (hd.alloc _) hlo (hbe.alloc hbe.size _) hk.kept⟩
theorem fault_row (w : World) (f : Int × Int × Int) : FaultsAt (w.alloc (.cells #[.int .i64 f.1, .int .i64 f.2.1, .int .i64 f.2.2] 40)) (some ⟨w.heap.size, 0, none⟩) 1 [f] :=
  faultsAt_own (base := 0) ⟨by simp [faultCells], .inr ⟨w.heap.size, 1, _, rfl, Nat.zero_le _, heap_alloc_new w _, Nat.le_refl _, by decide, rfl, by simp [faultCells]⟩⟩
theorem At.plan_one (h : At w0 A D w) (f : Int × Int × Int) (hp : planOk D.steps [f] = true) (hf : -9223372036854775808 ≤ f.1 ∧ f.1 ≤ 9223372036854775807) :
    Calls Tryz.prog 22 #[.pointer (some ⟨A, 0, none⟩), .slice (some ⟨w.heap.size, 0, none⟩) 1 1] (w.alloc (.cells #[.int .i64 f.1, .int .i64 f.2.1, .int .i64 f.2.2] 40)) fun e w' => e = .returned (.int .i64 0) ∧ At w0 A { D with plan := [f] } w' := by
  obtain ⟨ρ, fb, hd, hlo, hbe⟩ := h
  exact (plan_good A D ρ fb _ (hd.alloc _) _ 1 [f] (fault_row w f) (.inr fun g hg => by
    have : w.heap.size = g := by simpa [Value.ownBlock] using hg
    exact hd.out g (by omega)) (by simp) hp (by simpa using hf)).mono fun _ _ ⟨he, hk⟩ => ⟨he, at_kept (hd.alloc _) hlo (hbe.alloc hbe.size _) hk.kept⟩
theorem At.plan_bad_one (h : At w0 A D w) (f : Int × Int × Int) (hp : planOk D.steps [f] = false) :
    Calls Tryz.prog 22 #[.pointer (some ⟨A, 0, none⟩), .slice (some ⟨w.heap.size, 0, none⟩) 1 1] (w.alloc (.cells #[.int .i64 f.1, .int .i64 f.2.1, .int .i64 f.2.2] 40)) fun e w' => e = .returned (.int .i64 1) ∧ At w0 A D w' := by
  have h' := h.alloc (.cells #[.int .i64 f.1, .int .i64 f.2.1, .int .i64 f.2.2] 40)
  obtain ⟨ρ, fb, hd, hlo, hbe⟩ := h
  exact (plan_bad A D ρ fb _ (hd.alloc _) _ 1 [f] (fault_row w f) (by simp) hp).mono fun _ _ ⟨he, hk⟩ => ⟨he, h'.others hk⟩
end
end Go.Proofs.YtioidkbpjkcjeaaGreatDoor
namespace Go.Proofs.YtioidkbpjkcjeaaGreatDoor
set_option linter.unusedVariables false
open Go Go.RowKit Dk
/-- The disk at A, made since w0, holds D; the blocks X are there and not its own. -/
def AtB (w0 : World) (A : Nat) (D : DSt) (X : Nat → Prop) (w : World) : Prop :=
  ∃ ρ fb, DiskAt w A D ρ fb ∧ (∀ b, b < w0.heap.size → ρ b = (0, 0)) ∧ (∀ b, X b → b < w.heap.size ∧ ρ b = (0, 0)) ∧ Below w0.heap.size w0 w
/-- These blocks stay. -/
def Stay (X : Nat → Prop) (w w' : World) : Prop := w.heap.size ≤ w'.heap.size ∧ ∀ b, X b → w'.heap[b]? = w.heap[b]?
theorem Stay.trans {X : Nat → Prop} {w w1 w2 : World} (h : Stay X w w1) (k : Stay X w1 w2) : Stay X w w2 := ⟨Nat.le_trans h.1 k.1, fun b hb => (k.2 b hb).trans (h.2 b hb)⟩
theorem Stay.refl (X : Nat → Prop) (w : World) : Stay X w w := ⟨Nat.le_refl _, fun _ _ => rfl⟩
section
variable {w0 w : World} {A : Nat} {D : DSt} {X : Nat → Prop}
theorem AtB.lt (h : AtB w0 A D X w) {b : Nat} (hb : X b) : b < w.heap.size := by obtain ⟨_, _, _, _, hx, _⟩ := h; exact (hx b hb).1
theorem AtB.below (h : AtB w0 A D X w) : Below w0.heap.size w0 w := let ⟨_, _, _, _, _, hb⟩ := h; hb
theorem AtB.of (h : At w0 A D w) : AtB w0 A D (fun _ => False) w := let ⟨ρ, fb, h1, h2, h3⟩ := h; ⟨ρ, fb, h1, h2, fun _ hb => hb.elim, h3⟩
theorem stay_below (h : AtB w0 A D X w) {w' : World} (hb : Below w.heap.size w w') : Stay X w w' := ⟨hb.size, fun b hx => hb.block b (h.lt hx)⟩
theorem AtB.others (h : AtB w0 A D X w) {w' : World} (hb : Below w.heap.size w w') : AtB w0 A D X w' := by
  obtain ⟨ρ, fb, h1, h2, h3, h4⟩ := h
  exact ⟨ρ, fb, h1.others (Fr.others hb.os hb.tape hb.output hb.size (fun b hlt _ => hb.block b hlt) h1.out), h2, fun b hx => ⟨Nat.lt_of_lt_of_le (h3 b hx).1 hb.size, (h3 b hx).2⟩, h4.trans (hb.mono h4.size)⟩
/-- New blocks come to those that stay. -/
theorem AtB.add (h : AtB w0 A D X w) {w' : World} (hb : Below w.heap.size w w') {Y : Nat → Prop} (hy : ∀ b, Y b → X b ∨ (w.heap.size ≤ b ∧ b < w'.heap.size)) : AtB w0 A D Y w' := by
  obtain ⟨ρ, fb, h1, h2, h3, h4⟩ := h
  refine ⟨ρ, fb, h1.others (Fr.others hb.os hb.tape hb.output hb.size (fun b hlt _ => hb.block b hlt) h1.out), h2, fun b hx => ?_, h4.trans (hb.mono h4.size)⟩
  rcases hy b hx with k | ⟨k1, k2⟩
  · exact ⟨Nat.lt_of_lt_of_le (h3 b k).1 hb.size, (h3 b k).2⟩
  · exact ⟨k2, h1.out b k1⟩
theorem AtB.alloc (h : AtB w0 A D X w) (o : Obj) : AtB w0 A D X (w.alloc o) := h.others ((Below.refl w.heap.size w).alloc (Nat.le_refl _) o)
/-- A store into a block that is not the disk's. -/
theorem AtB.set (h : AtB w0 A D X w) (B k : Nat) (v : Value) (hB : X B) (h0 : w0.heap.size ≤ B) : AtB w0 A D X (w.setCell ⟨B, k, none⟩ v) := by
  obtain ⟨ρ, fb, h1, h2, h3, h4⟩ := h
  have hs : (w.setCell ⟨B, k, none⟩ v).heap.size = w.heap.size := by simp [World.setCell]
  refine ⟨ρ, fb, h1.others (Fr.others rfl rfl rfl (by rw [hs]; exact Nat.le_refl _) (fun b hlt hn => ?_) h1.out), h2, fun b hx => ⟨by rw [hs]; exact (h3 b hx).1, (h3 b hx).2⟩, h4.setCell (p := ⟨B, k, none⟩) h0 v⟩
  exact heap_setCell_other _ _ _ _ (by intro e; exact hn (by have := (h3 B hB).2; simp only at e; rwa [← e] at this))
theorem atB_kept {ρ : Nat → Nat × Nat} {fb : List Nat} (h : DiskAt w A D ρ fb) (hl : ∀ b, b < w0.heap.size → ρ b = (0, 0)) (hx : ∀ b, X b → b < w.heap.size ∧ ρ b = (0, 0)) (hb : Below w0.heap.size w0 w) {D' : DSt} {w' : World} (k : Kept w A D' ρ w') : AtB w0 A D' X w' ∧ Stay X w w' := by
  obtain ⟨ρ', fb', h1, h2⟩ := k
  exact ⟨⟨ρ', fb', h1, fun b hlt => h2.stay b (Nat.lt_of_lt_of_le hlt hb.size) (hl b hlt), fun b hb' => ⟨Nat.lt_of_lt_of_le (hx b hb').1 h2.size, h2.stay b (hx b hb').1 (hx b hb').2⟩, hb.trans (h2.below hl hb.size)⟩,
    h2.size, fun b hb' => h2.block b (hx b hb').1 (fun c => c (hx b hb').2)⟩
theorem AtB.read_some (h : AtB w0 A D X w) (s : ByteArray) (hl : s.size ≤ maxLen) (hs : s.toList.isEmpty = false) (i : Nat) (f : FileC) (hg : nmGet D.names s = some i) (hf : D.files[i]? = some f) :
    Calls Tryz.prog 8 #[.pointer (some ⟨A, 0, none⟩), .string s] w fun e w' => e = .returned (.tuple #[.string ⟨f.data.toArray⟩, .int .i64 0]) ∧ w = w' :=
  let ⟨ρ, fb, h1, _, _, _⟩ := h; Go.Proofs.YtioidkbpjkcjeaaGreatDoor.read_some A D ρ fb w h1 s hl hs i f hg hf
theorem AtB.read_none (h : AtB w0 A D X w) (s : ByteArray) (hl : s.size ≤ maxLen) (hs : s.toList.isEmpty = false) (hg : nmGet D.names s = none) :
    Calls Tryz.prog 8 #[.pointer (some ⟨A, 0, none⟩), .string s] w fun e w' => e = .returned (.tuple #[.string ⟨#[]⟩, .int .i64 20]) ∧ w = w' :=
  let ⟨ρ, fb, h1, _, _, _⟩ := h; Go.Proofs.YtioidkbpjkcjeaaGreatDoor.read_none A D ρ fb w h1 s hl hs hg
theorem AtB.syncNames (h : AtB w0 A D X w) (h0 : 0 ≤ D.steps) (h1 : D.steps ≤ 4611686018427387904) (hm : D.hit = none) :
    Calls Tryz.prog 74 #[.pointer (some ⟨A, 0, none⟩)] w fun e w' => e = .returned (.int .i64 0) ∧ AtB w0 A (DSt.close D.tick) X w' ∧ Stay X w w' :=
  let ⟨ρ, fb, hd, hl, hx, hb⟩ := h; (syncNames_miss A D ρ fb w hd h0 h1 hm).mono fun _ _ ⟨he, hk⟩ => ⟨he, atB_kept hd hl hx hb hk.kept⟩
theorem AtB.sync (h : AtB w0 A D X w) (h0 : 0 ≤ D.steps) (h1 : D.steps ≤ 4611686018427387904) (s : ByteArray) (hl : s.size ≤ maxLen) (hs : s.toList.isEmpty = false) (i : Nat) (f : FileC) (hg : nmGet D.names s = some i) (hf : D.files[i]? = some f) (hm : D.hit = none) :
    Calls Tryz.prog 64 #[.pointer (some ⟨A, 0, none⟩), .string s] w fun e w' => e = .returned (.int .i64 0) ∧ AtB w0 A { D.tick with files := D.files.set i (syncF f) } X w' ∧ Stay X w w' :=
  let ⟨ρ, fb, hd, hlo, hx, hb⟩ := h; (sync_miss A D ρ fb w hd h0 h1 s hl hs i f hg hf hm).mono fun _ _ ⟨he, hk⟩ => ⟨he, atB_kept hd hlo hx hb hk.kept⟩
theorem AtB.write_new (h : AtB w0 A D X w) (h0 : 0 ≤ D.steps) (h1 : D.steps ≤ 4611686018427387904) (hnm : D.names.length ≤ 1099511627776) (hop : D.opn.length ≤ 1099511627776)
    (s t : ByteArray) (hl : s.size ≤ maxLen) (ht : t.size ≤ maxLen) (hs : s.toList.isEmpty = false) (hm : D.hit = none) (hg : nmGet D.names s = none) (hb : t.size ≤ 200000000000000) :
    Calls Tryz.prog 61 #[.pointer (some ⟨A, 0, none⟩), .string s, .string t] w fun e w' => e = .returned (.tuple #[.int .i64 t.size, .int .i64 0]) ∧ AtB w0 A { more D.tick s with files := (more D.tick s).files.set D.files.length (FileC.mk t.data.toList 0) } X w' ∧ Stay X w w' :=
  let ⟨ρ, fb, hd, hlo, hx, hbl⟩ := h; (Go.Proofs.YtioidkbpjkcjeaaGreatDoor.write_new A D ρ fb w hd h0 h1 hnm hop s t hl ht hs hm hg hb).mono fun _ _ ⟨he, hk⟩ => ⟨he, atB_kept hd hlo hx hbl hk⟩
theorem AtB.write_old (h : AtB w0 A D X w) (h0 : 0 ≤ D.steps) (h1 : D.steps ≤ 4611686018427387904) (s t : ByteArray) (hl : s.size ≤ maxLen) (ht : t.size ≤ maxLen) (hs : s.toList.isEmpty = false) (hm : D.hit = none)
    (i : Nat) (f : FileC) (hg : nmGet D.names s = some i) (hf : D.files[i]? = some f) (hb : f.data.length + t.size ≤ 200000000000000) :
    Calls Tryz.prog 61 #[.pointer (some ⟨A, 0, none⟩), .string s, .string t] w fun e w' => e = .returned (.tuple #[.int .i64 t.size, .int .i64 0]) ∧ AtB w0 A { D.tick with files := D.files.set i { f with data := f.data ++ t.data.toList } } X w' ∧ Stay X w w' :=
  let ⟨ρ, fb, hd, hlo, hx, hbl⟩ := h; (Go.Proofs.YtioidkbpjkcjeaaGreatDoor.write_old A D ρ fb w hd h0 h1 s t hl ht hs hm i f hg hf hb).mono fun _ _ ⟨he, hk⟩ => ⟨he, atB_kept hd hlo hx hbl hk⟩
theorem AtB.cut (h : AtB w0 A D X w) (h0 : 0 ≤ D.steps) (h1 : D.steps ≤ 4611686018427387904) (s : ByteArray) (n : Int) (hl : s.size ≤ maxLen) (hs : s.toList.isEmpty = false) (i : Nat) (f : FileC) (hg : nmGet D.names s = some i) (hf : D.files[i]? = some f) (hm : D.hit = none) (k : Nat) (hk : min (max n 0) (f.data.length : Int) = k) :
    Calls Tryz.prog 79 #[.pointer (some ⟨A, 0, none⟩), .string s, .int .i64 n] w fun e w' => e = .returned (.int .i64 0) ∧ AtB w0 A { D.tick with files := D.files.set i (f.cut k) } X w' ∧ Stay X w w' :=
  let ⟨ρ, fb, hd, hlo, hx, hb⟩ := h; (fcut_miss A D ρ fb w hd h0 h1 s n hl hs i f hg hf hm k hk).mono fun _ _ ⟨he, hk⟩ => ⟨he, atB_kept hd hlo hx hb hk.kept⟩
theorem AtB.crash (h : AtB w0 A D X w) (hnm : D.names.length + D.opn.flatten.length ≤ 1099511627776) (hop : D.opn.length ≤ 1099511627776) (keep : Int) (kk : Nat) (hk : max keep 0 = (kk : Int))
    (v : Value) (bs : List Int) (hb : IntsAt w v bs) (hbl : bs.length ≤ maxLen) (hbr : ∀ x ∈ bs, -9223372036854775808 ≤ x ∧ x ≤ 9223372036854775807) (hbo : bs = [] ∨ ∀ g, v.ownBlock = some g → g < w0.heap.size) :
    Calls Tryz.prog 24 #[.pointer (some ⟨A, 0, none⟩), .agg #[.int .i64 keep, v]] w fun e w' => e = .returned (.tuple #[]) ∧ AtB w0 A (D.crash kk bs) X w' ∧ Stay X w w' :=
  let ⟨ρ, fb, hd, hlo, hx, hbe⟩ := h; (crash_any A D ρ fb w hd hnm hop keep kk hk v bs hb hbl hbr (hbo.imp id (fun h g hg => hlo g (h g hg)))).mono fun _ _ ⟨he, hk⟩ => ⟨he, atB_kept hd hlo hx hbe hk.kept⟩
end
end Go.Proofs.YtioidkbpjkcjeaaGreatDoor
namespace Go.Proofs.YtioidkbpjkcjeaaGreatDoor
set_option linter.unusedVariables false
open Go.RowKit Dk
namespace Dk
def askD (D : DSt) (s : Nm) : Int := if s.toList.isEmpty then 1 else match nmGet D.names s with | none => 20 | some _ => 0
def hitD (D : DSt) : Int := match D.hit with | none => 0 | some f => hitErr f
def fileD (D : DSt) (s : Nm) : FileC := ((nmGet D.names s).bind fun i => D.files[i]?).getD ⟨[], 0⟩
def placeD (D : DSt) (s : Nm) : Nat := (nmGet D.names s).getD 0
def removeD (D : DSt) (s : Nm) : Int × DSt := if askD D s ≠ 0 then (askD D s, D) else if hitD D ≠ 0 then (hitD D, D.tick) else (0, D.tick.relink [(s, none)])
def renameD (D : DSt) (s t : Nm) : Int × DSt :=
  if t.toList.isEmpty then (1, D) else if askD D s ≠ 0 then (askD D s, D) else if hitD D ≠ 0 then (hitD D, D.tick) else if s = t then (0, D.tick) else (0, D.tick.relink [(s, none), (t, some (placeD D s))])
def syncD (D : DSt) (s : Nm) : Int × DSt := if askD D s ≠ 0 then (askD D s, D) else if hitD D ≠ 0 then (hitD D, D.tick) else (0, { D.tick with files := D.files.set (placeD D s) (syncF (fileD D s)) })
def cutK (f : FileC) (z : Int) : Nat := (min (max z 0) (f.data.length : Int)).toNat
def cutD (D : DSt) (s : Nm) (z : Int) : Int × DSt := if askD D s ≠ 0 then (askD D s, D) else if hitD D ≠ 0 then (hitD D, D.tick) else (0, { D.tick with files := D.files.set (placeD D s) ((fileD D s).cut (cutK (fileD D s) z)) })
def syncNamesD (D : DSt) : Int × DSt := if hitD D ≠ 0 then (hitD D, D.tick) else (0, DSt.close D.tick)
def planD (D : DSt) (l : List (Int × Int × Int)) : Int × DSt := if 4096 < l.length then (1, D) else if planOk D.steps l then (0, { D with plan := l }) else (1, D)
def layD (D : DSt) (s : Nm) (d : List UInt8) : DSt := match nmGet D.names s with
  | some i => { D with files := D.files.set i { fileD D s with data := (fileD D s).data ++ d } }
  | none => { more D s with files := (more D s).files.set D.files.length (FileC.mk d 0) }
/-- How many bytes a write lays: none at all where it is refused (-1). -/
def writeK (D : DSt) (t : Nm) : Int := match D.hit with | none => t.size | some f => if f.2.1 = 2 then min f.2.2 t.size else -1
def writeD (D : DSt) (s t : Nm) : Int × Int × DSt :=
  if s.toList.isEmpty then (0, 1, D) else if writeK D t < 0 then (0, hitD D, D.tick) else (writeK D t, hitD D, layD D.tick s (t.data.toList.take (writeK D t).toNat))
def readD (D : DSt) (s : Nm) : Nm := if s.toList.isEmpty then ⟨#[]⟩ else match nmGet D.names s with | none => ⟨#[]⟩ | some _ => ⟨(fileD D s).data.toArray⟩
theorem askD_ways (D : DSt) (s : Nm) : (s.toList.isEmpty = true ∧ askD D s = 1) ∨ (s.toList.isEmpty = false ∧ nmGet D.names s = none ∧ askD D s = 20) ∨ ∃ i, s.toList.isEmpty = false ∧ nmGet D.names s = some i ∧ askD D s = 0 := by
  unfold askD
  cases h : s.toList.isEmpty
  · right
    cases hg : nmGet D.names s with
    | none => left; exact ⟨rfl, rfl, rfl⟩
    | some i => right; exact ⟨i, rfl, rfl, rfl⟩
  · left; exact ⟨rfl, rfl⟩
theorem hitD_ways (D : DSt) : (D.hit = none ∧ hitD D = 0) ∨ ∃ fa fk fn, D.hit = some (fa, fk, fn) ∧ hitD D = hitErr (fa, fk, fn) ∧ hitD D ≠ 0 := by
  unfold hitD
  cases h : D.hit with
  | none => exact .inl ⟨rfl, rfl⟩
  | some f =>
    obtain ⟨a, b, c⟩ := f
    exact .inr ⟨a, b, c, rfl, rfl, by show hitErr _ ≠ 0; unfold hitErr; split <;> decide⟩
/-- What a disk must be for its calls to be walked: behind k calls, each of which laid c bytes at most. -/
structure DBd (c k : Nat) (D : DSt) : Prop where
  sum : D.names.length + D.opn.flatten.length ≤ 4 * k
  opn : D.opn.length ≤ k
  low : 0 ≤ D.steps
  high : D.steps ≤ k
  data : ∀ f ∈ D.files, f.data.length ≤ k * c
  plan : ∀ f ∈ D.plan, mayB f = true
end Dk
section
variable {w0 w : World} {A : Nat} {D : DSt} {X : Nat → Prop} {c k : Nat}
theorem AtB.ok (h : AtB w0 A D X w) : D.Ok := let ⟨_, _, h1, _, _, _⟩ := h; h1.ok
theorem AtB.file (h : AtB w0 A D X w) {s : Nm} {i : Nat} (hg : nmGet D.names s = some i) : D.files[i]? = some (fileD D s) ∧ placeD D s = i := by
  have hlt := (h.ok.named _ ((nmGet_some h.ok.sorted).1 hg)).2
  refine ⟨?_, by unfold placeD; rw [hg]; rfl⟩
  unfold fileD
  rw [hg]
  simp only [Option.bind_some]
  rw [List.getElem?_eq_getElem hlt]; rfl
theorem bd_big (b : DBd c k D) (hk : k ≤ 1048577) : D.steps ≤ 4611686018427387904 ∧ D.names.length ≤ 1099511627776 ∧ D.opn.length ≤ 1099511627776 ∧ D.names.length + D.opn.flatten.length ≤ 1099511627776 := by
  have h1 := b.sum; have h2 := b.opn; have h3 := b.high
  omega
theorem AtB.syncD (h : AtB w0 A D X w) (b : DBd c k D) (hk : k ≤ 1048577) (s : ByteArray) (hl : s.size ≤ maxLen) :
    Calls Tryz.prog 64 #[.pointer (some ⟨A, 0, none⟩), .string s] w fun e w' => e = .returned (.int .i64 (syncD D s).1) ∧ AtB w0 A (syncD D s).2 X w' ∧ Stay X w w' := by
  have h' := h
  obtain ⟨ρ, fb, hd, hlo, hx, hb⟩ := h
  obtain ⟨q1, q2, q3, q4⟩ := bd_big b hk
  unfold Dk.syncD
  rcases askD_ways D s with ⟨h1, h2⟩ | ⟨h1, hg, h2⟩ | ⟨i, h1, hg, h2⟩ <;> rw [h2]
  · rw [if_pos (by decide)]
    exact (sync_empty A s (by simpa using h1) w).mono fun _ _ ⟨he, hw⟩ => ⟨he, by subst hw; exact ⟨h', Stay.refl _ _⟩⟩
  · rw [if_pos (by decide)]
    exact (sync_none A D ρ fb w hd s hl h1 hg).mono fun _ _ ⟨he, hw⟩ => ⟨he, by subst hw; exact ⟨h', Stay.refl _ _⟩⟩
  · rw [if_neg (by decide)]
    obtain ⟨hf, hp⟩ := h'.file hg
    rcases hitD_ways D with ⟨hm, h3⟩ | ⟨fa, fk, fn, hm, h3, h4⟩
    · rw [h3, if_neg (by decide), hp]
      exact (sync_miss A D ρ fb w hd b.low q1 s hl h1 i _ hg hf hm).mono fun _ _ ⟨he, hk⟩ => ⟨he, atB_kept hd hlo hx hb hk.kept⟩
    · rw [if_pos h4, h3]
      exact (sync_hit A D ρ fb w hd b.low q1 s hl h1 i _ hg hf fa fk fn hm).mono fun _ _ ⟨he, hk⟩ => ⟨he, atB_kept hd hlo hx hb hk.kept⟩
theorem AtB.cutD (h : AtB w0 A D X w) (b : DBd c k D) (hk : k ≤ 1048577) (s : ByteArray) (z : Int) (hl : s.size ≤ maxLen) :
    Calls Tryz.prog 79 #[.pointer (some ⟨A, 0, none⟩), .string s, .int .i64 z] w fun e w' => e = .returned (.int .i64 (cutD D s z).1) ∧ AtB w0 A (cutD D s z).2 X w' ∧ Stay X w w' := by
  have h' := h
  obtain ⟨ρ, fb, hd, hlo, hx, hb⟩ := h
  obtain ⟨q1, q2, q3, q4⟩ := bd_big b hk
  unfold Dk.cutD
  rcases askD_ways D s with ⟨h1, h2⟩ | ⟨h1, hg, h2⟩ | ⟨i, h1, hg, h2⟩ <;> rw [h2]
  · rw [if_pos (by decide)]
    exact (fcut_empty A s (by simpa using h1) z w).mono fun _ _ ⟨he, hw⟩ => ⟨he, by subst hw; exact ⟨h', Stay.refl _ _⟩⟩
  · rw [if_pos (by decide)]
    exact (fcut_none A D ρ fb w hd s z hl h1 hg).mono fun _ _ ⟨he, hw⟩ => ⟨he, by subst hw; exact ⟨h', Stay.refl _ _⟩⟩
  · rw [if_neg (by decide)]
    obtain ⟨hf, hp⟩ := h'.file hg
    rcases hitD_ways D with ⟨hm, h3⟩ | ⟨fa, fk, fn, hm, h3, h4⟩
    · rw [h3, if_neg (by decide), hp]
      exact (fcut_miss A D ρ fb w hd b.low q1 s z hl h1 i _ hg hf hm _ (by unfold cutK; omega)).mono fun _ _ ⟨he, hk⟩ => ⟨he, atB_kept hd hlo hx hb hk.kept⟩
    · rw [if_pos h4, h3]
      exact (fcut_hit A D ρ fb w hd b.low q1 s z hl h1 i _ hg hf fa fk fn hm).mono fun _ _ ⟨he, hk⟩ => ⟨he, atB_kept hd hlo hx hb hk.kept⟩
theorem AtB.syncNamesD (h : AtB w0 A D X w) (b : DBd c k D) (hk : k ≤ 1048577) :
    Calls Tryz.prog 74 #[.pointer (some ⟨A, 0, none⟩)] w fun e w' => e = .returned (.int .i64 (syncNamesD D).1) ∧ AtB w0 A (syncNamesD D).2 X w' ∧ Stay X w w' := by
  obtain ⟨ρ, fb, hd, hlo, hx, hb⟩ := h
  obtain ⟨q1, q2, q3, q4⟩ := bd_big b hk
  unfold Dk.syncNamesD
  rcases hitD_ways D with ⟨hm, h3⟩ | ⟨fa, fk, fn, hm, h3, h4⟩
  · rw [h3, if_neg (by decide)]
    exact (syncNames_miss A D ρ fb w hd b.low q1 hm).mono fun _ _ ⟨he, hk⟩ => ⟨he, atB_kept hd hlo hx hb hk.kept⟩
  · rw [if_pos h4, h3]
    exact (syncNames_hit A D ρ fb w hd b.low q1 fa fk fn hm).mono fun _ _ ⟨he, hk⟩ => ⟨he, atB_kept hd hlo hx hb hk.kept⟩
theorem AtB.planD (h : AtB w0 A D X w) (p : Option Addr) (c : Nat) (l : List (Int × Int × Int)) (hl : FaultsAt w p c l) (hlo : ∀ g, (Value.slice p l.length c).ownBlock = some g → X g) (hr : ∀ f ∈ l, -9223372036854775808 ≤ f.1 ∧ f.1 ≤ 9223372036854775807) :
    Calls Tryz.prog 22 #[.pointer (some ⟨A, 0, none⟩), .slice p l.length c] w fun e w' => e = .returned (.int .i64 (planD D l).1) ∧ AtB w0 A (planD D l).2 X w' ∧ Stay X w w' := by
  have h' := h
  obtain ⟨ρ, fb, hd, hlo', hx, hb⟩ := h
  unfold Dk.planD
  by_cases h1 : 4096 < l.length
  · rw [if_pos h1]
    exact (plan_long A p l.length c h1 w).mono fun _ _ ⟨he, hw⟩ => ⟨he, by subst hw; exact ⟨h', Stay.refl _ _⟩⟩
  · rw [if_neg h1]
    cases h2 : planOk D.steps l
    · rw [if_neg (by decide)]
      exact (plan_bad A D ρ fb w hd p c l hl (by omega) h2).mono fun _ _ ⟨he, hw⟩ => ⟨he, h'.others hw, stay_below h' hw⟩
    · rw [if_pos rfl]
      exact (plan_good A D ρ fb w hd p c l hl (.inr fun g hg => (hx g (hlo g hg)).2) (by omega) h2 hr).mono fun _ _ ⟨he, hk⟩ => ⟨he, atB_kept hd hlo' hx hb hk.kept⟩
theorem AtB.writeD (h : AtB w0 A D X w) (b : DBd c k D) (hk : k ≤ 1048577) (hc : c ≤ 4194304) (s t : ByteArray) (hl : s.size ≤ maxLen) (ht : t.size ≤ c) :
    Calls Tryz.prog 61 #[.pointer (some ⟨A, 0, none⟩), .string s, .string t] w fun e w' => e = .returned (.tuple #[.int .i64 (writeD D s t).1, .int .i64 (writeD D s t).2.1]) ∧ AtB w0 A (writeD D s t).2.2 X w' ∧ Stay X w w' := by
  have h' := h
  obtain ⟨ρ, fb, hd, hlo, hx, hb⟩ := h
  obtain ⟨q1, q2, q3, q4⟩ := bd_big b hk
  have htm : t.size ≤ maxLen := by unfold maxLen; omega
  have hlen : t.data.toList.length = t.size := by rw [Array.length_toList]; rfl
  unfold Dk.writeD
  cases h1 : s.toList.isEmpty
  · rw [if_neg (by decide)]
    have hbig : ∀ (i : Nat) (f : FileC), D.files[i]? = some f → f.data.length + t.size ≤ 200000000000000 := fun i f hf => by
      have := b.data f (List.mem_of_getElem? hf)
      have : k * c ≤ 1048577 * 4194304 := Nat.mul_le_mul hk hc
      omega
    rcases hitD_ways D with ⟨hm, h3⟩ | ⟨fa, fk, fn, hm, h3, h4⟩
    · have hw : writeK D t = t.size := by unfold writeK; rw [hm]
      rw [hw, h3, if_neg (by omega), Int.toNat_natCast, List.take_of_length_le (by omega)]
      unfold layD
      cases hg : nmGet D.tick.names s with
      | some i =>
        obtain ⟨hf, hp⟩ := h'.file (s := s) (i := i) hg
        exact (Go.Proofs.YtioidkbpjkcjeaaGreatDoor.write_old A D ρ fb w hd b.low q1 s t hl htm h1 hm i _ hg hf (hbig i _ hf)).mono fun _ _ ⟨he, hk⟩ => ⟨he, atB_kept hd hlo hx hb hk⟩
      | none =>
        exact (Go.Proofs.YtioidkbpjkcjeaaGreatDoor.write_new A D ρ fb w hd b.low q1 q2 q3 s t hl htm h1 hm hg (by omega)).mono fun _ _ ⟨he, hk⟩ => ⟨he, atB_kept hd hlo hx hb hk⟩
    · by_cases c2 : fk = 2
      · subst c2
        have h5 : hitD D = 22 := by rw [h3]; rfl
        have hmay : 0 ≤ fn := by
          have := b.plan _ (List.mem_of_find?_eq_some hm)
          simpa [mayB] using this
        have hw : writeK D t = min fn t.size := by unfold writeK; rw [hm]; rfl
        rw [hw, h5, if_neg (by omega)]
        by_cases c3 : fn ≤ t.size
        · obtain ⟨n, rfl⟩ : ∃ n : Nat, fn = n := ⟨fn.toNat, by omega⟩
          have e : min (n : Int) (t.size : Int) = n := by omega
          rw [e, Int.toNat_natCast]
          unfold layD
          cases hg : nmGet D.tick.names s with
          | some i =>
            obtain ⟨hf, hp⟩ := h'.file (s := s) (i := i) hg
            exact (short_old A D ρ fb w hd b.low q1 s t hl htm h1 fa n (by omega) hm i _ hg hf (hbig i _ hf)).mono fun _ _ ⟨he, hk⟩ => ⟨he, atB_kept hd hlo hx hb hk⟩
          | none =>
            exact (short_new A D ρ fb w hd b.low q1 q2 q3 s t hl htm h1 fa n (by omega) hm hg (by omega)).mono fun _ _ ⟨he, hk⟩ => ⟨he, atB_kept hd hlo hx hb hk⟩
        · have e : min fn (t.size : Int) = t.size := by omega
          rw [e, Int.toNat_natCast, List.take_of_length_le (by omega)]
          unfold layD
          cases hg : nmGet D.tick.names s with
          | some i =>
            obtain ⟨hf, hp⟩ := h'.file (s := s) (i := i) hg
            exact (short_old_all A D ρ fb w hd b.low q1 s t hl htm h1 fa fn (by omega) hm i _ hg hf (hbig i _ hf)).mono fun _ _ ⟨he, hk⟩ => ⟨he, atB_kept hd hlo hx hb hk⟩
          | none =>
            exact (short_new_all A D ρ fb w hd b.low q1 q2 q3 s t hl htm h1 fa fn (by omega) hm hg (by omega)).mono fun _ _ ⟨he, hk⟩ => ⟨he, atB_kept hd hlo hx hb hk⟩
      · have hw : writeK D t = -1 := by unfold writeK; rw [hm]; simp [c2]
        rw [hw, if_pos (by decide), h3]
        exact (write_hit A D ρ fb w hd b.low q1 s t h1 fa fk fn (by simpa using c2) hm).mono fun _ _ ⟨he, hk⟩ => ⟨he, atB_kept hd hlo hx hb hk⟩
  · rw [if_pos rfl]
    exact (write_empty A s t (by simpa using h1) w).mono fun _ _ ⟨he, hw⟩ => ⟨he, by subst hw; exact ⟨h', Stay.refl _ _⟩⟩
theorem AtB.readD (h : AtB w0 A D X w) (s : ByteArray) (hl : s.size ≤ maxLen) :
    Calls Tryz.prog 8 #[.pointer (some ⟨A, 0, none⟩), .string s] w fun e w' => e = .returned (.tuple #[.string (readD D s), .int .i64 (askD D s)]) ∧ w = w' := by
  unfold Dk.readD
  rcases askD_ways D s with ⟨h1, h2⟩ | ⟨h1, hg, h2⟩ | ⟨i, h1, hg, h2⟩ <;> rw [h2]
  · rw [if_pos h1]; exact read_empty A s (by simpa using h1) w
  · rw [if_neg (by rw [h1]; decide), hg]; exact h.read_none s hl h1 hg
  · rw [if_neg (by rw [h1]; decide), hg]; exact h.read_some s hl h1 i _ hg (h.file hg).1
theorem AtB.stepsD (h : AtB w0 A D X w) : Calls Tryz.prog 21 #[.pointer (some ⟨A, 0, none⟩)] w fun e w' => e = .returned (.int .i64 D.steps) ∧ w = w' :=
  let ⟨ρ, fb, h1, _, _, _⟩ := h; steps_any A D ρ fb w h1
theorem AtB.namesD (h : AtB w0 A D X w) (hnm : D.names.length ≤ 1099511627776) : Calls Tryz.prog 45 #[.pointer (some ⟨A, 0, none⟩)] w (NamesOut w D.names) :=
  let ⟨ρ, fb, h1, _, _, _⟩ := h; names_any A D ρ fb w h1 hnm
end
end Go.Proofs.YtioidkbpjkcjeaaGreatDoor
namespace Go.Proofs.YtioidkbpjkcjeaaGreatDoor
set_option linter.unusedVariables false
open Go.RowKit Dk
section
variable {φ : Nat → Nat} {D : DSt} {M : RSt}
theorem Dk.Twin.ask (h : Dk.Twin φ D M) (s : Nm) : askE M s = askD D s := by
  unfold askE askD
  rw [h.get]
  cases nmGet D.names s <;> rfl
theorem Dk.Twin.hits (h : Dk.Twin φ D M) : M.hit = D.hit := h.hit.symm
theorem hitE_D (h : Dk.Twin φ D M) : hitE M.hit = hitD D := by
  rw [h.hits]
  unfold hitD
  cases D.hit <;> rfl
theorem Dk.Twin.file_at (h : Dk.Twin φ D M) {s : Nm} {i : Nat} (hg : nmGet D.names s = some i) : ∃ f, D.files[i]? = some f ∧ M.files[φ i]? = some f ∧ (s, i) ∈ D.names := by
  have hm := (nmGet_some h.names_sorted).1 hg
  obtain ⟨f, h1, h2⟩ := h.file D.opn.length (Nat.le_refl _) (s, i) (by rw [undo_all]; exact hm)
  exact ⟨f, h1, h2, hm⟩
theorem fileD_at {s : Nm} {i : Nat} {f : FileC} (hg : nmGet D.names s = some i) (hf : D.files[i]? = some f) : fileD D s = f ∧ placeD D s = i := by
  unfold fileD placeD; rw [hg]; simp [hf]
theorem fileOf_at {s : Nm} {i : Nat} {f : FileC} (hg : nmGet M.now s = some i) (hf : M.files[i]? = some f) : fileOf M s = f ∧ placeOf M s = i := by
  unfold fileOf placeOf; rw [hg]; simp [hf]
theorem Dk.Twin.filed (h : Dk.Twin φ D M) (s : Nm) : Filed M s := by
  intro i hi
  rw [h.get] at hi
  cases hg : nmGet D.names s with
  | none => rw [hg] at hi; cases hi
  | some j =>
    rw [hg] at hi
    obtain rfl : φ j = i := Option.some.inj hi
    obtain ⟨f, _, h2, _⟩ := h.file_at hg
    exact ⟨f, h2⟩
/-- The files that a name leads to are the same. -/
theorem Dk.Twin.files (h : Dk.Twin φ D M) {s : Nm} {i : Nat} (hg : nmGet D.names s = some i) : fileOf M s = fileD D s ∧ placeOf M s = φ i ∧ placeD D s = i ∧ D.files[i]? = some (fileD D s) ∧ M.files[φ i]? = some (fileD D s) ∧ (s, i) ∈ D.names := by
  obtain ⟨f, h1, h2, h3⟩ := h.file_at hg
  have hg' : nmGet M.now s = some (φ i) := by rw [h.get, hg]; rfl
  obtain ⟨e1, e2⟩ := fileD_at hg h1
  obtain ⟨e3, e4⟩ := fileOf_at hg' h2
  rw [e1, e2, e3, e4]
  exact ⟨rfl, rfl, rfl, h1, h2, h3⟩
theorem ask_some {s : Nm} (h : askD D s = 0) : ∃ i, s.toList.isEmpty = false ∧ nmGet D.names s = some i := by
  rcases askD_ways D s with ⟨_, h2⟩ | ⟨_, _, h2⟩ | ⟨i, h1, hg, _⟩
  · omega
  · omega
  · exact ⟨i, h1, hg⟩
theorem two_remove (h : Dk.Twin φ D M) (s : Nm) : (removeR M s).1 = (removeD D s).1 ∧ Dk.Twin φ (removeD D s).2 (removeR M s).2 := by
  unfold removeD removeR
  rw [h.ask, hitE_D h]
  split
  · exact ⟨rfl, h⟩
  split
  · exact ⟨rfl, h.tick⟩
  · exact ⟨rfl, h.tick.remove s⟩
theorem two_rename (h : Dk.Twin φ D M) (s t : Nm) : (renameR M s t).1 = (renameD D s t).1 ∧ Dk.Twin φ (renameD D s t).2 (renameR M s t).2 := by
  unfold renameD renameR
  rw [h.ask, hitE_D h]
  split
  · exact ⟨rfl, h⟩
  split
  · exact ⟨rfl, h⟩
  split
  · exact ⟨rfl, h.tick⟩
  split
  · exact ⟨rfl, h.tick⟩
  · rename_i ha _ hst
    obtain ⟨i, h1, hg⟩ := ask_some (D := D) (s := s) (by omega)
    obtain ⟨_, _, e3, _⟩ := h.files hg
    have e : (askF M s).toNat = φ i := by
      unfold askF
      rw [if_neg (by rw [h1]; decide), h.get, hg]; rfl
    rw [e, e3]
    exact ⟨rfl, h.tick.rename hst hg⟩
theorem two_sync (h : Dk.Twin φ D M) (s : Nm) : (syncR M s).1 = (syncD D s).1 ∧ Dk.Twin φ (syncD D s).2 (syncR M s).2 := by
  unfold syncD syncR
  rw [h.ask, hitE_D h]
  split
  · exact ⟨rfl, h⟩
  split
  · exact ⟨rfl, h.tick⟩
  · rename_i ha _
    obtain ⟨i, h1, hg⟩ := ask_some (D := D) (s := s) (by omega)
    obtain ⟨e1, e2, e3, e4, e5, e6⟩ := h.files hg
    rw [e1, e2, e3]
    exact ⟨rfl, h.tick.turn (n := s) (i := i) e6 (syncF (fileD D s))⟩
theorem two_cut (h : Dk.Twin φ D M) (s : Nm) (z : Int) (k : Nat) (hk : max 0 (min z ((fileOf M s).data.length : Int)) = (k : Int)) : (cutR M s k).1 = (cutD D s z).1 ∧ Dk.Twin φ (cutD D s z).2 (cutR M s k).2 := by
  unfold cutD cutR
  rw [h.ask, hitE_D h]
  split
  · exact ⟨rfl, h⟩
  split
  · exact ⟨rfl, h.tick⟩
  · rename_i ha _
    obtain ⟨i, h1, hg⟩ := ask_some (D := D) (s := s) (by omega)
    obtain ⟨e1, e2, e3, e4, e5, e6⟩ := h.files hg
    have ek : cutK (fileD D s) z = k := by unfold cutK; rw [← e1]; omega
    rw [e1, e2, e3, ek]
    exact ⟨rfl, h.tick.turn (n := s) (i := i) e6 ((fileD D s).cut k)⟩
theorem two_syncNames (h : Dk.Twin φ D M) : (syncNamesR M).1 = (syncNamesD D).1 ∧ Dk.Twin φ (syncNamesD D).2 (syncNamesR M).2 := by
  unfold syncNamesD syncNamesR
  rw [hitE_D h]
  split
  · exact ⟨rfl, h.tick⟩
  · exact ⟨rfl, h.tick.close⟩
theorem two_plan (h : Dk.Twin φ D M) (l : List (Int × Int × Int)) : (planR M l).1 = (planD D l).1 ∧ Dk.Twin φ (planD D l).2 (planR M l).2 := by
  have e : planOk M.made l = planOk D.steps l := by rw [h.made]
  unfold planD planR
  rw [e]
  split
  · exact ⟨rfl, h⟩
  split
  · exact ⟨rfl, h.planned l⟩
  · exact ⟨rfl, h⟩
theorem two_read (h : Dk.Twin φ D M) (s : Nm) : readR M s = readD D s := by
  unfold readR readD
  rw [h.get]
  split
  · rfl
  cases hg : nmGet D.names s with
  | none => rfl
  | some i =>
    obtain ⟨e1, e2, e3, e4, e5, e6⟩ := h.files hg
    simp only [Option.map_some]
    rw [e5]
theorem two_names (h : Dk.Twin φ D M) : M.now.map (·.1) = D.names.map (·.1) := by
  rw [h.now]; unfold ren; rw [List.map_map]; rfl
theorem names_len (h : Dk.Twin φ D M) : M.now.length = D.names.length := by rw [h.now]; unfold ren; rw [List.length_map]
theorem set_end {α : Type} (l : List α) (x y : α) : (l ++ [x]).set l.length y = l ++ [y] := by
  rw [List.set_append_right _ _ (Nat.le_refl _)]; simp
theorem two_lay (h : Dk.Twin φ D M) (s : Nm) (d : List UInt8) : ∃ ψ, Dk.Twin ψ (layD D s d) (layR M s d) := by
  unfold layD layR
  rw [h.get]
  cases hg : nmGet D.names s with
  | some i =>
    obtain ⟨e1, e2, e3, e4, e5, e6⟩ := h.files hg
    simp only [Option.map_some]
    rw [e5]
    exact ⟨φ, h.turn (n := s) (i := i) e6 { fileD D s with data := (fileD D s).data ++ d }⟩
  | none =>
    have hb := h.begun hg
    have em : D.begun s = more D s := by unfold DSt.begun more; rw [hg]
    rw [em] at hb
    have hm : (s, D.files.length) ∈ (more D s).names := mem_nmPut.2 (.inl rfl)
    have ht := hb.turn hm ⟨d, 0⟩
    simp only [if_true] at ht
    rw [set_end] at ht
    exact ⟨_, ht⟩
theorem write_same (h : Dk.Twin φ D M) (hp : ∀ f ∈ D.plan, mayB f = true) (t : Nm) : (writeN M t < 0 ↔ writeK D t < 0) ∧ (0 ≤ writeK D t → min (writeN M t) (t.size : Int) = writeK D t) := by
  unfold writeN writeK
  rw [h.hits]
  cases hm : D.hit with
  | none => simp [hitE]
  | some f =>
    obtain ⟨a, b, c⟩ := f
    have hmay := hp _ (List.mem_of_find?_eq_some hm)
    have hne : ¬ hitE (some (a, b, c)) = 0 := by
      show ¬ (if b = 3 then (23 : Int) else 22) = 0
      split <;> decide
    rw [if_neg hne]
    unfold hitN
    by_cases c3 : b = 3
    · subst c3; simp
    · by_cases c2 : b = 2
      · subst c2
        have : 0 ≤ c := by simpa [mayB] using hmay
        simp; omega
      · simp [c2, c3]
theorem two_write (h : Dk.Twin φ D M) (hp : ∀ f ∈ D.plan, mayB f = true) (s t : Nm) : (writeR M s t).1 = (writeD D s t).1 ∧ (writeR M s t).2.1 = (writeD D s t).2.1 ∧ ∃ ψ, Dk.Twin ψ (writeD D s t).2.2 (writeR M s t).2.2 := by
  obtain ⟨h1, h2⟩ := write_same h hp t
  unfold writeD writeR
  rw [hitE_D h]
  split
  · exact ⟨rfl, rfl, φ, h⟩
  by_cases c : writeK D t < 0
  · rw [if_pos c, if_pos (h1.2 c)]
    exact ⟨rfl, rfl, φ, h.tick⟩
  · rw [if_neg c, if_neg (fun e => c (h1.1 e)), h2 (by omega)]
    exact ⟨rfl, rfl, two_lay h.tick s _⟩
end
/-! ### the bounds -/
theorem grow_mul (k c : Nat) : k * c + c = (k + 1) * c := by rw [Nat.succ_mul]
structure Dk.MBd (c k : Nat) (M : RSt) : Prop where
  files : M.files.length ≤ 4 * k
  data : ∀ f ∈ M.files, f.synced ≤ f.data.length ∧ f.data.length ≤ k * c
  flt : M.faults.length ≤ 4096
section
variable {c k : Nat} {D : DSt} {M : RSt}
theorem Dk.DBd.more (h : DBd c k D) : DBd c (k + 1) D := by
  have h1 := h.sum; have h2 := h.opn; have h3 := h.low; have h4 := h.high
  exact ⟨by omega, by omega, h3, by omega, fun f hf => by have := h.data f hf; have := grow_mul k c; omega, h.plan⟩
theorem Dk.MBd.more (h : MBd c k M) : MBd c (k + 1) M := by
  have h1 := h.files
  exact ⟨by omega, fun f hf => by have := h.data f hf; have := grow_mul k c; omega, h.flt⟩
theorem Dk.DBd.tick (h : DBd c k D) : DBd c (k + 1) D.tick := by
  have h' := h.more
  have h3 := h.low; have h4 := h.high
  exact ⟨h'.sum, h'.opn, by show 0 ≤ D.steps + 1; omega, by show D.steps + 1 ≤ _; omega, h'.data, fun f hf => h.plan f (List.mem_filter.1 hf).1⟩
theorem foldl_set_len (l : List (Nm × Option Nat)) : ∀ L : List (Nm × Nat), (l.foldl nmSet L).length ≤ L.length + l.length := by
  induction l with
  | nil => intro L; simp
  | cons x r ih =>
    intro L
    have := ih (nmSet L x)
    have := length_nmSet_le L x
    rw [List.foldl_cons, List.length_cons]; omega
theorem Dk.DBd.relink (h : DBd c k D) (l : List (Nm × Option Nat)) (hl : l.length ≤ 2) : DBd c (k + 1) (D.tick.relink l) := by
  have t := h.tick
  have h1 := h.sum; have h2 := h.opn
  have e := foldl_set_len l D.names
  refine ⟨?_, ?_, t.low, t.high, t.data, t.plan⟩
  · show (l.foldl nmSet D.names).length + (D.opn ++ [befores D.names l]).flatten.length ≤ _
    rw [List.flatten_append, List.length_append]
    simp only [List.flatten_cons, List.flatten_nil, List.append_nil, befores_length]
    omega
  · show (D.opn ++ [_]).length ≤ _
    rw [List.length_append]; simp; omega
theorem Dk.DBd.set (h : DBd c k D) (i : Nat) (f : FileC) (hf : f.data.length ≤ k * c) : DBd c k { D with files := D.files.set i f } :=
  ⟨h.sum, h.opn, h.low, h.high, fun x hx => by rcases List.mem_or_eq_of_mem_set hx with e | rfl; exact h.data x e; exact hf, h.plan⟩
theorem Dk.MBd.set (h : MBd c k M) (i : Nat) (f : FileC) (hf : f.synced ≤ f.data.length ∧ f.data.length ≤ k * c) : MBd c k { M with files := M.files.set i f } :=
  ⟨by show (M.files.set i f).length ≤ _; rw [List.length_set]; exact h.files, fun x hx => by rcases List.mem_or_eq_of_mem_set hx with e | rfl; exact h.data x e; exact hf, h.flt⟩
end
section
variable {c k : Nat} {φ : Nat → Nat} {D : DSt} {M : RSt}
theorem bd_remove (h : DBd c k D) (m : MBd c k M) (s : Nm) : DBd c (k + 1) (removeD D s).2 ∧ MBd c (k + 1) (removeR M s).2 := by
  refine ⟨?_, ?_⟩
  · unfold removeD; split; exact h.more; split; exact h.tick; exact h.relink _ (by simp)
  · unfold removeR
    split
    · exact m.more
    split
    · exact ⟨m.more.files, m.more.data, m.flt⟩
    · exact ⟨m.more.files, m.more.data, m.flt⟩
theorem bd_rename (h : DBd c k D) (m : MBd c k M) (s t : Nm) : DBd c (k + 1) (renameD D s t).2 ∧ MBd c (k + 1) (renameR M s t).2 := by
  refine ⟨?_, ?_⟩
  · unfold renameD; split; exact h.more; split; exact h.more; split; exact h.tick; split; exact h.tick; exact h.relink _ (by simp)
  · unfold renameR
    split
    · exact m.more
    split
    · exact m.more
    split
    · exact ⟨m.more.files, m.more.data, m.flt⟩
    split
    · exact ⟨m.more.files, m.more.data, m.flt⟩
    · exact ⟨m.more.files, m.more.data, m.flt⟩
theorem bd_syncNames (h : DBd c k D) (m : MBd c k M) : DBd c (k + 1) (syncNamesD D).2 ∧ MBd c (k + 1) (syncNamesR M).2 := by
  refine ⟨?_, ?_⟩
  · unfold syncNamesD
    split
    · exact h.tick
    · have t := h.tick
      exact ⟨by have := t.sum; show D.tick.names.length + 0 ≤ _; omega, Nat.zero_le _, t.low, t.high, t.data, t.plan⟩
  · unfold syncNamesR
    split
    · exact ⟨m.more.files, m.more.data, m.flt⟩
    · exact ⟨m.more.files, m.more.data, m.flt⟩
theorem file_bd (h : DBd c k D) (m : MBd c k M) (tw : Dk.Twin φ D M) {s : Nm} (ha : askD D s = 0) : (fileD D s).synced ≤ (fileD D s).data.length ∧ (fileD D s).data.length ≤ k * c := by
  obtain ⟨i, h1, hg⟩ := ask_some ha
  obtain ⟨e1, e2, e3, e4, e5, e6⟩ := tw.files hg
  exact m.data _ (List.mem_of_getElem? e5)
theorem bd_sync (h : DBd c k D) (m : MBd c k M) (tw : Dk.Twin φ D M) (s : Nm) : DBd c (k + 1) (syncD D s).2 ∧ MBd c (k + 1) (syncR M s).2 := by
  unfold syncD syncR
  rw [tw.ask, hitE_D tw]
  split
  · exact ⟨h.more, m.more⟩
  split
  · exact ⟨h.tick, m.more.files, m.more.data, m.flt⟩
  · rename_i ha _
    have ha0 : askD D s = 0 := by omega
    obtain ⟨b1, b2⟩ := file_bd h m tw ha0
    obtain ⟨i, h1, hg⟩ := ask_some ha0
    obtain ⟨e1, e2, e3, e4, e5, e6⟩ := tw.files hg
    have := grow_mul k c
    refine ⟨h.tick.set _ _ (by show (fileD D s).data.length ≤ _; omega), ?_⟩
    rw [e1]
    have := m.more.set (placeOf M s) { fileD D s with synced := (fileD D s).data.length } ⟨Nat.le_refl _, by show (fileD D s).data.length ≤ _; omega⟩
    exact ⟨this.files, this.data, this.flt⟩
theorem bd_cut (h : DBd c k D) (m : MBd c k M) (tw : Dk.Twin φ D M) (s : Nm) (z : Int) (n : Nat) : DBd c (k + 1) (cutD D s z).2 ∧ MBd c (k + 1) (cutR M s n).2 := by
  unfold cutD cutR
  rw [tw.ask, hitE_D tw]
  split
  · exact ⟨h.more, m.more⟩
  split
  · exact ⟨h.tick, m.more.files, m.more.data, m.flt⟩
  · rename_i ha _
    have ha0 : askD D s = 0 := by omega
    obtain ⟨b1, b2⟩ := file_bd h m tw ha0
    obtain ⟨i, h1, hg⟩ := ask_some ha0
    obtain ⟨e1, e2, e3, e4, e5, e6⟩ := tw.files hg
    have := grow_mul k c
    have hc : ∀ j, ((fileD D s).cut j).data.length ≤ (k + 1) * c := fun j => by
      show ((fileD D s).data.take j).length ≤ _
      rw [List.length_take]; omega
    refine ⟨h.tick.set _ _ (hc _), ?_⟩
    rw [e1]
    have := m.more.set (placeOf M s) ((fileD D s).cut n) ⟨by show min _ _ ≤ _; exact Nat.min_le_right _ _, hc _⟩
    exact ⟨this.files, this.data, this.flt⟩
theorem bd_plan (h : DBd c k D) (m : MBd c k M) (l : List (Int × Int × Int)) (hl : ∀ z, planOk z l = true → ∀ f ∈ l, mayB f = true) : DBd c (k + 1) (planD D l).2 ∧ MBd c (k + 1) (planR M l).2 := by
  refine ⟨?_, ?_⟩
  · unfold planD
    split
    · exact h.more
    split
    · rename_i hp
      have t := h.more
      exact ⟨t.sum, t.opn, t.low, t.high, t.data, hl _ hp⟩
    · exact h.more
  · unfold planR
    split
    · exact m.more
    split
    · exact ⟨m.more.files, m.more.data, by show l.length ≤ _; omega⟩
    · exact m.more
theorem bd_lay (h : DBd c k D) (m : MBd c k M) (tw : Dk.Twin φ D M) (s : Nm) (d : List UInt8) (hd : d.length ≤ c) : DBd c (k + 1) (layD D.tick s d) ∧ MBd c (k + 1) (layR { M with made := M.made + 1 } s d) := by
  have g := grow_mul k c
  unfold layD layR
  have eg : nmGet (RSt.now { M with made := M.made + 1 }) s = (nmGet D.names s).map φ := tw.get s
  rw [eg]
  cases hg : nmGet D.names s with
  | some i =>
    have hg' : nmGet D.tick.names s = some i := hg
    obtain ⟨e1, e2, e3, e4, e5, e6⟩ := tw.files hg
    have hm := m.data _ (List.mem_of_getElem? e5)
    simp only [Option.map_some]
    rw [e5]
    refine ⟨?_, ?_⟩
    · rw [hg']
      exact h.tick.set i _ (by show ((fileD D.tick s).data ++ d).length ≤ _; rw [List.length_append]; show (fileD D s).data.length + _ ≤ _; omega)
    · have := m.more.set (φ i) { fileD D s with data := (fileD D s).data ++ d } ⟨by show _ ≤ ((fileD D s).data ++ d).length; rw [List.length_append]; show (fileD D s).synced ≤ _; omega, by show ((fileD D s).data ++ d).length ≤ _; rw [List.length_append]; omega⟩
      exact ⟨this.files, this.data, this.flt⟩
  | none =>
    have hg' : nmGet D.tick.names s = none := hg
    refine ⟨?_, ?_⟩
    · rw [hg']
      have r := h.relink [(s, some D.files.length)] (by simp)
      have e : (more D.tick s).files.set D.tick.files.length (FileC.mk d 0) = D.files ++ [⟨d, 0⟩] := set_end _ _ _
      refine ⟨r.sum, r.opn, r.low, r.high, fun f hf => ?_, r.plan⟩
      have hf' : f ∈ D.files ++ [⟨d, 0⟩] := by rw [← e]; exact hf
      rcases List.mem_append.1 hf' with hf' | hf'
      · exact h.more.data f hf'
      · obtain rfl : f = ⟨d, 0⟩ := by simpa using hf'
        show d.length ≤ _; omega
    · refine ⟨?_, fun f hf => ?_, m.flt⟩
      · show (M.files ++ [_]).length ≤ _
        have := m.files
        rw [List.length_append]; simp; omega
      · rcases List.mem_append.1 hf with hf' | hf'
        · exact m.more.data f hf'
        · obtain rfl : f = ⟨d, 0⟩ := by simpa using hf'
          exact ⟨Nat.zero_le _, by show d.length ≤ _; omega⟩
theorem bd_write (h : DBd c k D) (m : MBd c k M) (tw : Dk.Twin φ D M) (s t : Nm) (ht : t.size ≤ c) : DBd c (k + 1) (writeD D s t).2.2 ∧ MBd c (k + 1) (writeR M s t).2.2 := by
  obtain ⟨h1, h2⟩ := write_same tw h.plan t
  have hlen : t.data.toList.length = t.size := by rw [Array.length_toList]; rfl
  unfold writeD writeR
  split
  · exact ⟨h.more, m.more⟩
  by_cases c : writeK D t < 0
  · rw [if_pos c, if_pos (h1.2 c)]
    exact ⟨h.tick, m.more.files, m.more.data, m.flt⟩
  · rw [if_neg c, if_neg (fun e => c (h1.1 e)), h2 (by omega)]
    exact bd_lay h m tw s _ (by rw [List.length_take]; omega)
theorem undo_len (D : DSt) (n : Nat) : (D.undo n).names.length ≤ D.names.length + D.opn.flatten.length := by
  have key : ∀ (l : List (List (Nm × Option Nat))) (L : List (Nm × Nat)), (l.foldl undoOne L).length ≤ L.length + l.flatten.length := by
    intro l
    induction l with
    | nil => intro L; simp
    | cons x r ih =>
      intro L
      have := ih (undoOne L x)
      have := foldl_set_len x L
      rw [List.foldl_cons, List.flatten_cons, List.length_append]
      have e : (undoOne L x).length = (x.foldl nmSet L).length := rfl
      omega
  have h1 := key (D.opn.drop n).reverse D.names
  have h2 : (D.opn.drop n).reverse.flatten.length = (D.opn.drop n).flatten.length := by
    have : ∀ l : List (List (Nm × Option Nat)), l.reverse.flatten.length = l.flatten.length := fun l => by
      induction l with
      | nil => rfl
      | cons x r ih => rw [List.reverse_cons, List.flatten_append, List.length_append, ih, List.flatten_cons, List.length_append]; simp; omega
    exact this _
  have h3 : (D.opn.drop n).flatten.length ≤ D.opn.flatten.length := by
    have : D.opn.flatten = (D.opn.take n).flatten ++ (D.opn.drop n).flatten := by rw [← List.flatten_append, List.take_append_drop]
    rw [this, List.length_append]; omega
  show ((D.opn.drop n).reverse.foldl undoOne D.names).length ≤ _
  omega
theorem names_bd (h : DBd c k D) (tw : Dk.Twin φ D M) (n : Nat) : (M.names n).length ≤ 4 * k := by
  obtain ⟨n', h1, h2, h3⟩ := names_beyond tw n
  rw [h3, tw.names.2 n' h1]
  have := undo_len D n'
  have := h.sum
  unfold ren; rw [List.length_map]; omega
theorem files_bd (m : MBd c k M) (tw : Dk.Twin φ D M) (n : Nat) : ∀ p ∈ M.names n, ∃ f, M.files[p.2]? = some f ∧ f.synced ≤ f.data.length ∧ f.data.length ≤ k * c := by
  obtain ⟨n', h1, h2, h3⟩ := names_beyond tw n
  rw [h3, tw.names.2 n' h1]
  intro p hp
  obtain ⟨q, hq, rfl⟩ := List.mem_map.1 hp
  obtain ⟨f, f1, f2⟩ := tw.file n' h1 q hq
  exact ⟨f, f2, m.data f (List.mem_of_getElem? f2)⟩
theorem crashFiles_bd {b : Nat} (bs : List Int) : ∀ (L : List (Nm × Nat)) (j : Nat) (fs : List FileC), (∀ f ∈ fs, f.data.length ≤ b) → ∀ f ∈ crashFiles bs L j fs, f.data.length ≤ b
  | [], _, _, h => h
  | p :: r, j, fs, h => by
    refine crashFiles_bd bs r (j + 1) _ (fun f hf => ?_)
    rw [List.mem_iff_getElem?] at hf
    obtain ⟨i, hi⟩ := hf
    rw [List.getElem?_modify] at hi
    cases hfi : fs[i]? with
    | none => rw [hfi] at hi; simp at hi
    | some g =>
      rw [hfi] at hi
      have hg := h g (List.mem_of_getElem? hfi)
      simp at hi
      subst hi
      split
      · show (g.data.take _).length ≤ b
        rw [List.length_take]; omega
      · exact hg
theorem bd_crash (h : DBd c k D) (m : MBd c k M) (tw : Dk.Twin φ D M) (n : Nat) (bs : List Int) : DBd c (k + 1) (D.crash n bs) ∧ MBd c (k + 1) (M.crash n bs) := by
  have t := h.more
  refine ⟨⟨?_, Nat.zero_le _, t.low, t.high, crashFiles_bd bs _ _ _ t.data, fun f hf => by cases hf⟩, ⟨?_, fun f hf => ?_, Nat.zero_le _⟩⟩
  · have := undo_len D n
    have := h.sum
    show (D.undo n).names.length + ([] : List (Nm × Option Nat)).length ≤ _
    simp; omega
  · have := names_bd h tw n
    show (List.mapIdx _ _).length ≤ _
    rw [List.length_mapIdx]; omega
  · have hf' : f ∈ (M.names n).mapIdx (fun j p => (M.files[p.2]?.getD ⟨[], 0⟩).crash (left bs j)) := hf
    rw [List.mem_mapIdx] at hf'
    obtain ⟨j, hj, rfl⟩ := hf'
    obtain ⟨g, g1, g2, g3⟩ := files_bd m tw n _ (List.getElem_mem hj)
    rw [g1]
    have := grow_mul k c
    refine ⟨Nat.le_refl _, ?_⟩
    show (g.data.take _).length ≤ _
    rw [List.length_take]; omega
/-- What the document's calls ask. -/
theorem bd_ok (h : DBd c k D) (m : MBd c k M) (tw : Dk.Twin φ D M) (hk : k ≤ 1048577) : RfOk M ∧ M.now.length ≤ 1099511627776 ∧ M.files.length ≤ 1099511627776 := by
  have h1 := h.sum; have h2 := h.opn; have h3 := h.low; have h4 := h.high
  have e1 := names_len tw
  have e2 := tw.names.1
  have e3 := tw.made
  have e4 := m.flt
  have e5 := m.files
  exact ⟨⟨by omega, by omega, by omega, by omega, by unfold maxLen; omega⟩, by omega, by omega⟩
end
end Go.Proofs.YtioidkbpjkcjeaaGreatDoor
