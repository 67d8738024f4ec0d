/- The log's Open on whatever disk, whatever faults it plans. Conditions: those that each theorem names. -/
import Derived.Test.YtioidkbpjkcjeaaGreatDoorWlFd
import Derived.Test.YtioidkbpjkcjeaaGreatDoorWlAs
namespace Go.Proofs.YtioidkbpjkcjeaaGreatDoor
set_option linter.unusedVariables false
open Go Go.RowKit Dk
namespace Wl
theorem fileD_size {D : DSt} {c k : Nat} (b : DBd c k D) (s : Nm) : (fileD D s).data.length ≤ k * c := by
  unfold fileD
  cases hh : ((nmGet D.names s).bind fun i => D.files[i]?) with
  | none => exact Nat.zero_le _
  | some f =>
    obtain ⟨i, hi, hf⟩ := Option.bind_eq_some_iff.1 hh
    exact b.data f (List.mem_of_getElem? hf)
theorem readD_size {D : DSt} {c k : Nat} (b : DBd c k D) (s : Nm) : (readD D s).size ≤ k * c := by
  unfold readD
  split
  · exact Nat.zero_le _
  split
  · exact Nat.zero_le _
  · show (fileD D s).data.toArray.size ≤ _
    rw [List.size_toArray]
    exact fileD_size b s
theorem freadD_size {D : DSt} {M : RSt} {φ : Nat → Nat} {c k : Nat} (h : Dk.Twin φ D M) (b : DBd c k D) (m : MBd c k M) (hk : k + 2 ≤ 1048577) (hc : c ≤ 4194304) : (freadD D).1.size ≤ 140737488351232 := by
  have key : ∀ (D' : DSt), DBd c (k + 2) D' → (readD D' nL).size ≤ 140737488351232 := fun D' b' => by
    have h1 := readD_size b' nL
    have h2 : (k + 2) * c ≤ 1048577 * 4194304 := Nat.mul_le_mul hk hc
    omega
  unfold freadD
  split
  · exact key D b.more.more
  split
  · exact Nat.zero_le _
  · exact key _ (two_begin h b m).2.2.1
/-- What Open leaves: no log where it was refused. -/
def OpenQ (w0 : World) (A : Nat) (X : Nat → Prop) (w : World) (R : OpR) (e : Ending) (w' : World) : Prop :=
  (R.err ≠ 0 ∧ e = .returned (.tuple #[.pointer none, .slice none 0 0, .int .i64 R.err]) ∧ AtB w0 A R.D X w' ∧ Stay X w w') ∨
  (R.err = 0 ∧ ∃ (B : Nat) (v : Value), e = .returned (.tuple #[.pointer (some ⟨B, 0, none⟩), v, .int .i64 0]) ∧ w'.heap[B]? = some (logO A (R.size : Int) (lastP R.recs : Int) false) ∧ RcsAt w' v R.recs ∧
    AtB w0 A R.D (fun b => X b ∨ b = B ∨ v.ownBlock = some b) w' ∧ Stay X w w' ∧ w.heap.size ≤ B ∧ ∀ b, v.ownBlock = some b → w.heap.size ≤ b)
set_option maxHeartbeats 4000000 in
set_option maxRecDepth 100000 in
theorem open_d {w0 w : World} {A : Nat} {X : Nat → Prop} {D : DSt} {M : RSt} {φ : Nat → Nat} {c k : Nat} (h : AtB w0 A D X w) (tw : Dk.Twin φ D M) (b : DBd c k D) (m : MBd c k M) (hk : k + 4 ≤ 1048577) (hc : c ≤ 4194304) (G : Hd w0) :
    Calls Tryz.prog 15 #[.pointer (some ⟨A, 0, none⟩), .string nL] w (OpenQ w0 A X w (openD D)) := by
  obtain ⟨c0, c1⟩ := fO_cells w A
  have hb : Below w.heap.size w (w.alloc (fO A)) := below_new w (fO A)
  have hw0 : w0.heap.size ≤ w.heap.size := h.below.size
  have HA := Lib.hid (h.add hb (Y := fun b => X b ∨ b = w.heap.size) (fun b hb => hb.imp id (fun e => by subst e; exact ⟨Nat.le_refl _, by simp⟩)))
  have HS := Lib.hid (stay_below h hb)
  have C := Lib.hid (fread_d HA.out tw b m (by omega) hc)
  obtain ⟨⟨ψ, t1⟩, b1, m1⟩ := two_fread tw b m
  have CST := Lib.hid (fun (Y : Nat → Prop) (W : World) (hW : AtB w0 A (freadD D).2.2 Y W) (z : Int) (t : Bool) => fsettle_d hW t1 b1 m1 (by omega) z t)
  have hl := freadD_size tw b m (by omega) hc
  have HF : Hid (fV A = .agg #[.pointer (some ⟨A, 0, none⟩), .string nL]) := Lib.hid rfl
  rw [HF.out] at C CST
  have HNU : Hid (∀ (n : Int) (W : World), Below w0.heap.size w0 W → Calls Tryz.prog 32 #[.iface 128 (.int .i64 n)] W fun e w' => e = .returned (.int .i64 n) ∧ Below W.heap.size W w') := Lib.hid (fun n W hW => number_rf n W (G.below hW))
  have hne := nL_full
  unfold openD
  clear h hb tw b m hk hc G t1 b1 m1
  generalize freadD D = O at *
  have CS := Lib.hid (fun W => scan_any O.1 W hl)
  have HLL := Lib.hid hl
  obtain ⟨recs, sz, er, hR⟩ : ∃ recs sz er, scan 0 O.1.data.toList = ⟨recs, sz, er⟩ := ⟨_, _, _, rfl⟩
  have hcase := (scan_facts O.1.data.toList.length 0 O.1.data.toList (Nat.le_refl _)).1
  have hsize := scan_size O.1.data.toList.length 0 O.1.data.toList (Nat.le_refl _)
  rw [ln] at hsize
  rw [hR] at hcase hsize ⊢
  simp only at hcase hsize ⊢
  have HR := Lib.hid hR
  have HSZ := Lib.hid hsize
  have HW0 := Lib.hid hw0
  clear hl hR hsize hw0
  by_cases h0 : O.2.1 = 0
  · rw [h0, ansV_ok] at C
    rw [if_neg (by simpa using h0)]
    clear h0
    obtain ⟨R, hRR⟩ : ∃ R : OpR, R = (if er = 90 then (⟨90, [], 0, O.2.2⟩ : OpR) else if (settleD O.2.2 (sz : Int) (decide (er = 91))).1 ≠ 0 then ⟨(settleD O.2.2 (sz : Int) (decide (er = 91))).1, [], 0, (settleD O.2.2 (sz : Int) (decide (er = 91))).2⟩ else ⟨0, recs, sz, (settleD O.2.2 (sz : Int) (decide (er = 91))).2⟩) := ⟨_, rfl⟩
    rw [← hRR]
    have HRR := Lib.hid hRR
    clear hRR
    go_enter Tryz.func15, Tryz.ntmps15
    go_wp2_with fail
    refine C.out.mono ?_
    rintro e w1 ⟨rfl, h1, h2⟩
    have d0 := (World.cell?_of_block (a := ⟨w.heap.size, 0, none⟩) (h2.2 w.heap.size (.inr rfl))).trans c0
    have d1 := (World.cell?_of_block (a := ⟨w.heap.size, 1, none⟩) (h2.2 w.heap.size (.inr rfl))).trans c1
    have H1 := Lib.hid h1
    have H2 : Hid (Stay X w w1) := Lib.hid (HS.out.trans ⟨h2.1, fun b hb => h2.2 b (.inl hb)⟩)
    have HFB : Hid (w.heap.size < w1.heap.size) := Lib.hid (h1.lt (.inr rfl))
    clear h1 h2 c0 c1 C
    go_wp2_with fail
    refine (CS.out _).mono ?_
    rintro e w2 ⟨v, rfl, ho2, hb2⟩
    rw [HR.out] at ho2 ⊢
    have HO2 := Lib.hid ho2
    have HOB : Hid (∀ b, v.ownBlock = some b → w.heap.size ≤ b) := Lib.hid (fun b hb => by have := (ho2.lt b hb).1; have := HFB.out; omega)
    have e0 := (World.cell?_of_block (a := ⟨w.heap.size, 0, none⟩) (hb2.block w.heap.size HFB.out)).trans d0
    have e1 := (World.cell?_of_block (a := ⟨w.heap.size, 1, none⟩) (hb2.block w.heap.size HFB.out)).trans d1
    have H3 : Hid (AtB w0 A O.2.2 (fun b => X b ∨ b = w.heap.size ∨ v.ownBlock = some b) w2) := Lib.hid (H1.out.add hb2 (fun b hb => by
      rcases hb with k | k | k
      · exact .inl (.inl k)
      · exact .inl (.inr k)
      · exact .inr (ho2.lt b k)))
    have H4 : Hid (Stay X w w2) := Lib.hid (H2.out.trans ⟨hb2.size, fun b hb => hb2.block b (H1.out.lt (.inl hb))⟩)
    clear hb2 d0 d1 CS ho2
    rcases hcase with rfl | rfl | rfl
    · have HRS : Hid (R = if (settleD O.2.2 (sz : Int) false).1 ≠ 0 then ⟨(settleD O.2.2 (sz : Int) false).1, [], 0, (settleD O.2.2 (sz : Int) false).2⟩ else ⟨0, recs, sz, (settleD O.2.2 (sz : Int) false).2⟩) := Lib.hid (HRR.out.trans (if_neg (by decide)))
      have CT := Lib.hid (CST.out _ _ H3.out (sz : Int) false)
      clear CST
      generalize settleD O.2.2 (sz : Int) false = S at *
      by_cases hS : S.1 = 0
      · rw [hS, ansV_ok] at CT
        have HE : Hid (R = ⟨0, recs, sz, S.2⟩) := Lib.hid (HRS.out.trans (if_neg (by simpa using hS)))
        clear hS HRS HRR
        rcases own_form2 HO2.out with ⟨hrecs, p, c, hv⟩ | ⟨g, m, cap, hv, hm, hg1, hg2⟩
        · subst hv
          have hrecs' : recs = [] := hrecs
          subst hrecs'
          go_wp2_with fail
          refine CT.out.mono ?_
          rintro e w3 ⟨rfl, h5, h6⟩
          have f0 := (World.cell?_of_block (a := ⟨w.heap.size, 0, none⟩) (h6.2 w.heap.size (.inr (.inl rfl)))).trans e0
          have f1 := (World.cell?_of_block (a := ⟨w.heap.size, 1, none⟩) (h6.2 w.heap.size (.inr (.inl rfl)))).trans e1
          have HP : Hid (OpenQ w0 A X w ⟨0, [], sz, S.2⟩ (.returned (.tuple #[.pointer (some ⟨w3.heap.size, 0, none⟩), .slice p 0 c, .int .i64 0])) (w3.alloc (.cells #[.pointer (some ⟨A, 0, none⟩), .string nL, .int .i64 (sz : Int), .int .i64 0, .bool false] 90 (0, 0)))) := Lib.hid
            (.inr ⟨rfl, w3.heap.size, .slice p 0 c, rfl, heap_alloc_new w3 _, .inl ⟨rfl, p, c, rfl⟩,
              h5.add (below_new w3 _) (fun b hb => by
                rcases hb with k | k | k
                · exact .inl (.inl k)
                · exact .inr ⟨Nat.le_of_eq k.symm, by rw [k]; simp⟩
                · exact .inl (.inr (.inr k))),
              (H4.out.trans ⟨h6.1, fun b hb => h6.2 b (.inl hb)⟩).trans ⟨by simp, fun b hb => heap_alloc_old w3 _ (h5.lt (.inl hb))⟩,
              Nat.le_trans H4.out.1 h6.1, HOB.out⟩)
          clear h5 h6 e0 e1 CT
          go_wp2_with fail
          go_ret3
          rw [HE.out]; exact HP.out
        · subst hv
          have HLAST := Lib.hid (fun W hW => own_last HO2.out hm W hW)
          have q1 : ((recs.length : Int) - 1) = (m : Int) ∧ -9223372036854775808 ≤ (m : Int) ∧ (m : Int) ≤ 9223372036854775807 := by
            have h10 := HSZ.out.2
            have h11 := HSZ.out.1
            have := HLL.out
            have hm' : recs.length = m + 1 := hm
            omega
          have wm := wrI q1.1 q1.2
          have hm1 : (m : Int) < (recs.length : Int) := by have hm' : recs.length = m + 1 := hm; clear wm; omega
          have hm2 : (0 : Int) ≤ (m : Int) := by clear wm; omega
          have hm3 : (0 : Int) < (recs.length : Int) := by have hm' : recs.length = m + 1 := hm; clear wm; omega
          have hm4 : decide (0 < recs.length) = true := decide_eq_true (by have hm' : recs.length = m + 1 := hm; clear wm; omega)
          have HM := Lib.hid hm
          clear q1 hm
          go_wp2_with fail
          refine CT.out.mono ?_
          rintro e w3 ⟨rfl, h5, h6⟩
          have f0 := (World.cell?_of_block (a := ⟨w.heap.size, 0, none⟩) (h6.2 w.heap.size (.inr (.inl rfl)))).trans e0
          have f1 := (World.cell?_of_block (a := ⟨w.heap.size, 1, none⟩) (h6.2 w.heap.size (.inr (.inl rfl)))).trans e1
          have hgY : (Value.slice (some ⟨g, 0, none⟩) recs.length cap).ownBlock = some g := by simp [Value.ownBlock]
          have hg3 : g < w3.heap.size := h5.lt (.inr (.inr hgY))
          have f2 : ∀ o, (w3.alloc o).cell? ⟨g, m * 2, none⟩ = some (.int .i64 (lastP recs : Int)) := fun o => HLAST.out _ ((heap_alloc_old w3 o hg3).trans (h6.2 g (.inr (.inr hgY))))
          have HP : Hid (OpenQ w0 A X w ⟨0, recs, sz, S.2⟩ (.returned (.tuple #[.pointer (some ⟨w3.heap.size, 0, none⟩), .slice (some ⟨g, 0, none⟩) recs.length cap, .int .i64 0])) (w3.alloc (.cells #[.pointer (some ⟨A, 0, none⟩), .string nL, .int .i64 (sz : Int), .int .i64 (lastP recs : Int), .bool false] 90 (0, 0)))) := Lib.hid
            (.inr ⟨rfl, w3.heap.size, .slice (some ⟨g, 0, none⟩) recs.length cap, rfl, heap_alloc_new w3 _,
              ((own_rcs HO2.out).stay h6.1 (fun b hb => h6.2 b (.inr (.inr hb)))).below (below_new w3 _),
              h5.add (below_new w3 _) (fun b hb => by
                rcases hb with k | k | k
                · exact .inl (.inl k)
                · exact .inr ⟨Nat.le_of_eq k.symm, by rw [k]; simp⟩
                · exact .inl (.inr (.inr k))),
              (H4.out.trans ⟨h6.1, fun b hb => h6.2 b (.inl hb)⟩).trans ⟨by simp, fun b hb => heap_alloc_old w3 _ (h5.lt (.inl hb))⟩,
              Nat.le_trans H4.out.1 h6.1, HOB.out⟩)
          clear h5 h6 e0 e1 CT hgY HLAST
          go_wp2_with fail
          go_ret3
          rw [HE.out]; exact HP.out
      · have HO : Hid (ansV S.1 = .iface 128 (.int .i64 S.1)) := Lib.hid (ansV_no hS)
        rw [HO.out] at CT
        have HE : Hid (R = ⟨S.1, [], 0, S.2⟩) := Lib.hid (HRS.out.trans (if_pos hS))
        have HSN := Lib.hid hS
        clear hS HRS HRR
        go_wp2_with fail
        refine CT.out.mono ?_
        rintro e w3 ⟨rfl, h5, h6⟩
        have H5 := Lib.hid h5
        have H6 := Lib.hid (H4.out.trans ⟨h6.1, fun b hb => h6.2 b (.inl hb)⟩)
        clear h5 h6 e0 e1 CT
        go_wp2_with fail
        refine (HNU.out _ _ H5.out.below).mono ?_
        rintro e w4 ⟨rfl, hb4⟩
        have HP : Hid (OpenQ w0 A X w ⟨S.1, [], 0, S.2⟩ (.returned (.tuple #[.pointer none, .slice none 0 0, .int .i64 S.1])) w4) := Lib.hid
          (.inl ⟨HSN.out, rfl, H5.out.add hb4 (fun b hb => .inl (.inl hb)), H6.out.trans (stay_below (H5.out.add (Below.refl _ _) (Y := X) (fun b hb => .inl (.inl hb))) hb4)⟩)
        clear hb4
        go_wp2_with fail
        go_ret3
        rw [HE.out]; exact HP.out
    · have HE : Hid (R = ⟨90, [], 0, O.2.2⟩) := Lib.hid (HRR.out.trans (if_pos rfl))
      go_wp2_with fail
      go_ret3
      rw [HE.out]
      exact .inl ⟨by show (90 : Int) ≠ 0; decide, rfl, H3.out.add (Below.refl _ _) (fun b hb => .inl (.inl hb)), H4.out⟩
    · have HRS : Hid (R = if (settleD O.2.2 (sz : Int) true).1 ≠ 0 then ⟨(settleD O.2.2 (sz : Int) true).1, [], 0, (settleD O.2.2 (sz : Int) true).2⟩ else ⟨0, recs, sz, (settleD O.2.2 (sz : Int) true).2⟩) := Lib.hid (HRR.out.trans (if_neg (by decide)))
      have CT := Lib.hid (CST.out _ _ H3.out (sz : Int) true)
      clear CST
      generalize settleD O.2.2 (sz : Int) true = S at *
      by_cases hS : S.1 = 0
      · rw [hS, ansV_ok] at CT
        have HE : Hid (R = ⟨0, recs, sz, S.2⟩) := Lib.hid (HRS.out.trans (if_neg (by simpa using hS)))
        clear hS HRS HRR
        rcases own_form2 HO2.out with ⟨hrecs, p, c, hv⟩ | ⟨g, m, cap, hv, hm, hg1, hg2⟩
        · subst hv
          have hrecs' : recs = [] := hrecs
          subst hrecs'
          go_wp2_with fail
          refine CT.out.mono ?_
          rintro e w3 ⟨rfl, h5, h6⟩
          have f0 := (World.cell?_of_block (a := ⟨w.heap.size, 0, none⟩) (h6.2 w.heap.size (.inr (.inl rfl)))).trans e0
          have f1 := (World.cell?_of_block (a := ⟨w.heap.size, 1, none⟩) (h6.2 w.heap.size (.inr (.inl rfl)))).trans e1
          have HP : Hid (OpenQ w0 A X w ⟨0, [], sz, S.2⟩ (.returned (.tuple #[.pointer (some ⟨w3.heap.size, 0, none⟩), .slice p 0 c, .int .i64 0])) (w3.alloc (.cells #[.pointer (some ⟨A, 0, none⟩), .string nL, .int .i64 (sz : Int), .int .i64 0, .bool false] 90 (0, 0)))) := Lib.hid
            (.inr ⟨rfl, w3.heap.size, .slice p 0 c, rfl, heap_alloc_new w3 _, .inl ⟨rfl, p, c, rfl⟩,
              h5.add (below_new w3 _) (fun b hb => by
                rcases hb with k | k | k
                · exact .inl (.inl k)
                · exact .inr ⟨Nat.le_of_eq k.symm, by rw [k]; simp⟩
                · exact .inl (.inr (.inr k))),
              (H4.out.trans ⟨h6.1, fun b hb => h6.2 b (.inl hb)⟩).trans ⟨by simp, fun b hb => heap_alloc_old w3 _ (h5.lt (.inl hb))⟩,
              Nat.le_trans H4.out.1 h6.1, HOB.out⟩)
          clear h5 h6 e0 e1 CT
          go_wp2_with fail
          go_ret3
          rw [HE.out]; exact HP.out
        · subst hv
          have HLAST := Lib.hid (fun W hW => own_last HO2.out hm W hW)
          have q1 : ((recs.length : Int) - 1) = (m : Int) ∧ -9223372036854775808 ≤ (m : Int) ∧ (m : Int) ≤ 9223372036854775807 := by
            have h10 := HSZ.out.2
            have h11 := HSZ.out.1
            have := HLL.out
            have hm' : recs.length = m + 1 := hm
            omega
          have wm := wrI q1.1 q1.2
          have hm1 : (m : Int) < (recs.length : Int) := by have hm' : recs.length = m + 1 := hm; clear wm; omega
          have hm2 : (0 : Int) ≤ (m : Int) := by clear wm; omega
          have hm3 : (0 : Int) < (recs.length : Int) := by have hm' : recs.length = m + 1 := hm; clear wm; omega
          have hm4 : decide (0 < recs.length) = true := decide_eq_true (by have hm' : recs.length = m + 1 := hm; clear wm; omega)
          have HM := Lib.hid hm
          clear q1 hm
          go_wp2_with fail
          refine CT.out.mono ?_
          rintro e w3 ⟨rfl, h5, h6⟩
          have f0 := (World.cell?_of_block (a := ⟨w.heap.size, 0, none⟩) (h6.2 w.heap.size (.inr (.inl rfl)))).trans e0
          have f1 := (World.cell?_of_block (a := ⟨w.heap.size, 1, none⟩) (h6.2 w.heap.size (.inr (.inl rfl)))).trans e1
          have hgY : (Value.slice (some ⟨g, 0, none⟩) recs.length cap).ownBlock = some g := by simp [Value.ownBlock]
          have hg3 : g < w3.heap.size := h5.lt (.inr (.inr hgY))
          have f2 : ∀ o, (w3.alloc o).cell? ⟨g, m * 2, none⟩ = some (.int .i64 (lastP recs : Int)) := fun o => HLAST.out _ ((heap_alloc_old w3 o hg3).trans (h6.2 g (.inr (.inr hgY))))
          have HP : Hid (OpenQ w0 A X w ⟨0, recs, sz, S.2⟩ (.returned (.tuple #[.pointer (some ⟨w3.heap.size, 0, none⟩), .slice (some ⟨g, 0, none⟩) recs.length cap, .int .i64 0])) (w3.alloc (.cells #[.pointer (some ⟨A, 0, none⟩), .string nL, .int .i64 (sz : Int), .int .i64 (lastP recs : Int), .bool false] 90 (0, 0)))) := Lib.hid
            (.inr ⟨rfl, w3.heap.size, .slice (some ⟨g, 0, none⟩) recs.length cap, rfl, heap_alloc_new w3 _,
              ((own_rcs HO2.out).stay h6.1 (fun b hb => h6.2 b (.inr (.inr hb)))).below (below_new w3 _),
              h5.add (below_new w3 _) (fun b hb => by
                rcases hb with k | k | k
                · exact .inl (.inl k)
                · exact .inr ⟨Nat.le_of_eq k.symm, by rw [k]; simp⟩
                · exact .inl (.inr (.inr k))),
              (H4.out.trans ⟨h6.1, fun b hb => h6.2 b (.inl hb)⟩).trans ⟨by simp, fun b hb => heap_alloc_old w3 _ (h5.lt (.inl hb))⟩,
              Nat.le_trans H4.out.1 h6.1, HOB.out⟩)
          clear h5 h6 e0 e1 CT hgY HLAST
          go_wp2_with fail
          go_ret3
          rw [HE.out]; exact HP.out
      · have HO : Hid (ansV S.1 = .iface 128 (.int .i64 S.1)) := Lib.hid (ansV_no hS)
        rw [HO.out] at CT
        have HE : Hid (R = ⟨S.1, [], 0, S.2⟩) := Lib.hid (HRS.out.trans (if_pos hS))
        have HSN := Lib.hid hS
        clear hS HRS HRR
        go_wp2_with fail
        refine CT.out.mono ?_
        rintro e w3 ⟨rfl, h5, h6⟩
        have H5 := Lib.hid h5
        have H6 := Lib.hid (H4.out.trans ⟨h6.1, fun b hb => h6.2 b (.inl hb)⟩)
        clear h5 h6 e0 e1 CT
        go_wp2_with fail
        refine (HNU.out _ _ H5.out.below).mono ?_
        rintro e w4 ⟨rfl, hb4⟩
        have HP : Hid (OpenQ w0 A X w ⟨S.1, [], 0, S.2⟩ (.returned (.tuple #[.pointer none, .slice none 0 0, .int .i64 S.1])) w4) := Lib.hid
          (.inl ⟨HSN.out, rfl, H5.out.add hb4 (fun b hb => .inl (.inl hb)), H6.out.trans (stay_below (H5.out.add (Below.refl _ _) (Y := X) (fun b hb => .inl (.inl hb))) hb4)⟩)
        clear hb4
        go_wp2_with fail
        go_ret3
        rw [HE.out]; exact HP.out
  · have HO : Hid (ansV O.2.1 = .iface 128 (.int .i64 O.2.1)) := Lib.hid (ansV_no h0)
    rw [HO.out] at C
    rw [if_pos h0]
    have HSN := Lib.hid h0
    clear h0 CS CST
    go_enter Tryz.func15, Tryz.ntmps15
    go_wp2_with fail
    refine C.out.mono ?_
    rintro e w1 ⟨rfl, h1, h2⟩
    have H5 := Lib.hid h1
    have H6 : Hid (Stay X w w1) := Lib.hid (HS.out.trans ⟨h2.1, fun b hb => h2.2 b (.inl hb)⟩)
    clear h1 h2 c0 c1 C
    go_wp2_with fail
    refine (HNU.out _ _ H5.out.below).mono ?_
    rintro e w4 ⟨rfl, hb4⟩
    have HP : Hid (OpenQ w0 A X w ⟨O.2.1, [], 0, O.2.2⟩ (.returned (.tuple #[.pointer none, .slice none 0 0, .int .i64 O.2.1])) w4) := Lib.hid
      (.inl ⟨HSN.out, rfl, H5.out.add hb4 (fun b hb => .inl (.inl hb)), H6.out.trans (stay_below (H5.out.add (Below.refl _ _) (Y := X) (fun b hb => .inl (.inl hb))) hb4)⟩)
    clear hb4
    go_wp2_with fail
    go_ret3
    exact HP.out
end Wl
end Go.Proofs.YtioidkbpjkcjeaaGreatDoor
