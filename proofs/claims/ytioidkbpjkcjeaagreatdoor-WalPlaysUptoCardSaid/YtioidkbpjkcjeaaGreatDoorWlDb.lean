/- The law's 'do' on both logs: a Sync, an Append. Conditions: those that each theorem names. -/
import Derived.Test.YtioidkbpjkcjeaaGreatDoorWlDa
namespace Go.Proofs.YtioidkbpjkcjeaaGreatDoor
set_option linter.unusedVariables false
open Go Go.RowKit Dk
namespace Wl
def recO (q : Int) (s : ByteArray) : Obj := .cells #[.int .i64 q, .string s] 62 (0, 0)
/-- The blocks that stay while a deed is done. -/
def YD (P L R b : Nat) : Nat → Prop := fun y => y = P ∨ y = L ∨ y = R ∨ y = b ∨ y = b + 1
section
variable {w0 w : World} {A B P k : Nat}
set_option maxHeartbeats 4000000 in
set_option maxRecDepth 100000 in
theorem wdo_sync {L R sz last : Nat} {br : Bool} {D : DSt} {M : RSt} {φ : Nat → Nat} (tw : Dk.Twin φ D M) (b : DBd cW k D) (bm : MBd cW k M) (h0 : w0.heap.size ≤ P) (hP : w.heap[P]? = some (pairO A B (.pointer (some ⟨L, 0, none⟩)) (.pointer (some ⟨R, 0, none⟩)) ((last : Int) + 1))) (hL : w.heap[L]? = some (logO A (sz : Int) (last : Int) br)) (hR : w.heap[R]? = some (rlogO B (sz : Int) (last : Int) br))
    (h : Two w0 A B (fun b => b = P ∨ b = L ∨ b = R) D M w) (hL0 : w0.heap.size ≤ L) (hR0 : w0.heap.size ≤ R) (n1 : L ≠ P) (n2' : R ≠ P) (n3 : L ≠ R) (hla : last ≤ 4503599627370496) (hsz : sz ≤ k * cW) (hk : k + 1 ≤ 1048577) (G : Hd w0) (s : ByteArray) (sq st fs fk fn cn : Int) (q : Option Addr) (n2 c2 : Nat) :
    Calls Tryz.prog 7 #[.pointer (some ⟨P, 0, none⟩), dV 1 s sq st fs fk fn cn q n2 c2] w fun e w' => e = .returned (.bool true) ∧ PairW w0 A B P (k + 1) w' := by
  have hb : Below w.heap.size w (w.alloc (dO 1 s sq st fs fk fn cn q n2 c2)) := below_new w _
  have lP := h.lt (b := P) (.inl rfl)
  have lL := h.lt (b := L) (.inr (.inl rfl))
  have lR := h.lt (b := R) (.inr (.inr rfl))
  obtain ⟨-, -, p2, p3, p4⟩ := pairO_cells ((hb.block P lP).trans hP)
  obtain ⟨⟨c0, c1, c2', -⟩, -⟩ := dO_cells (heap_alloc_new w (dO 1 s sq st fs fk fn cn q n2 c2))
  have HW0 : Hid (Below w.heap.size w (w.alloc (dO 1 s sq st fs fk fn cn q n2 c2)) ∧ (w.alloc (dO 1 s sq st fs fk fn cn q n2 c2)).heap.size = w.heap.size + 1) := Lib.hid ⟨hb, by simp⟩
  have mixed : Tryz.prog.follows .mixedOrders = true := by kernel_rfl
  unfold dV
  unfold dO at *
  by_cases hq : sq = 0
  · have q1 : (sq != 0) = false := by simp [hq]
    clear hq
    go_enter Tryz.func7, Tryz.ntmps7
    go_wp2_with fail
    generalize w.alloc (.cells #[.int .i64 1, .string s, .int .i64 sq, .int .i64 st, .int .i64 fs, .int .i64 fk, .int .i64 fn, .int .i64 cn, .slice q n2 c2] 45) = W0 at *
    have hz := heap_alloc_new W0 (.cells #[.int .i64 0, .string ⟨#[]⟩] 62)
    have hbz : Below W0.heap.size W0 (W0.alloc (.cells #[.int .i64 0, .string ⟨#[]⟩] 62)) := below_new W0 _
    have HZ := Lib.hid hz
    have HBZ := Lib.hid hbz
    have lP0 : P < W0.heap.size := by have := HW0.out.2; omega
    have lB0 : w.heap.size < W0.heap.size := by have := HW0.out.2; omega
    have u4 := (World.cell?_of_block (a := ⟨P, 4, none⟩) (hbz.block P lP0)).trans p4
    have u1 := (World.cell?_of_block (a := ⟨w.heap.size, 1, none⟩) (hbz.block w.heap.size lB0)).trans c1
    have z0 : (W0.alloc (.cells #[.int .i64 0, .string ⟨#[]⟩] 62)).cell? ⟨W0.heap.size, 0, none⟩ = some (.int .i64 0) := by rw [cell_of_row _ _ _ _ _ _ hz]; rfl
    have z1 : (W0.alloc (.cells #[.int .i64 0, .string ⟨#[]⟩] 62)).cell? ⟨W0.heap.size, 1, none⟩ = some (.string ⟨#[]⟩) := by rw [cell_of_row _ _ _ _ _ _ hz]; rfl
    have f0 : (W0.alloc (.cells #[.int .i64 0, .string ⟨#[]⟩] 62)).frozen? ⟨W0.heap.size, 0, none⟩ = false := Lib.frozen_of_heap hz 0
    have f1 : (W0.alloc (.cells #[.int .i64 0, .string ⟨#[]⟩] 62)).frozen? ⟨W0.heap.size, 1, none⟩ = false := Lib.frozen_of_heap hz 1
    clear hz hbz
    go_region
    have HV : Hid (Below w.heap.size w ((W0.alloc (.cells #[.int .i64 ((last : Int) + 1), .string s] 62)).drew)) := Lib.hid ((HW0.out.1.trans ((below_new W0 _).mono HW0.out.1.size)).drew)
    have hzr := heap_alloc_new W0 (.cells #[.int .i64 ((last : Int) + 1), .string s] 62)
    have HBX : Hid (((W0.alloc (.cells #[.int .i64 ((last : Int) + 1), .string s] 62)).drew).heap[w.heap.size]? = W0.heap[w.heap.size]?) := Lib.hid ((below_new W0 _).block _ lB0)
    have HSZ0 : Hid (w.heap.size < ((W0.alloc (.cells #[.int .i64 ((last : Int) + 1), .string s] 62)).drew).heap.size) := Lib.hid (by show _ < (W0.alloc _).heap.size; simp; omega)
    clear hzr u4 u1 z0 z1 f0 f1 HZ HBZ
    generalize (W0.alloc (.cells #[.int .i64 ((last : Int) + 1), .string s] 62)).drew = V at *
    have HS : Hid (Below V.heap.size V V.drew) := Lib.hid (Below.refl _ _).drew
    have v0 := (World.cell?_of_block (a := ⟨w.heap.size, 0, none⟩) HBX.out).trans c0
    have v2 := (World.cell?_of_block (a := ⟨w.heap.size, 2, none⟩) HBX.out).trans c2'
    have hPV := (HV.out.block P lP).trans hP
    have g2 : V.cell? ⟨P, 2, none⟩ = some (.pointer (some ⟨L, 0, none⟩)) := (pairO_cells hPV).2.2.1
    have g3 : V.cell? ⟨P, 3, none⟩ = some (.pointer (some ⟨R, 0, none⟩)) := (pairO_cells hPV).2.2.2.1
    have HPV := Lib.hid hPV
    clear hPV
    have hPD := (HS.out.block P (Nat.lt_of_lt_of_le lP HV.out.size)).trans HPV.out
    have t2 : V.drew.cell? ⟨P, 2, none⟩ = some (.pointer (some ⟨L, 0, none⟩)) := (pairO_cells hPD).2.2.1
    have t3 : V.drew.cell? ⟨P, 3, none⟩ = some (.pointer (some ⟨R, 0, none⟩)) := (pairO_cells hPD).2.2.2.1
    clear hPD
    have hVD : Below w.heap.size w V.drew := HV.out.trans (HS.out.mono HV.out.size)
    have HT : Hid (Two w0 A B (fun y => (y = P ∨ y = R ∨ y = w.heap.size) ∨ y = L) D M V.drew) := Lib.hid (h.add hVD (fun b hb => by
      rcases hb with (k | k | k) | k
      · exact .inl (.inl k)
      · exact .inl (.inr (.inr k))
      · exact .inr ⟨Nat.le_of_eq k.symm, by rw [k]; exact HSZ0.out⟩
      · exact .inl (.inr (.inl k))))
    have hYL : ¬ ((fun y => y = P ∨ y = R ∨ y = w.heap.size) L) := fun e => by
      rcases e with e | e | e
      · exact n1 e
      · exact n3 e
      · omega
    have hYR : ¬ ((fun y => y = P ∨ y = L ∨ y = w.heap.size) R) := fun e => by
      rcases e with e | e | e
      · exact n2' e
      · exact n3 e.symm
      · omega
    have CP := Lib.hid (psync_l (sz := sz) (last := last) (br := br) HT.out b (by omega) hYL hL0 ((hVD.block L lL).trans hL) G)
    have CR := Lib.hid (fun (W : World) (t1 : Two w0 A B (fun y => (y = P ∨ y = R ∨ y = w.heap.size) ∨ y = L) (syncL D sz last br).D M W) (s1 : Stay (fun y => y = P ∨ y = R ∨ y = w.heap.size) V.drew W) =>
      rsync_l (Y := fun y => y = P ∨ y = L ∨ y = w.heap.size) (L := R) (sz := sz) (last := last) (br := br) (t1.add (Below.refl _ _) (fun y hy => .inl (by
        rcases hy with (k | k | k) | k
        · exact .inl (.inl k)
        · exact .inr k
        · exact .inl (.inr (.inr k))
        · exact .inl (.inr (.inl k))))) tw b bm (by omega) hYR hR0 ((s1.2 R (.inr (.inl rfl))).trans ((hVD.block R lR).trans hR)))
    have HPD : Hid (V.drew.heap[P]? = some (pairO A B (.pointer (some ⟨L, 0, none⟩)) (.pointer (some ⟨R, 0, none⟩)) ((last : Int) + 1))) := Lib.hid ((hVD.block P lP).trans hP)
    have HBD : Hid (V.drew.cell? ⟨w.heap.size, 0, none⟩ = some (.int .i64 1)) := Lib.hid ((World.cell?_of_block (a := ⟨w.heap.size, 0, none⟩) (HS.out.block _ HSZ0.out)).trans v0)
    obtain ⟨tws, bs, ms⟩ := two_syncL tw b bm sz last br
    obtain ⟨e1, e2⟩ := sync_nums D (sz := sz) (last := last) br
    generalize syncL D sz last br = R1 at *
    generalize syncLR M br = M1 at *
    have HE : Hid (R1.last = last ∧ R1.size = sz) := Lib.hid ⟨e1, e2⟩
    have HQ : Hid (∀ (w1 w2 : World), Stay (fun y => y = P ∨ y = R ∨ y = w.heap.size) V.drew w1 → w1.heap[L]? = some (logO A (R1.size : Int) (R1.last : Int) R1.br) → Stay (fun y => y = P ∨ y = L ∨ y = w.heap.size) w1 w2 → w2.heap[R]? = some (rlogO B (R1.size : Int) (R1.last : Int) R1.br) → Two w0 A B (fun y => (y = P ∨ y = L ∨ y = w.heap.size) ∨ y = R) R1.D M1 w2 → PairW w0 A B P (k + 1) w2) := Lib.hid (fun w1 w2 s1 l1 s2 l2 t2 =>
      ⟨φ, R1.D, M1, tws, bs, ms, h0, .inr ⟨L, R, R1.size, R1.last, R1.br, by rw [e1]; exact ((s2.2 P (.inl rfl)).trans (s1.2 P (.inl rfl))).trans HPD.out, (s2.2 L (.inr (.inl rfl))).trans l1, l2, t2.add (Below.refl _ _) (fun y hy => .inl (by
        rcases hy with k | k | k
        · exact .inl (.inl k)
        · exact .inl (.inr (.inl k))
        · exact .inr k)), hL0, hR0, n1, n2', n3, by rw [e1]; exact hla, by rw [e2]; exact Nat.le_trans hsz (Nat.mul_le_mul (by omega) (Nat.le_refl _))⟩⟩)
    have hE : (R1.err == R1.err) = true := by simp
    clear hVD h tw b bm h0 hP hL hR hL0 hR0 n1 n2' n3 hla hsz hk G hYL hYR tws bs ms e1 e2 lP0 lB0 lP lL lR hb
    go_wp2_with fail
    go_region_held3 (fun W : World => W.cell? ⟨P, 2, none⟩ = some (.pointer (some ⟨L, 0, none⟩)) ∧ W.cell? ⟨P, 3, none⟩ = some (.pointer (some ⟨R, 0, none⟩))) (first | assumption | go_keep) (first
      | (go_at_call 19; refine CP.out.mono ?_; rintro e w1 ⟨rfl, l1, t1, s1⟩; have y2 := (World.cell?_of_block (a := ⟨P, 2, none⟩) (s1.2 P (.inl rfl))).trans t2; have y3 := (World.cell?_of_block (a := ⟨P, 3, none⟩) (s1.2 P (.inl rfl))).trans t3)
      | (go_at_call 20; refine (CR.out w1 t1 s1).mono ?_; rintro e w2 ⟨rfl, l2, t4, s4⟩; have y2' := (World.cell?_of_block (a := ⟨P, 2, none⟩) (s4.2 P (.inl rfl))).trans y2; have y3' := (World.cell?_of_block (a := ⟨P, 3, none⟩) (s4.2 P (.inl rfl))).trans y3))
    have HP := Lib.hid (HQ.out w1 w2 s1 l1 s4 l2 t4)
    have x0 := (World.cell?_of_block (a := ⟨w.heap.size, 0, none⟩) ((s4.2 w.heap.size (.inr (.inr rfl))).trans (s1.2 w.heap.size (.inr (.inr rfl))))).trans HBD.out
    clear l1 t1 s1 l2 t4 s4 t2 t3 CP CR
    go_wp2_with fail
    go_ret
    exact ⟨rfl, HP.out⟩
  · have q1 : (sq != 0) = true := by simpa using hq
    clear hq
    go_enter Tryz.func7, Tryz.ntmps7
    go_wp2_with fail
    generalize w.alloc (.cells #[.int .i64 1, .string s, .int .i64 sq, .int .i64 st, .int .i64 fs, .int .i64 fk, .int .i64 fn, .int .i64 cn, .slice q n2 c2] 45) = W0 at *
    have hz := heap_alloc_new W0 (.cells #[.int .i64 0, .string ⟨#[]⟩] 62)
    have hbz : Below W0.heap.size W0 (W0.alloc (.cells #[.int .i64 0, .string ⟨#[]⟩] 62)) := below_new W0 _
    have HZ := Lib.hid hz
    have HBZ := Lib.hid hbz
    have lP0 : P < W0.heap.size := by have := HW0.out.2; omega
    have lB0 : w.heap.size < W0.heap.size := by have := HW0.out.2; omega
    have u4 := (World.cell?_of_block (a := ⟨P, 4, none⟩) (hbz.block P lP0)).trans p4
    have u1 := (World.cell?_of_block (a := ⟨w.heap.size, 1, none⟩) (hbz.block w.heap.size lB0)).trans c1
    have z0 : (W0.alloc (.cells #[.int .i64 0, .string ⟨#[]⟩] 62)).cell? ⟨W0.heap.size, 0, none⟩ = some (.int .i64 0) := by rw [cell_of_row _ _ _ _ _ _ hz]; rfl
    have z1 : (W0.alloc (.cells #[.int .i64 0, .string ⟨#[]⟩] 62)).cell? ⟨W0.heap.size, 1, none⟩ = some (.string ⟨#[]⟩) := by rw [cell_of_row _ _ _ _ _ _ hz]; rfl
    have f0 : (W0.alloc (.cells #[.int .i64 0, .string ⟨#[]⟩] 62)).frozen? ⟨W0.heap.size, 0, none⟩ = false := Lib.frozen_of_heap hz 0
    have f1 : (W0.alloc (.cells #[.int .i64 0, .string ⟨#[]⟩] 62)).frozen? ⟨W0.heap.size, 1, none⟩ = false := Lib.frozen_of_heap hz 1
    clear hz hbz
    go_region
    have HV : Hid (Below w.heap.size w ((W0.alloc (.cells #[.int .i64 ((last : Int) + 1), .string s] 62)).drew)) := Lib.hid ((HW0.out.1.trans ((below_new W0 _).mono HW0.out.1.size)).drew)
    have hzr := heap_alloc_new W0 (.cells #[.int .i64 ((last : Int) + 1), .string s] 62)
    have HBX : Hid (((W0.alloc (.cells #[.int .i64 ((last : Int) + 1), .string s] 62)).drew).heap[w.heap.size]? = W0.heap[w.heap.size]?) := Lib.hid ((below_new W0 _).block _ lB0)
    have HSZ0 : Hid (w.heap.size < ((W0.alloc (.cells #[.int .i64 ((last : Int) + 1), .string s] 62)).drew).heap.size) := Lib.hid (by show _ < (W0.alloc _).heap.size; simp; omega)
    have HRB : Hid (((W0.alloc (.cells #[.int .i64 ((last : Int) + 1), .string s] 62)).drew).heap[W0.heap.size]? = some (.cells #[.int .i64 ((last : Int) + 1), .string s] 62 (0, 0))) := Lib.hid hzr
    have lW0 : w.heap.size < W0.heap.size := lB0
    clear hzr u4 u1 z0 z1 f0 f1 HZ HBZ
    generalize (W0.alloc (.cells #[.int .i64 ((last : Int) + 1), .string s] 62)).drew = V at *
    have v0 := (World.cell?_of_block (a := ⟨w.heap.size, 0, none⟩) HBX.out).trans c0
    have v2 := (World.cell?_of_block (a := ⟨w.heap.size, 2, none⟩) HBX.out).trans c2'
    have r0 : V.cell? ⟨W0.heap.size, 0, none⟩ = some (.int .i64 ((last : Int) + 1)) := by rw [cell_of_row _ _ _ _ _ _ HRB.out]; rfl
    have rf : V.frozen? ⟨W0.heap.size, 0, none⟩ = false := Lib.frozen_of_heap HRB.out 0
    go_wp2_with fail
    have HV2 : Hid (Below w.heap.size w (V.setCell ⟨W0.heap.size, 0, none⟩ (.int .i64 sq))) := Lib.hid (HV.out.setCell (p := ⟨W0.heap.size, 0, none⟩) (by show w.heap.size ≤ W0.heap.size; omega) _)
    have HBX2 : Hid ((V.setCell ⟨W0.heap.size, 0, none⟩ (.int .i64 sq)).heap[w.heap.size]? = W0.heap[w.heap.size]?) := Lib.hid ((heap_setCell_other _ _ _ _ (Nat.ne_of_lt lW0)).trans HBX.out)
    have HSZ2 : Hid (w.heap.size < (V.setCell ⟨W0.heap.size, 0, none⟩ (.int .i64 sq)).heap.size) := Lib.hid (by rw [show (V.setCell ⟨W0.heap.size, 0, none⟩ (.int .i64 sq)).heap.size = V.heap.size by simp [World.setCell]]; exact HSZ0.out)
    clear HV HBX HSZ0 HRB r0 rf v0 v2 lW0
    generalize V.setCell ⟨W0.heap.size, 0, none⟩ (.int .i64 sq) = U at *
    have HS : Hid (Below U.heap.size U U.drew) := Lib.hid (Below.refl _ _).drew
    have v0 := (World.cell?_of_block (a := ⟨w.heap.size, 0, none⟩) HBX2.out).trans c0
    have v2 := (World.cell?_of_block (a := ⟨w.heap.size, 2, none⟩) HBX2.out).trans c2'
    have hPV := (HV2.out.block P lP).trans hP
    have g2 : U.cell? ⟨P, 2, none⟩ = some (.pointer (some ⟨L, 0, none⟩)) := (pairO_cells hPV).2.2.1
    have g3 : U.cell? ⟨P, 3, none⟩ = some (.pointer (some ⟨R, 0, none⟩)) := (pairO_cells hPV).2.2.2.1
    have HPV := Lib.hid hPV
    clear hPV
    have hPD := (HS.out.block P (Nat.lt_of_lt_of_le lP HV2.out.size)).trans HPV.out
    have t2 : U.drew.cell? ⟨P, 2, none⟩ = some (.pointer (some ⟨L, 0, none⟩)) := (pairO_cells hPD).2.2.1
    have t3 : U.drew.cell? ⟨P, 3, none⟩ = some (.pointer (some ⟨R, 0, none⟩)) := (pairO_cells hPD).2.2.2.1
    clear hPD
    have hVD : Below w.heap.size w U.drew := HV2.out.trans (HS.out.mono HV2.out.size)
    have HT : Hid (Two w0 A B (fun y => (y = P ∨ y = R ∨ y = w.heap.size) ∨ y = L) D M U.drew) := Lib.hid (h.add hVD (fun b hb => by
      rcases hb with (k | k | k) | k
      · exact .inl (.inl k)
      · exact .inl (.inr (.inr k))
      · exact .inr ⟨Nat.le_of_eq k.symm, by rw [k]; exact HSZ2.out⟩
      · exact .inl (.inr (.inl k))))
    have hYL : ¬ ((fun y => y = P ∨ y = R ∨ y = w.heap.size) L) := fun e => by
      rcases e with e | e | e
      · exact n1 e
      · exact n3 e
      · omega
    have hYR : ¬ ((fun y => y = P ∨ y = L ∨ y = w.heap.size) R) := fun e => by
      rcases e with e | e | e
      · exact n2' e
      · exact n3 e.symm
      · omega
    have CP := Lib.hid (psync_l (sz := sz) (last := last) (br := br) HT.out b (by omega) hYL hL0 ((hVD.block L lL).trans hL) G)
    have CR := Lib.hid (fun (W : World) (t1 : Two w0 A B (fun y => (y = P ∨ y = R ∨ y = w.heap.size) ∨ y = L) (syncL D sz last br).D M W) (s1 : Stay (fun y => y = P ∨ y = R ∨ y = w.heap.size) U.drew W) =>
      rsync_l (Y := fun y => y = P ∨ y = L ∨ y = w.heap.size) (L := R) (sz := sz) (last := last) (br := br) (t1.add (Below.refl _ _) (fun y hy => .inl (by
        rcases hy with (k | k | k) | k
        · exact .inl (.inl k)
        · exact .inr k
        · exact .inl (.inr (.inr k))
        · exact .inl (.inr (.inl k))))) tw b bm (by omega) hYR hR0 ((s1.2 R (.inr (.inl rfl))).trans ((hVD.block R lR).trans hR)))
    have HPD : Hid (U.drew.heap[P]? = some (pairO A B (.pointer (some ⟨L, 0, none⟩)) (.pointer (some ⟨R, 0, none⟩)) ((last : Int) + 1))) := Lib.hid ((hVD.block P lP).trans hP)
    have HBD : Hid (U.drew.cell? ⟨w.heap.size, 0, none⟩ = some (.int .i64 1)) := Lib.hid ((World.cell?_of_block (a := ⟨w.heap.size, 0, none⟩) (HS.out.block _ HSZ2.out)).trans v0)
    obtain ⟨tws, bs, ms⟩ := two_syncL tw b bm sz last br
    obtain ⟨e1, e2⟩ := sync_nums D (sz := sz) (last := last) br
    generalize syncL D sz last br = R1 at *
    generalize syncLR M br = M1 at *
    have HE : Hid (R1.last = last ∧ R1.size = sz) := Lib.hid ⟨e1, e2⟩
    have HQ : Hid (∀ (w1 w2 : World), Stay (fun y => y = P ∨ y = R ∨ y = w.heap.size) U.drew w1 → w1.heap[L]? = some (logO A (R1.size : Int) (R1.last : Int) R1.br) → Stay (fun y => y = P ∨ y = L ∨ y = w.heap.size) w1 w2 → w2.heap[R]? = some (rlogO B (R1.size : Int) (R1.last : Int) R1.br) → Two w0 A B (fun y => (y = P ∨ y = L ∨ y = w.heap.size) ∨ y = R) R1.D M1 w2 → PairW w0 A B P (k + 1) w2) := Lib.hid (fun w1 w2 s1 l1 s2 l2 t2 =>
      ⟨φ, R1.D, M1, tws, bs, ms, h0, .inr ⟨L, R, R1.size, R1.last, R1.br, by rw [e1]; exact ((s2.2 P (.inl rfl)).trans (s1.2 P (.inl rfl))).trans HPD.out, (s2.2 L (.inr (.inl rfl))).trans l1, l2, t2.add (Below.refl _ _) (fun y hy => .inl (by
        rcases hy with k | k | k
        · exact .inl (.inl k)
        · exact .inl (.inr (.inl k))
        · exact .inr k)), hL0, hR0, n1, n2', n3, by rw [e1]; exact hla, by rw [e2]; exact Nat.le_trans hsz (Nat.mul_le_mul (by omega) (Nat.le_refl _))⟩⟩)
    have hE : (R1.err == R1.err) = true := by simp
    clear hVD h tw b bm h0 hP hL hR hL0 hR0 n1 n2' n3 hla hsz hk G hYL hYR tws bs ms e1 e2 lP0 lB0 lP lL lR hb
    go_region_held3 (fun W : World => W.cell? ⟨P, 2, none⟩ = some (.pointer (some ⟨L, 0, none⟩)) ∧ W.cell? ⟨P, 3, none⟩ = some (.pointer (some ⟨R, 0, none⟩))) (first | assumption | go_keep) (first
      | (go_at_call 19; refine CP.out.mono ?_; rintro e w1 ⟨rfl, l1, t1, s1⟩; have y2 := (World.cell?_of_block (a := ⟨P, 2, none⟩) (s1.2 P (.inl rfl))).trans t2; have y3 := (World.cell?_of_block (a := ⟨P, 3, none⟩) (s1.2 P (.inl rfl))).trans t3)
      | (go_at_call 20; refine (CR.out w1 t1 s1).mono ?_; rintro e w2 ⟨rfl, l2, t4, s4⟩; have y2' := (World.cell?_of_block (a := ⟨P, 2, none⟩) (s4.2 P (.inl rfl))).trans y2; have y3' := (World.cell?_of_block (a := ⟨P, 3, none⟩) (s4.2 P (.inl rfl))).trans y3))
    have HP := Lib.hid (HQ.out w1 w2 s1 l1 s4 l2 t4)
    have x0 := (World.cell?_of_block (a := ⟨w.heap.size, 0, none⟩) ((s4.2 w.heap.size (.inr (.inr rfl))).trans (s1.2 w.heap.size (.inr (.inr rfl))))).trans HBD.out
    clear l1 t1 s1 l2 t4 s4 t2 t3 CP CR
    go_wp2_with fail
    go_ret
    exact ⟨rfl, HP.out⟩
end
end Wl
end Go.Proofs.YtioidkbpjkcjeaaGreatDoor
