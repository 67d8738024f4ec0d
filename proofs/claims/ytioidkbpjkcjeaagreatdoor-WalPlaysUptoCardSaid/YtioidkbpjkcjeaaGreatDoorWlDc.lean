/- The law's 'do' on both logs: an Append. Conditions: those that each theorem names. -/
import Derived.Test.YtioidkbpjkcjeaaGreatDoorWlDb
namespace Go.Proofs.YtioidkbpjkcjeaaGreatDoor
set_option linter.unusedVariables false
open Go Go.RowKit Dk
namespace Wl
section
variable {w0 w : World} {A B P k : Nat}
set_option maxHeartbeats 4000000 in
set_option maxRecDepth 100000 in
theorem wdo_append {L R sz last : Nat} {br : Bool} {D : DSt} {M : RSt} {φ : Nat → Nat} (tw : Dk.Twin φ D M) (b : DBd cW k D) (bm : MBd cW k M) (h0 : w0.heap.size ≤ P) (hP : w.heap[P]? = some (pairO A B (.pointer (some ⟨L, 0, none⟩)) (.pointer (some ⟨R, 0, none⟩)) ((last : Int) + 1))) (hL : w.heap[L]? = some (logO A (sz : Int) (last : Int) br)) (hR : w.heap[R]? = some (rlogO B (sz : Int) (last : Int) br))
    (h : Two w0 A B (fun b => b = P ∨ b = L ∨ b = R) D M w) (hL0 : w0.heap.size ≤ L) (hR0 : w0.heap.size ≤ R) (n1 : L ≠ P) (n2' : R ≠ P) (n3 : L ≠ R) (hla : last ≤ 4503599627370496) (hsz : sz ≤ k * cW) (hk : k + 1 ≤ 1048577) (G : Hd w0) (s : ByteArray) (hsb : s.size + 20 ≤ cW) (sq st fs fk fn cn : Int) (hqr : -9223372036854775808 ≤ sq ∧ sq ≤ 9223372036854775807) (q : Option Addr) (n2 c2 : Nat) :
    Calls Tryz.prog 7 #[.pointer (some ⟨P, 0, none⟩), dV 0 s sq st fs fk fn cn q n2 c2] w fun e w' => e = .returned (.bool true) ∧ PairW w0 A B P (k + 1) w' := by
  have hb : Below w.heap.size w (w.alloc (dO 0 s sq st fs fk fn cn q n2 c2)) := below_new w _
  have lP := h.lt (b := P) (.inl rfl)
  have lL := h.lt (b := L) (.inr (.inl rfl))
  have lR := h.lt (b := R) (.inr (.inr rfl))
  obtain ⟨-, -, p2, p3, p4⟩ := pairO_cells ((hb.block P lP).trans hP)
  obtain ⟨⟨c0, c1, c2', -⟩, -⟩ := dO_cells (heap_alloc_new w (dO 0 s sq st fs fk fn cn q n2 c2))
  have HW0 : Hid (Below w.heap.size w (w.alloc (dO 0 s sq st fs fk fn cn q n2 c2)) ∧ (w.alloc (dO 0 s sq st fs fk fn cn q n2 c2)).heap.size = w.heap.size + 1) := Lib.hid ⟨hb, by simp⟩
  have mixed : Tryz.prog.follows .mixedOrders = true := by kernel_rfl
  unfold dV
  unfold dO at *
  by_cases hq : sq = 0
  · have q1 : (sq != 0) = false := by simp [hq]
    clear hq
    go_enter Tryz.func7, Tryz.ntmps7
    go_wp2_with fail
    generalize w.alloc (.cells #[.int .i64 0, .string s, .int .i64 sq, .int .i64 st, .int .i64 fs, .int .i64 fk, .int .i64 fn, .int .i64 cn, .slice q n2 c2] 45) = W0 at *
    have hz := heap_alloc_new W0 (.cells #[.int .i64 0, .string ⟨#[]⟩] 62)
    have hbz : Below W0.heap.size W0 (W0.alloc (.cells #[.int .i64 0, .string ⟨#[]⟩] 62)) := below_new W0 _
    have HZ := Lib.hid hz
    have HBZ := Lib.hid hbz
    have lP0 : P < W0.heap.size := by have := HW0.out.2; omega
    have lB0 : w.heap.size < W0.heap.size := by have := HW0.out.2; omega
    have u4 := (World.cell?_of_block (a := ⟨P, 4, none⟩) (hbz.block P lP0)).trans p4
    have u1 := (World.cell?_of_block (a := ⟨w.heap.size, 1, none⟩) (hbz.block w.heap.size lB0)).trans c1
    have z0 : (W0.alloc (.cells #[.int .i64 0, .string ⟨#[]⟩] 62)).cell? ⟨W0.heap.size, 0, none⟩ = some (.int .i64 0) := by rw [cell_of_row _ _ _ _ _ _ hz]; rfl
    have z1 : (W0.alloc (.cells #[.int .i64 0, .string ⟨#[]⟩] 62)).cell? ⟨W0.heap.size, 1, none⟩ = some (.string ⟨#[]⟩) := by rw [cell_of_row _ _ _ _ _ _ hz]; rfl
    have f0 : (W0.alloc (.cells #[.int .i64 0, .string ⟨#[]⟩] 62)).frozen? ⟨W0.heap.size, 0, none⟩ = false := Lib.frozen_of_heap hz 0
    have f1 : (W0.alloc (.cells #[.int .i64 0, .string ⟨#[]⟩] 62)).frozen? ⟨W0.heap.size, 1, none⟩ = false := Lib.frozen_of_heap hz 1
    clear hz hbz
    go_region
    have HV : Hid (Below w.heap.size w ((W0.alloc (.cells #[.int .i64 ((last : Int) + 1), .string s] 62)).drew)) := Lib.hid ((HW0.out.1.trans ((below_new W0 _).mono HW0.out.1.size)).drew)
    have hzr := heap_alloc_new W0 (.cells #[.int .i64 ((last : Int) + 1), .string s] 62)
    have HBX : Hid (((W0.alloc (.cells #[.int .i64 ((last : Int) + 1), .string s] 62)).drew).heap[w.heap.size]? = W0.heap[w.heap.size]?) := Lib.hid ((below_new W0 _).block _ lB0)
    have HSZ0 : Hid (w.heap.size < ((W0.alloc (.cells #[.int .i64 ((last : Int) + 1), .string s] 62)).drew).heap.size) := Lib.hid (by show _ < (W0.alloc _).heap.size; simp; omega)
    have HRB : Hid (((W0.alloc (.cells #[.int .i64 ((last : Int) + 1), .string s] 62)).drew).heap[W0.heap.size]? = some (.cells #[.int .i64 ((last : Int) + 1), .string s] 62 (0, 0))) := Lib.hid hzr
    have lW0 : w.heap.size < W0.heap.size := lB0
    clear hzr u4 u1 z0 z1 f0 f1 HZ HBZ
    generalize (W0.alloc (.cells #[.int .i64 ((last : Int) + 1), .string s] 62)).drew = V at *
    have HS : Hid (Below V.heap.size V V.drew) := Lib.hid (Below.refl _ _).drew
    have v0 := (World.cell?_of_block (a := ⟨w.heap.size, 0, none⟩) HBX.out).trans c0
    have v2 := (World.cell?_of_block (a := ⟨w.heap.size, 2, none⟩) HBX.out).trans c2'
    have hPV := (HV.out.block P lP).trans hP
    have g2 : V.cell? ⟨P, 2, none⟩ = some (.pointer (some ⟨L, 0, none⟩)) := (pairO_cells hPV).2.2.1
    have g3 : V.cell? ⟨P, 3, none⟩ = some (.pointer (some ⟨R, 0, none⟩)) := (pairO_cells hPV).2.2.2.1
    have HPV := Lib.hid hPV
    clear hPV
    have hPD := (HS.out.block P (Nat.lt_of_lt_of_le lP HV.out.size)).trans HPV.out
    have t2 : V.drew.cell? ⟨P, 2, none⟩ = some (.pointer (some ⟨L, 0, none⟩)) := (pairO_cells hPD).2.2.1
    have t3 : V.drew.cell? ⟨P, 3, none⟩ = some (.pointer (some ⟨R, 0, none⟩)) := (pairO_cells hPD).2.2.2.1
    clear hPD
    have lRB : W0.heap.size < V.heap.size := by
      rcases Nat.lt_or_ge W0.heap.size V.heap.size with e | e
      · exact e
      · have := HRB.out; rw [Array.getElem?_eq_none e] at this; cases this
    have hRD := (HS.out.block _ lRB).trans HRB.out
    have HRD := Lib.hid hRD
    have b0 : V.cell? ⟨W0.heap.size, 0, none⟩ = some (.int .i64 ((last : Int) + 1)) := by rw [cell_of_row _ _ _ _ _ _ HRB.out]; rfl
    have b1 : V.cell? ⟨W0.heap.size, 1, none⟩ = some (.string s) := by rw [cell_of_row _ _ _ _ _ _ HRB.out]; rfl
    have d0 : V.drew.cell? ⟨W0.heap.size, 0, none⟩ = some (.int .i64 ((last : Int) + 1)) := by rw [cell_of_row _ _ _ _ _ _ hRD]; rfl
    have d1 : V.drew.cell? ⟨W0.heap.size, 1, none⟩ = some (.string s) := by rw [cell_of_row _ _ _ _ _ _ hRD]; rfl
    clear hRD
    have hVD : Below w.heap.size w V.drew := HV.out.trans (HS.out.mono HV.out.size)
    have HT : Hid (Two w0 A B (fun y => (y = P ∨ y = R ∨ y = w.heap.size ∨ y = W0.heap.size) ∨ y = L) D M V.drew) := Lib.hid (h.add hVD (fun b hb => by
      rcases hb with (k | k | k | k) | k
      · exact .inl (.inl k)
      · exact .inl (.inr (.inr k))
      · exact .inr ⟨Nat.le_of_eq k.symm, by rw [k]; exact HSZ0.out⟩
      · exact .inr ⟨by rw [k]; omega, by rw [k]; exact lRB⟩
      · exact .inl (.inr (.inl k))))
    have hYL : ¬ ((fun y => y = P ∨ y = R ∨ y = w.heap.size ∨ y = W0.heap.size) L) := fun e => by
      rcases e with e | e | e | e
      · exact n1 e
      · exact n3 e
      · omega
      · omega
    have hYR : ¬ ((fun y => y = P ∨ y = L ∨ y = w.heap.size ∨ y = W0.heap.size) R) := fun e => by
      rcases e with e | e | e | e
      · exact n2' e
      · exact n3 e.symm
      · omega
      · omega
    have hszb : sz ≤ 140737488351232 := by
      have : k * cW ≤ 1048577 * 4000000 := Nat.mul_le_mul (by omega) (Nat.le_refl _)
      omega
    have CP := Lib.hid (pappend_l (sz := sz) (last := last) (br := br) ((last : Int) + 1) s HT.out b (by omega) (by decide) hYL hL0 ((hVD.block L lL).trans hL) G hsb (by omega) hla hszb)
    have CR := Lib.hid (fun (W : World) (t1 : Two w0 A B (fun y => (y = P ∨ y = R ∨ y = w.heap.size ∨ y = W0.heap.size) ∨ y = L) (appD D sz last br ((last : Int) + 1) s).D M W) (s1 : Stay (fun y => y = P ∨ y = R ∨ y = w.heap.size ∨ y = W0.heap.size) V.drew W) =>
      rappend_l (Y := fun y => y = P ∨ y = L ∨ y = w.heap.size ∨ y = W0.heap.size) (L := R) (sz := sz) (last := last) (br := br) ((last : Int) + 1) s (t1.add (Below.refl _ _) (fun y hy => .inl (by
        rcases hy with (k | k | k | k) | k
        · exact .inl (.inl k)
        · exact .inr k
        · exact .inl (.inr (.inr (.inl k)))
        · exact .inl (.inr (.inr (.inr k)))
        · exact .inl (.inr (.inl k))))) tw b bm (by omega) (by decide) hYR hR0 ((s1.2 R (.inr (.inl rfl))).trans ((hVD.block R lR).trans hR)) hsb (by omega) hla hszb)
    have HPD : Hid (V.drew.heap[P]? = some (pairO A B (.pointer (some ⟨L, 0, none⟩)) (.pointer (some ⟨R, 0, none⟩)) ((last : Int) + 1))) := Lib.hid ((hVD.block P lP).trans hP)
    have HBD : Hid (V.drew.cell? ⟨w.heap.size, 0, none⟩ = some (.int .i64 0)) := Lib.hid ((World.cell?_of_block (a := ⟨w.heap.size, 0, none⟩) (HS.out.block _ HSZ0.out)).trans v0)
    obtain ⟨⟨ψ, tws⟩, bs, ms⟩ := two_app tw b bm sz last br ((last : Int) + 1) s hsb
    obtain ⟨e1, e2, e3, e4⟩ := app_nums (k := k) D (sz := sz) (last := last) br ((last : Int) + 1) s hla hsb hsz
    generalize appD D sz last br ((last : Int) + 1) s = R1 at *
    generalize appR D M last br ((last : Int) + 1) s = M1 at *
    have HQ : Hid (∀ (w1 w2 w3 : World), Stay (fun y => y = P ∨ y = R ∨ y = w.heap.size ∨ y = W0.heap.size) V.drew w1 → w1.heap[L]? = some (logO A (R1.size : Int) (R1.last : Int) R1.br) → Stay (fun y => y = P ∨ y = L ∨ y = w.heap.size ∨ y = W0.heap.size) w1 w2 → w2.heap[R]? = some (rlogO B (R1.size : Int) (R1.last : Int) R1.br) → Two w0 A B (fun y => (y = P ∨ y = L ∨ y = w.heap.size ∨ y = W0.heap.size) ∨ y = R) R1.D M1 w2 → (R1.err ≠ 0 ∧ w3 = w2 ∨ R1.err = 0 ∧ w3 = w2.setCell ⟨P, 4, none⟩ (.int .i64 (((last : Int) + 1) + 1))) → PairW w0 A B P (k + 1) w3) := Lib.hid (fun w1 w2 w3 s1 l1 s2 l2 t2 hc => by
      have hp2 := ((s2.2 P (.inl rfl)).trans (s1.2 P (.inl rfl))).trans HPD.out
      have hl2 := (s2.2 L (.inr (.inl rfl))).trans l1
      have ht2 : Two w0 A B (fun b => b = P ∨ b = L ∨ b = R) R1.D M1 w2 := t2.add (Below.refl _ _) (fun y hy => .inl (by
        rcases hy with k | k | k
        · exact .inl (.inl k)
        · exact .inl (.inr (.inl k))
        · exact .inr k))
      rcases hc with ⟨he, rfl⟩ | ⟨he, rfl⟩
      · exact ⟨ψ, R1.D, M1, tws, bs, ms, h0, .inr ⟨L, R, R1.size, R1.last, R1.br, by rw [e4 he]; exact hp2, hl2, l2, ht2, hL0, hR0, n1, n2', n3, e1, e2⟩⟩
      · exact ⟨ψ, R1.D, M1, tws, bs, ms, h0, .inr ⟨L, R, R1.size, R1.last, R1.br, by rw [e3 he]; exact setCell_at hp2 _, (heap_setCell_other _ _ _ _ n1).trans hl2, (heap_setCell_other _ _ _ _ n2').trans l2, ht2.set P 4 _ (.inl rfl) h0, hL0, hR0, n1, n2', n3, e1, e2⟩⟩)
    have hw : R1.err = 0 → wrap64 (((last : Int) + 1) + 1) = ((last : Int) + 1) + 1 ∧ IntKind.i64.wrap (((last : Int) + 1) + 1) = ((last : Int) + 1) + 1 := fun he => by
      have := e3 he
      have hr : -9223372036854775808 ≤ ((last : Int) + 1) + 1 ∧ ((last : Int) + 1) + 1 ≤ 9223372036854775807 := by omega
      exact ⟨wrI rfl hr, IntWalk.i64_in _ hr⟩
    have hE : (R1.err == R1.err) = true := by simp
    clear hVD h tw b bm h0 hP hL hR hL0 hR0 n1 n2' n3 hla hsz hk G hYL hYR tws bs ms e1 e2 e3 e4 hsb hqr hszb lRB lW0 lP0 lB0 lP lL lR hb
    go_wp2_with fail
    go_region_held3 (fun W : World => W.cell? ⟨P, 2, none⟩ = some (.pointer (some ⟨L, 0, none⟩)) ∧ W.cell? ⟨P, 3, none⟩ = some (.pointer (some ⟨R, 0, none⟩)) ∧ W.cell? ⟨W0.heap.size, 0, none⟩ = some (.int .i64 ((last : Int) + 1)) ∧ W.cell? ⟨W0.heap.size, 1, none⟩ = some (.string s)) (first | assumption | go_keep) (first
      | (go_at_call 17; refine CP.out.mono ?_; rintro e w1 ⟨rfl, l1, t1, s1⟩; have y2 := (World.cell?_of_block (a := ⟨P, 2, none⟩) (s1.2 P (.inl rfl))).trans t2; have y3 := (World.cell?_of_block (a := ⟨P, 3, none⟩) (s1.2 P (.inl rfl))).trans t3; have y0 := (World.cell?_of_block (a := ⟨W0.heap.size, 0, none⟩) (s1.2 W0.heap.size (.inr (.inr (.inr rfl))))).trans d0; have y1 := (World.cell?_of_block (a := ⟨W0.heap.size, 1, none⟩) (s1.2 W0.heap.size (.inr (.inr (.inr rfl))))).trans d1)
      | (go_at_call 18; refine (CR.out w1 t1 s1).mono ?_; rintro e w2 ⟨rfl, l2, t4, s4⟩; have y2' := (World.cell?_of_block (a := ⟨P, 2, none⟩) (s4.2 P (.inl rfl))).trans y2; have y3' := (World.cell?_of_block (a := ⟨P, 3, none⟩) (s4.2 P (.inl rfl))).trans y3; have y0' := (World.cell?_of_block (a := ⟨W0.heap.size, 0, none⟩) (s4.2 W0.heap.size (.inr (.inr (.inr rfl))))).trans y0; have y1' := (World.cell?_of_block (a := ⟨W0.heap.size, 1, none⟩) (s4.2 W0.heap.size (.inr (.inr (.inr rfl))))).trans y1))
    have x0 := (World.cell?_of_block (a := ⟨w.heap.size, 0, none⟩) ((s4.2 w.heap.size (.inr (.inr (.inl rfl)))).trans (s1.2 w.heap.size (.inr (.inr (.inl rfl)))))).trans HBD.out
    have hp2 := ((s4.2 P (.inl rfl)).trans (s1.2 P (.inl rfl))).trans HPD.out
    have x4 := (pairO_cells hp2).2.2.2.2
    have xf : w2.frozen? ⟨P, 4, none⟩ = false := Lib.frozen_of_heap hp2 4
    have HP := Lib.hid (fun w3 => HQ.out w1 w2 w3 s1 l1 s4 l2 t4)
    clear l1 t1 s1 l2 t4 s4 t2 t3 CP CR hp2 d0 d1
    by_cases hz : R1.err = 0
    · obtain ⟨hw1, hw2⟩ := hw hz
      have HZ1 := Lib.hid hz
      have hz1 : (R1.err == 0) = true := by simp [hz]
      clear hz hw
      go_wp2_with fail
      go_ret
      exact ⟨rfl, HP.out _ (.inr ⟨HZ1.out, rfl⟩)⟩
    · have HZ1 := Lib.hid hz
      have hz1 : (R1.err == 0) = false := by simpa using hz
      clear hz hw
      go_wp2_with fail
      go_ret
      exact ⟨rfl, HP.out _ (.inl ⟨HZ1.out, rfl⟩)⟩
  · have q1 : (sq != 0) = true := by simpa using hq
    clear hq
    go_enter Tryz.func7, Tryz.ntmps7
    go_wp2_with fail
    generalize w.alloc (.cells #[.int .i64 0, .string s, .int .i64 sq, .int .i64 st, .int .i64 fs, .int .i64 fk, .int .i64 fn, .int .i64 cn, .slice q n2 c2] 45) = W0 at *
    have hz := heap_alloc_new W0 (.cells #[.int .i64 0, .string ⟨#[]⟩] 62)
    have hbz : Below W0.heap.size W0 (W0.alloc (.cells #[.int .i64 0, .string ⟨#[]⟩] 62)) := below_new W0 _
    have HZ := Lib.hid hz
    have HBZ := Lib.hid hbz
    have lP0 : P < W0.heap.size := by have := HW0.out.2; omega
    have lB0 : w.heap.size < W0.heap.size := by have := HW0.out.2; omega
    have u4 := (World.cell?_of_block (a := ⟨P, 4, none⟩) (hbz.block P lP0)).trans p4
    have u1 := (World.cell?_of_block (a := ⟨w.heap.size, 1, none⟩) (hbz.block w.heap.size lB0)).trans c1
    have z0 : (W0.alloc (.cells #[.int .i64 0, .string ⟨#[]⟩] 62)).cell? ⟨W0.heap.size, 0, none⟩ = some (.int .i64 0) := by rw [cell_of_row _ _ _ _ _ _ hz]; rfl
    have z1 : (W0.alloc (.cells #[.int .i64 0, .string ⟨#[]⟩] 62)).cell? ⟨W0.heap.size, 1, none⟩ = some (.string ⟨#[]⟩) := by rw [cell_of_row _ _ _ _ _ _ hz]; rfl
    have f0 : (W0.alloc (.cells #[.int .i64 0, .string ⟨#[]⟩] 62)).frozen? ⟨W0.heap.size, 0, none⟩ = false := Lib.frozen_of_heap hz 0
    have f1 : (W0.alloc (.cells #[.int .i64 0, .string ⟨#[]⟩] 62)).frozen? ⟨W0.heap.size, 1, none⟩ = false := Lib.frozen_of_heap hz 1
    clear hz hbz
    go_region
    have HV : Hid (Below w.heap.size w ((W0.alloc (.cells #[.int .i64 ((last : Int) + 1), .string s] 62)).drew)) := Lib.hid ((HW0.out.1.trans ((below_new W0 _).mono HW0.out.1.size)).drew)
    have hzr := heap_alloc_new W0 (.cells #[.int .i64 ((last : Int) + 1), .string s] 62)
    have HBX : Hid (((W0.alloc (.cells #[.int .i64 ((last : Int) + 1), .string s] 62)).drew).heap[w.heap.size]? = W0.heap[w.heap.size]?) := Lib.hid ((below_new W0 _).block _ lB0)
    have HSZ0 : Hid (w.heap.size < ((W0.alloc (.cells #[.int .i64 ((last : Int) + 1), .string s] 62)).drew).heap.size) := Lib.hid (by show _ < (W0.alloc _).heap.size; simp; omega)
    have HRB : Hid (((W0.alloc (.cells #[.int .i64 ((last : Int) + 1), .string s] 62)).drew).heap[W0.heap.size]? = some (.cells #[.int .i64 ((last : Int) + 1), .string s] 62 (0, 0))) := Lib.hid hzr
    have lW0 : w.heap.size < W0.heap.size := lB0
    clear hzr u4 u1 z0 z1 f0 f1 HZ HBZ
    generalize (W0.alloc (.cells #[.int .i64 ((last : Int) + 1), .string s] 62)).drew = V at *
    have v0 := (World.cell?_of_block (a := ⟨w.heap.size, 0, none⟩) HBX.out).trans c0
    have v2 := (World.cell?_of_block (a := ⟨w.heap.size, 2, none⟩) HBX.out).trans c2'
    have r0 : V.cell? ⟨W0.heap.size, 0, none⟩ = some (.int .i64 ((last : Int) + 1)) := by rw [cell_of_row _ _ _ _ _ _ HRB.out]; rfl
    have rf : V.frozen? ⟨W0.heap.size, 0, none⟩ = false := Lib.frozen_of_heap HRB.out 0
    go_wp2_with fail
    have HV2 : Hid (Below w.heap.size w (V.setCell ⟨W0.heap.size, 0, none⟩ (.int .i64 sq))) := Lib.hid (HV.out.setCell (p := ⟨W0.heap.size, 0, none⟩) (by show w.heap.size ≤ W0.heap.size; omega) _)
    have HBX2 : Hid ((V.setCell ⟨W0.heap.size, 0, none⟩ (.int .i64 sq)).heap[w.heap.size]? = W0.heap[w.heap.size]?) := Lib.hid ((heap_setCell_other _ _ _ _ (Nat.ne_of_lt lW0)).trans HBX.out)
    have HSZ2 : Hid (w.heap.size < (V.setCell ⟨W0.heap.size, 0, none⟩ (.int .i64 sq)).heap.size) := Lib.hid (by rw [show (V.setCell ⟨W0.heap.size, 0, none⟩ (.int .i64 sq)).heap.size = V.heap.size by simp [World.setCell]]; exact HSZ0.out)
    have HRB2 : Hid ((V.setCell ⟨W0.heap.size, 0, none⟩ (.int .i64 sq)).heap[W0.heap.size]? = some (.cells #[.int .i64 sq, .string s] 62 (0, 0))) := Lib.hid (setCell_at HRB.out _)
    clear HV HBX HSZ0 HRB r0 rf v0 v2
    generalize V.setCell ⟨W0.heap.size, 0, none⟩ (.int .i64 sq) = U at *
    have HS : Hid (Below U.heap.size U U.drew) := Lib.hid (Below.refl _ _).drew
    have v0 := (World.cell?_of_block (a := ⟨w.heap.size, 0, none⟩) HBX2.out).trans c0
    have v2 := (World.cell?_of_block (a := ⟨w.heap.size, 2, none⟩) HBX2.out).trans c2'
    have hPV := (HV2.out.block P lP).trans hP
    have g2 : U.cell? ⟨P, 2, none⟩ = some (.pointer (some ⟨L, 0, none⟩)) := (pairO_cells hPV).2.2.1
    have g3 : U.cell? ⟨P, 3, none⟩ = some (.pointer (some ⟨R, 0, none⟩)) := (pairO_cells hPV).2.2.2.1
    have HPV := Lib.hid hPV
    clear hPV
    have hPD := (HS.out.block P (Nat.lt_of_lt_of_le lP HV2.out.size)).trans HPV.out
    have t2 : U.drew.cell? ⟨P, 2, none⟩ = some (.pointer (some ⟨L, 0, none⟩)) := (pairO_cells hPD).2.2.1
    have t3 : U.drew.cell? ⟨P, 3, none⟩ = some (.pointer (some ⟨R, 0, none⟩)) := (pairO_cells hPD).2.2.2.1
    clear hPD
    have lRB : W0.heap.size < U.heap.size := by
      rcases Nat.lt_or_ge W0.heap.size U.heap.size with e | e
      · exact e
      · have := HRB2.out; rw [Array.getElem?_eq_none e] at this; cases this
    have hRD := (HS.out.block _ lRB).trans HRB2.out
    have HRD := Lib.hid hRD
    have b0 : U.cell? ⟨W0.heap.size, 0, none⟩ = some (.int .i64 sq) := by rw [cell_of_row _ _ _ _ _ _ HRB2.out]; rfl
    have b1 : U.cell? ⟨W0.heap.size, 1, none⟩ = some (.string s) := by rw [cell_of_row _ _ _ _ _ _ HRB2.out]; rfl
    have d0 : U.drew.cell? ⟨W0.heap.size, 0, none⟩ = some (.int .i64 sq) := by rw [cell_of_row _ _ _ _ _ _ hRD]; rfl
    have d1 : U.drew.cell? ⟨W0.heap.size, 1, none⟩ = some (.string s) := by rw [cell_of_row _ _ _ _ _ _ hRD]; rfl
    clear hRD
    have hVD : Below w.heap.size w U.drew := HV2.out.trans (HS.out.mono HV2.out.size)
    have HT : Hid (Two w0 A B (fun y => (y = P ∨ y = R ∨ y = w.heap.size ∨ y = W0.heap.size) ∨ y = L) D M U.drew) := Lib.hid (h.add hVD (fun b hb => by
      rcases hb with (k | k | k | k) | k
      · exact .inl (.inl k)
      · exact .inl (.inr (.inr k))
      · exact .inr ⟨Nat.le_of_eq k.symm, by rw [k]; exact HSZ2.out⟩
      · exact .inr ⟨by rw [k]; omega, by rw [k]; exact lRB⟩
      · exact .inl (.inr (.inl k))))
    have hYL : ¬ ((fun y => y = P ∨ y = R ∨ y = w.heap.size ∨ y = W0.heap.size) L) := fun e => by
      rcases e with e | e | e | e
      · exact n1 e
      · exact n3 e
      · omega
      · omega
    have hYR : ¬ ((fun y => y = P ∨ y = L ∨ y = w.heap.size ∨ y = W0.heap.size) R) := fun e => by
      rcases e with e | e | e | e
      · exact n2' e
      · exact n3 e.symm
      · omega
      · omega
    have hszb : sz ≤ 140737488351232 := by
      have : k * cW ≤ 1048577 * 4000000 := Nat.mul_le_mul (by omega) (Nat.le_refl _)
      omega
    have CP := Lib.hid (pappend_l (sz := sz) (last := last) (br := br) sq s HT.out b (by omega) (by decide) hYL hL0 ((hVD.block L lL).trans hL) G hsb (by omega) hla hszb)
    have CR := Lib.hid (fun (W : World) (t1 : Two w0 A B (fun y => (y = P ∨ y = R ∨ y = w.heap.size ∨ y = W0.heap.size) ∨ y = L) (appD D sz last br sq s).D M W) (s1 : Stay (fun y => y = P ∨ y = R ∨ y = w.heap.size ∨ y = W0.heap.size) U.drew W) =>
      rappend_l (Y := fun y => y = P ∨ y = L ∨ y = w.heap.size ∨ y = W0.heap.size) (L := R) (sz := sz) (last := last) (br := br) sq s (t1.add (Below.refl _ _) (fun y hy => .inl (by
        rcases hy with (k | k | k | k) | k
        · exact .inl (.inl k)
        · exact .inr k
        · exact .inl (.inr (.inr (.inl k)))
        · exact .inl (.inr (.inr (.inr k)))
        · exact .inl (.inr (.inl k))))) tw b bm (by omega) (by decide) hYR hR0 ((s1.2 R (.inr (.inl rfl))).trans ((hVD.block R lR).trans hR)) hsb (by omega) hla hszb)
    have HPD : Hid (U.drew.heap[P]? = some (pairO A B (.pointer (some ⟨L, 0, none⟩)) (.pointer (some ⟨R, 0, none⟩)) ((last : Int) + 1))) := Lib.hid ((hVD.block P lP).trans hP)
    have HBD : Hid (U.drew.cell? ⟨w.heap.size, 0, none⟩ = some (.int .i64 0)) := Lib.hid ((World.cell?_of_block (a := ⟨w.heap.size, 0, none⟩) (HS.out.block _ HSZ2.out)).trans v0)
    obtain ⟨⟨ψ, tws⟩, bs, ms⟩ := two_app tw b bm sz last br sq s hsb
    obtain ⟨e1, e2, e3, e4⟩ := app_nums (k := k) D (sz := sz) (last := last) br sq s hla hsb hsz
    generalize appD D sz last br sq s = R1 at *
    generalize appR D M last br sq s = M1 at *
    have HQ : Hid (∀ (w1 w2 w3 : World), Stay (fun y => y = P ∨ y = R ∨ y = w.heap.size ∨ y = W0.heap.size) U.drew w1 → w1.heap[L]? = some (logO A (R1.size : Int) (R1.last : Int) R1.br) → Stay (fun y => y = P ∨ y = L ∨ y = w.heap.size ∨ y = W0.heap.size) w1 w2 → w2.heap[R]? = some (rlogO B (R1.size : Int) (R1.last : Int) R1.br) → Two w0 A B (fun y => (y = P ∨ y = L ∨ y = w.heap.size ∨ y = W0.heap.size) ∨ y = R) R1.D M1 w2 → (R1.err ≠ 0 ∧ w3 = w2 ∨ R1.err = 0 ∧ w3 = w2.setCell ⟨P, 4, none⟩ (.int .i64 (sq + 1))) → PairW w0 A B P (k + 1) w3) := Lib.hid (fun w1 w2 w3 s1 l1 s2 l2 t2 hc => by
      have hp2 := ((s2.2 P (.inl rfl)).trans (s1.2 P (.inl rfl))).trans HPD.out
      have hl2 := (s2.2 L (.inr (.inl rfl))).trans l1
      have ht2 : Two w0 A B (fun b => b = P ∨ b = L ∨ b = R) R1.D M1 w2 := t2.add (Below.refl _ _) (fun y hy => .inl (by
        rcases hy with k | k | k
        · exact .inl (.inl k)
        · exact .inl (.inr (.inl k))
        · exact .inr k))
      rcases hc with ⟨he, rfl⟩ | ⟨he, rfl⟩
      · exact ⟨ψ, R1.D, M1, tws, bs, ms, h0, .inr ⟨L, R, R1.size, R1.last, R1.br, by rw [e4 he]; exact hp2, hl2, l2, ht2, hL0, hR0, n1, n2', n3, e1, e2⟩⟩
      · exact ⟨ψ, R1.D, M1, tws, bs, ms, h0, .inr ⟨L, R, R1.size, R1.last, R1.br, by rw [e3 he]; exact setCell_at hp2 _, (heap_setCell_other _ _ _ _ n1).trans hl2, (heap_setCell_other _ _ _ _ n2').trans l2, ht2.set P 4 _ (.inl rfl) h0, hL0, hR0, n1, n2', n3, e1, e2⟩⟩)
    have hw : R1.err = 0 → wrap64 (sq + 1) = sq + 1 ∧ IntKind.i64.wrap (sq + 1) = sq + 1 := fun he => by
      have := e3 he
      have hr : -9223372036854775808 ≤ sq + 1 ∧ sq + 1 ≤ 9223372036854775807 := by omega
      exact ⟨wrI rfl hr, IntWalk.i64_in _ hr⟩
    have hE : (R1.err == R1.err) = true := by simp
    clear hVD h tw b bm h0 hP hL hR hL0 hR0 n1 n2' n3 hla hsz hk G hYL hYR tws bs ms e1 e2 e3 e4 hsb hqr hszb lRB lW0 lP0 lB0 lP lL lR hb
    go_region_held3 (fun W : World => W.cell? ⟨P, 2, none⟩ = some (.pointer (some ⟨L, 0, none⟩)) ∧ W.cell? ⟨P, 3, none⟩ = some (.pointer (some ⟨R, 0, none⟩)) ∧ W.cell? ⟨W0.heap.size, 0, none⟩ = some (.int .i64 sq) ∧ W.cell? ⟨W0.heap.size, 1, none⟩ = some (.string s)) (first | assumption | go_keep) (first
      | (go_at_call 17; refine CP.out.mono ?_; rintro e w1 ⟨rfl, l1, t1, s1⟩; have y2 := (World.cell?_of_block (a := ⟨P, 2, none⟩) (s1.2 P (.inl rfl))).trans t2; have y3 := (World.cell?_of_block (a := ⟨P, 3, none⟩) (s1.2 P (.inl rfl))).trans t3; have y0 := (World.cell?_of_block (a := ⟨W0.heap.size, 0, none⟩) (s1.2 W0.heap.size (.inr (.inr (.inr rfl))))).trans d0; have y1 := (World.cell?_of_block (a := ⟨W0.heap.size, 1, none⟩) (s1.2 W0.heap.size (.inr (.inr (.inr rfl))))).trans d1)
      | (go_at_call 18; refine (CR.out w1 t1 s1).mono ?_; rintro e w2 ⟨rfl, l2, t4, s4⟩; have y2' := (World.cell?_of_block (a := ⟨P, 2, none⟩) (s4.2 P (.inl rfl))).trans y2; have y3' := (World.cell?_of_block (a := ⟨P, 3, none⟩) (s4.2 P (.inl rfl))).trans y3; have y0' := (World.cell?_of_block (a := ⟨W0.heap.size, 0, none⟩) (s4.2 W0.heap.size (.inr (.inr (.inr rfl))))).trans y0; have y1' := (World.cell?_of_block (a := ⟨W0.heap.size, 1, none⟩) (s4.2 W0.heap.size (.inr (.inr (.inr rfl))))).trans y1))
    have x0 := (World.cell?_of_block (a := ⟨w.heap.size, 0, none⟩) ((s4.2 w.heap.size (.inr (.inr (.inl rfl)))).trans (s1.2 w.heap.size (.inr (.inr (.inl rfl)))))).trans HBD.out
    have hp2 := ((s4.2 P (.inl rfl)).trans (s1.2 P (.inl rfl))).trans HPD.out
    have x4 := (pairO_cells hp2).2.2.2.2
    have xf : w2.frozen? ⟨P, 4, none⟩ = false := Lib.frozen_of_heap hp2 4
    have HP := Lib.hid (fun w3 => HQ.out w1 w2 w3 s1 l1 s4 l2 t4)
    clear l1 t1 s1 l2 t4 s4 t2 t3 CP CR hp2 d0 d1
    by_cases hz : R1.err = 0
    · obtain ⟨hw1, hw2⟩ := hw hz
      have HZ1 := Lib.hid hz
      have hz1 : (R1.err == 0) = true := by simp [hz]
      clear hz hw
      go_wp2_with fail
      go_ret
      exact ⟨rfl, HP.out _ (.inr ⟨HZ1.out, rfl⟩)⟩
    · have HZ1 := Lib.hid hz
      have hz1 : (R1.err == 0) = false := by simpa using hz
      clear hz hw
      go_wp2_with fail
      go_ret
      exact ⟨rfl, HP.out _ (.inl ⟨HZ1.out, rfl⟩)⟩
end
end Wl
end Go.Proofs.YtioidkbpjkcjeaaGreatDoor
