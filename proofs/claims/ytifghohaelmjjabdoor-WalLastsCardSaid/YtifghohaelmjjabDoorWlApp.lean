/- Append and Sync of a log on a disk without faults. Conditions: those that each theorem names. -/
import Derived.Test.YtifghohaelmjjabDoorWlOp2
namespace Go.Proofs.YtifghohaelmjjabDoor
set_option linter.unusedVariables false
open Go Go.RowKit Dk Wl
theorem logO_cells {w : World} {A B : Nat} {sz last : Int} {br : Bool} (h : w.heap[B]? = some (logO A sz last br)) :
    w.cell? ⟨B, 0, none⟩ = some (.pointer (some ⟨A, 0, none⟩)) ∧ w.cell? ⟨B, 1, none⟩ = some (.string nL) ∧ w.cell? ⟨B, 2, none⟩ = some (.int .i64 sz) ∧ w.cell? ⟨B, 3, none⟩ = some (.int .i64 last) ∧ w.cell? ⟨B, 4, none⟩ = some (.bool br) :=
  ⟨by rw [cell_of_row _ _ _ _ _ _ h]; rfl, by rw [cell_of_row _ _ _ _ _ _ h]; rfl, by rw [cell_of_row _ _ _ _ _ _ h]; rfl, by rw [cell_of_row _ _ _ _ _ _ h]; rfl, by rw [cell_of_row _ _ _ _ _ _ h]; rfl⟩
theorem logO_set {w : World} {A B : Nat} {sz last : Int} {br : Bool} (h : w.heap[B]? = some (logO A sz last br)) (x y : Int) :
    ((w.setCell ⟨B, 2, none⟩ (.int .i64 x)).setCell ⟨B, 3, none⟩ (.int .i64 y)).heap[B]? = some (logO A x y br) :=
  setCell_at (setCell_at h _) _
theorem Stay.set {X : Nat → Prop} {w w1 : World} (h : Stay X w w1) {B : Nat} (hX : ¬ X B) (k : Nat) (v : Value) : Stay X w (w1.setCell ⟨B, k, none⟩ v) :=
  ⟨by rw [show (w1.setCell ⟨B, k, none⟩ v).heap.size = w1.heap.size by simp [World.setCell]]; exact h.1, fun b hb => (heap_setCell_other _ _ _ _ (fun (e : b = B) => hX (e ▸ hb))).trans (h.2 b hb)⟩
def AppP (w0 : World) (A B : Nat) (X : Nat → Prop) (w : World) (l : List UInt8) (s : Nat) (k : Int) (b : ByteArray) (Z q : Nat) (e : Ending) (w' : World) : Prop :=
  e = .returned (.int .i64 0) ∧ w'.heap[B]? = some (logO A (Z : Int) (q : Int) false) ∧ AtB w0 A (st (l ++ frameL q b.data.toList) s (k + 1)) (fun y => X y ∨ y = B) w' ∧ Stay X w w'
section
variable {w0 w : World} {A B : Nat} {X : Nat → Prop}
set_option maxHeartbeats 2000000 in
theorem append_ok {l : List UInt8} {s : Nat} {k : Int} {sz last q Z : Nat} (b : ByteArray) (h : AtB w0 A (st l s k) (fun y => X y ∨ y = B) w) (hX : ¬ X B) (h0 : w0.heap.size ≤ B) (hB : w.heap[B]? = some (logO A (sz : Int) (last : Int) false))
    (hk : 0 ≤ k ∧ k ≤ 4611686018427387904) (hq : 1 ≤ q ∧ q ≤ 4503599627370496) (hb : b.size ≤ 16777216) (hla : last = 0 ∨ q = last + 1) (hl : l.length + (20 + b.size) ≤ 140737488351232) (hs : sz + (20 + b.size) ≤ 140737488351232) (hZ : Z = sz + (20 + b.size)) :
    Calls Tryd.prog 8 #[.pointer (some ⟨B, 0, none⟩), .agg #[.int .i64 (q : Int), .string b]] w (AppP w0 A B X w l s k b Z q) := by
  obtain ⟨b0, b1, b2, b3, b4⟩ := logO_cells hB
  obtain ⟨r0, r1⟩ := rec_cells w (q : Int) b
  have hlt : B < w.heap.size := h.lt (.inr rfl)
  have hbn : Below w.heap.size w (w.alloc (.cells #[.int .i64 (q : Int), .string b] 36)) := below_new w _
  have HA := Lib.hid (h.add hbn (Y := fun y => (X y ∨ y = B) ∨ y = w.heap.size) (fun y hy => hy.imp id (fun e => by subst e; exact ⟨Nat.le_refl _, by simp⟩)))
  have HS : Hid (Stay (fun y => X y ∨ y = B) w (w.alloc (.cells #[.int .i64 (q : Int), .string b] 36))) := Lib.hid (stay_below h hbn)
  have CF := Lib.hid (fun W => frame_yes q b W hq.1 hq.2 hb)
  have HF : Hid (fV A = .agg #[.pointer (some ⟨A, 0, none⟩), .string nL]) := Lib.hid rfl
  have d0 := (World.cell?_of_block (a := ⟨B, 0, none⟩) (HS.out.2 B (.inr rfl))).trans b0
  have d1 := (World.cell?_of_block (a := ⟨B, 1, none⟩) (HS.out.2 B (.inr rfl))).trans b1
  have d3 := (World.cell?_of_block (a := ⟨B, 3, none⟩) (HS.out.2 B (.inr rfl))).trans b3
  have d4 := (World.cell?_of_block (a := ⟨B, 4, none⟩) (HS.out.2 B (.inr rfl))).trans b4
  have HN := Lib.hid ((HS.out.2 B (.inr rfl)).trans hB)
  have HR : Hid (w.heap.size < (w.alloc (.cells #[.int .i64 (q : Int), .string b] 36)).heap.size) := Lib.hid (by simp)
  have HFL : Hid ((frB q b).data.toList = frameL q b.data.toList) := Lib.hid (by unfold frB; rw [tx_list])
  have HFZ : Hid ((frB q b).size = 20 + b.size) := Lib.hid (frB_size q b)
  have HZ := Lib.hid hZ
  clear hZ
  have HK := Lib.hid hk
  have HSZ : Hid (sz + (20 + b.size) ≤ 140737488351232) := Lib.hid hs
  have HLL : Hid (l.length + (20 + b.size) ≤ 140737488351232) := Lib.hid hl
  have HX := Lib.hid hX
  have H0 := Lib.hid h0
  have hlast : ((last : Int) != 0) = false ∨ (((last : Int) != 0) = true ∧ (q : Int) = (last : Int) + 1) := by
    rcases hla with e | e
    · exact .inl (by simp [e])
    · by_cases e0 : last = 0
      · exact .inl (by simp [e0])
      · exact .inr ⟨by simpa using e0, by omega⟩
  clear h hbn hk hs hl hX h0 hB b0 b1 b2 b3 b4 hla
  have HQ := Lib.hid hq
  have HBS := Lib.hid hb
  clear hq hb
  go_enter Tryd.func8, Tryd.ntmps8
  go_wp2_with fail
  generalize w.alloc (.cells #[.int .i64 (q : Int), .string b] 36) = W at *
  refine (CF.out _).mono ?_
  rintro e w1 ⟨rfl, hb1⟩
  have HBL : Hid (B < W.heap.size) := Lib.hid (HA.out.lt (.inl (.inr rfl)))
  have g0 := (World.cell?_of_block (a := ⟨B, 0, none⟩) (hb1.block B HBL.out)).trans d0
  have g1 := (World.cell?_of_block (a := ⟨B, 1, none⟩) (hb1.block B HBL.out)).trans d1
  have g3 := (World.cell?_of_block (a := ⟨B, 3, none⟩) (hb1.block B HBL.out)).trans d3
  have s0 := (World.cell?_of_block (a := ⟨w.heap.size, 0, none⟩) (hb1.block w.heap.size HR.out)).trans r0
  have HN1 := Lib.hid ((hb1.block B HBL.out).trans HN.out)
  have HA1 := Lib.hid (HA.out.others hb1)
  have HS1 : Hid (Stay (fun y => X y ∨ y = B) w w1) := Lib.hid (HS.out.trans ⟨hb1.size, fun b hb => hb1.block b (HA.out.lt (.inl hb))⟩)
  have C2 := Lib.hid (fun (V : World) (hV : Below w1.heap.size w1 V) => fwrite_any (HA1.out.others hV) HK.out (frB q b) (by have := HLL.out; have := HFZ.out; omega))
  rw [HF.out, HFL.out] at C2
  have HS0 := Lib.hid s0
  have HRL : Hid (w.heap.size < w1.heap.size ∧ B < w1.heap.size) := Lib.hid ⟨Nat.lt_of_lt_of_le HR.out hb1.size, Nat.lt_of_lt_of_le HBL.out hb1.size⟩
  have h16 : Hid (B ≠ w.heap.size) := Lib.hid (Nat.ne_of_lt hlt)
  clear hb1 d0 d1 d3 d4 r0 r1 CF
  have q1 : ((sz : Int) + ((frB q b).size : Int)) = (Z : Int) ∧ -9223372036854775808 ≤ (Z : Int) ∧ (Z : Int) ≤ 9223372036854775807 := by have := HSZ.out; have := HFZ.out; have := HZ.out; omega
  have WZ := Lib.hid (wrI q1.1 q1.2)
  have q2 : -9223372036854775808 ≤ (q : Int) ∧ (q : Int) ≤ 9223372036854775807 := by have := HQ.out; omega
  clear q1
  have hcase : (((last : Int) != 0) = false) ∨ (((last : Int) != 0) = true ∧ IntKind.i64.wrap ((last : Int) + 1) = (q : Int)) := by
    rcases hlast with h | ⟨h, h1⟩
    · exact .inl h
    · exact .inr ⟨h, by rw [← h1]; exact IntWalk.i64_in _ q2⟩
  clear q2 hlast
  rcases hcase with hl0 | ⟨hl0, hl1⟩
  all_goals go_wp2_with fail
  · go_region
    have hbV : Below w1.heap.size w1 w1.drew := (Below.refl _ _).drew
    generalize w1.drew = V at *
    have v0 := (World.cell?_of_block (a := ⟨B, 0, none⟩) (hbV.block B HRL.out.2)).trans g0
    have v1 := (World.cell?_of_block (a := ⟨B, 1, none⟩) (hbV.block B HRL.out.2)).trans g1
    have HV := Lib.hid hbV
    clear hbV g0 g1 g3 hl0 s0
    go_wp2_with fail
    refine (C2.out _ HV.out).mono ?_
    rintro e w2 ⟨rfl, h1, h2⟩
    have H1 := Lib.hid h1
    have H2 : Hid (Stay X w w2) := Lib.hid ⟨Nat.le_trans HS1.out.1 (Nat.le_trans HV.out.size h2.1), fun b hb => ((h2.2 b (.inl (.inl hb))).trans (HV.out.block b (HA1.out.lt (.inl (.inl hb))))).trans (HS1.out.2 b (.inl hb))⟩
    have hB2 := ((h2.2 B (.inl (.inr rfl))).trans (HV.out.block B HRL.out.2)).trans HN1.out
    have a2 : w2.cell? ⟨B, 2, none⟩ = some (.int .i64 sz) := (logO_cells hB2).2.2.1
    have a3 : w2.cell? ⟨B, 3, none⟩ = some (.int .i64 last) := (logO_cells hB2).2.2.2.1
    have a5 : w2.cell? ⟨w.heap.size, 0, none⟩ = some (.int .i64 q) := (World.cell?_of_block (a := ⟨w.heap.size, 0, none⟩) ((h2.2 w.heap.size (.inr rfl)).trans (HV.out.block _ HRL.out.1))).trans HS0.out
    have a6 : ∀ v, (w2.setCell ⟨B, 2, none⟩ v).cell? ⟨w.heap.size, 0, none⟩ = some (.int .i64 q) := fun v => (World.cell?_of_block (a := ⟨w.heap.size, 0, none⟩) (heap_setCell_other _ _ _ _ (fun e => h16.out e.symm))).trans a5
    have k2 : w2.frozen? ⟨B, 2, none⟩ = false := Lib.frozen_of_heap hB2 2
    have k3 : ∀ v, (w2.setCell ⟨B, 2, none⟩ v).frozen? ⟨B, 3, none⟩ = false := fun v => Lib.frozen_of_heap (setCell_at hB2 v) 3
    have HP : Hid (AppP w0 A B X w l s k b Z q (.returned (.int .i64 0)) ((w2.setCell ⟨B, 2, none⟩ (.int .i64 Z)).setCell ⟨B, 3, none⟩ (.int .i64 q))) := Lib.hid
      ⟨rfl, logO_set hB2 _ _, (H1.out.set B 2 (.int .i64 Z) (.inl (.inr rfl)) H0.out).set B 3 (.int .i64 q) (.inl (.inr rfl)) H0.out |>.add (Below.refl _ _) (fun y hy => .inl (.inl hy)), (H2.out.set HX.out 2 _).set HX.out 3 _⟩
    have wz := WZ.out
    clear h1 h2 hB2 C2 v0 v1
    go_wp2_with fail
    go_ret
    exact HP.out
  · go_quiet (fail)
    have hbV : Below w1.heap.size w1 (w1.drewN nq) := below_drewN (Below.refl _ _) _
    generalize w1.drewN nq = V at *
    have v0 := (World.cell?_of_block (a := ⟨B, 0, none⟩) (hbV.block B HRL.out.2)).trans g0
    have v1 := (World.cell?_of_block (a := ⟨B, 1, none⟩) (hbV.block B HRL.out.2)).trans g1
    have HV := Lib.hid hbV
    clear hbV g0 g1 g3 hl0 hl1 s0
    go_wp2_with fail
    refine (C2.out _ HV.out).mono ?_
    rintro e w2 ⟨rfl, h1, h2⟩
    have H1 := Lib.hid h1
    have H2 : Hid (Stay X w w2) := Lib.hid ⟨Nat.le_trans HS1.out.1 (Nat.le_trans HV.out.size h2.1), fun b hb => ((h2.2 b (.inl (.inl hb))).trans (HV.out.block b (HA1.out.lt (.inl (.inl hb))))).trans (HS1.out.2 b (.inl hb))⟩
    have hB2 := ((h2.2 B (.inl (.inr rfl))).trans (HV.out.block B HRL.out.2)).trans HN1.out
    have a2 : w2.cell? ⟨B, 2, none⟩ = some (.int .i64 sz) := (logO_cells hB2).2.2.1
    have a3 : w2.cell? ⟨B, 3, none⟩ = some (.int .i64 last) := (logO_cells hB2).2.2.2.1
    have a5 : w2.cell? ⟨w.heap.size, 0, none⟩ = some (.int .i64 q) := (World.cell?_of_block (a := ⟨w.heap.size, 0, none⟩) ((h2.2 w.heap.size (.inr rfl)).trans (HV.out.block _ HRL.out.1))).trans HS0.out
    have a6 : ∀ v, (w2.setCell ⟨B, 2, none⟩ v).cell? ⟨w.heap.size, 0, none⟩ = some (.int .i64 q) := fun v => (World.cell?_of_block (a := ⟨w.heap.size, 0, none⟩) (heap_setCell_other _ _ _ _ (fun e => h16.out e.symm))).trans a5
    have k2 : w2.frozen? ⟨B, 2, none⟩ = false := Lib.frozen_of_heap hB2 2
    have k3 : ∀ v, (w2.setCell ⟨B, 2, none⟩ v).frozen? ⟨B, 3, none⟩ = false := fun v => Lib.frozen_of_heap (setCell_at hB2 v) 3
    have HP : Hid (AppP w0 A B X w l s k b Z q (.returned (.int .i64 0)) ((w2.setCell ⟨B, 2, none⟩ (.int .i64 Z)).setCell ⟨B, 3, none⟩ (.int .i64 q))) := Lib.hid
      ⟨rfl, logO_set hB2 _ _, (H1.out.set B 2 (.int .i64 Z) (.inl (.inr rfl)) H0.out).set B 3 (.int .i64 q) (.inl (.inr rfl)) H0.out |>.add (Below.refl _ _) (fun y hy => .inl (.inl hy)), (H2.out.set HX.out 2 _).set HX.out 3 _⟩
    have wz := WZ.out
    clear h1 h2 hB2 C2 v0 v1
    go_wp2_with fail
    go_ret
    exact HP.out
set_option maxHeartbeats 2000000 in
theorem lsync_ok {l : List UInt8} {s : Nat} {k : Int} {sz last : Int} (h : AtB w0 A (st l s k) (fun y => X y ∨ y = B) w) (hB : w.heap[B]? = some (logO A sz last false)) (hk : 0 ≤ k ∧ k ≤ 4611686018427387904) :
    Calls Tryd.prog 9 #[.pointer (some ⟨B, 0, none⟩)] w fun e w' => e = .returned (.int .i64 0) ∧ AtB w0 A (st l l.length (k + 1)) (fun y => X y ∨ y = B) w' ∧ Stay (fun y => X y ∨ y = B) w w' := by
  obtain ⟨b0, b1, b2, b3, b4⟩ := logO_cells hB
  have HF : Hid (fV A = .agg #[.pointer (some ⟨A, 0, none⟩), .string nL]) := Lib.hid rfl
  have C := Lib.hid (fsync_any h hk)
  rw [HF.out] at C
  clear h hB hk
  go_enter Tryd.func9, Tryd.ntmps9
  go_wp2_with fail
  refine C.out.mono ?_
  rintro e w2 ⟨rfl, h1, h2⟩
  have H1 := Lib.hid h1
  have H2 := Lib.hid h2
  clear h1 h2 b0 b1 b2 b3 b4
  go_wp2_with fail
  go_ret
  exact ⟨rfl, H1.out, H2.out⟩
end
end Go.Proofs.YtifghohaelmjjabDoor
