/- Append and Sync of a log on whatever disk, whatever faults it plans. Conditions: those that each theorem names. -/
import Derived.Test.YtioidkbpjkcjeaaGreatDoorWlOd
namespace Go.Proofs.YtioidkbpjkcjeaaGreatDoor
set_option linter.unusedVariables false
open Go Go.RowKit Dk
namespace Wl
/-- What an Append does: the answer, and the log behind it. -/
structure LogR where
  err : Int
  size : Nat
  last : Nat
  br : Bool
  D : DSt
def appD (D : DSt) (sz last : Nat) (br : Bool) (q : Int) (b : ByteArray) : LogR :=
  if br = true then ⟨122, sz, last, br, D⟩ else
  if q < 1 ∨ 4503599627370496 < q ∨ 16777216 < b.size then ⟨1, sz, last, br, D⟩ else
  if last ≠ 0 ∧ q ≠ (last : Int) + 1 then ⟨1, sz, last, br, D⟩ else
  if (writeD D nL (frB q.toNat b)).2.1 ≠ 0 then ⟨(writeD D nL (frB q.toNat b)).2.1, sz, last, true, (writeD D nL (frB q.toNat b)).2.2⟩ else
  ⟨0, sz + (20 + b.size), q.toNat, false, (writeD D nL (frB q.toNat b)).2.2⟩
def syncL (D : DSt) (sz last : Nat) (br : Bool) : LogR :=
  if br = true then ⟨122, sz, last, br, D⟩ else
  if (syncD D nL).1 ≠ 0 then ⟨(syncD D nL).1, sz, last, true, (syncD D nL).2⟩ else ⟨0, sz, last, false, (syncD D nL).2⟩
/-- What they leave in memory. -/
def LogQ (w0 : World) (A B : Nat) (X : Nat → Prop) (w : World) (R : LogR) (e : Ending) (w' : World) : Prop :=
  e = .returned (.int .i64 R.err) ∧ w'.heap[B]? = some (logO A (R.size : Int) (R.last : Int) R.br) ∧ AtB w0 A R.D (fun y => X y ∨ y = B) w' ∧ Stay X w w'
theorem logO_brk {w : World} {A B : Nat} {sz last : Int} {br : Bool} (h : w.heap[B]? = some (logO A sz last br)) (x : Bool) :
    (w.setCell ⟨B, 4, none⟩ (.bool x)).heap[B]? = some (logO A sz last x) := setCell_at h _
section
variable {w0 w : World} {A B : Nat} {X : Nat → Prop} {D : DSt} {c k : Nat}
set_option maxHeartbeats 1000000 in
theorem lsync_d {sz last : Nat} {br : Bool} (h : AtB w0 A D (fun y => X y ∨ y = B) w) (b : DBd c k D) (hk : k ≤ 1048577) (hX : ¬ X B) (h0 : w0.heap.size ≤ B) (hB : w.heap[B]? = some (logO A (sz : Int) (last : Int) br)) (G : Hd w0) :
    Calls Tryz.prog 19 #[.pointer (some ⟨B, 0, none⟩)] w (LogQ w0 A B X w (syncL D sz last br)) := by
  obtain ⟨b0, b1, b2, b3, b4⟩ := logO_cells hB
  have HF : Hid (fV A = .agg #[.pointer (some ⟨A, 0, none⟩), .string nL]) := Lib.hid rfl
  have C := Lib.hid (fsync_d h b hk)
  rw [HF.out] at C
  have HA := Lib.hid h
  have HN := Lib.hid hB
  have HX := Lib.hid hX
  have H0 := Lib.hid h0
  have HNU : Hid (∀ (n : Int) (W : World), Below w0.heap.size w0 W → Calls Tryz.prog 32 #[.iface 128 (.int .i64 n)] W fun e w' => e = .returned (.int .i64 n) ∧ Below W.heap.size W w') := Lib.hid (fun n W hW => number_rf n W (G.below hW))
  unfold syncL
  clear h hB b hk hX h0 G
  generalize syncD D nL = S at *
  cases br
  · rw [if_neg (by decide)]
    by_cases hS : S.1 = 0
    · rw [hS, ansV_ok] at C
      rw [if_neg (by simpa using hS)]
      clear hS
      go_enter Tryz.func19, Tryz.ntmps19
      go_wp2_with fail
      refine C.out.mono ?_
      rintro e w2 ⟨rfl, h1, h2⟩
      have HP : Hid (LogQ w0 A B X w ⟨0, sz, last, false, S.2⟩ (.returned (.int .i64 0)) w2) := Lib.hid ⟨rfl, (h2.2 B (.inr rfl)).trans HN.out, h1, h2.1, fun y hy => h2.2 y (.inl hy)⟩
      clear h1 h2 b0 b1 b2 b3 b4
      go_wp2_with fail
      go_ret
      exact HP.out
    · have HO : Hid (ansV S.1 = .iface 128 (.int .i64 S.1)) := Lib.hid (ansV_no hS)
      rw [HO.out] at C
      rw [if_pos hS]
      clear hS
      go_enter Tryz.func19, Tryz.ntmps19
      go_wp2_with fail
      refine C.out.mono ?_
      rintro e w2 ⟨rfl, h1, h2⟩
      have hB2 := (h2.2 B (.inr rfl)).trans HN.out
      have a4 : w2.cell? ⟨B, 4, none⟩ = some (.bool false) := (logO_cells hB2).2.2.2.2
      have k4 : w2.frozen? ⟨B, 4, none⟩ = false := Lib.frozen_of_heap hB2 4
      have H1 := Lib.hid (h1.set B 4 (.bool true) (.inr rfl) H0.out)
      have H2 : Hid (Stay X w (w2.setCell ⟨B, 4, none⟩ (.bool true))) := Lib.hid (Stay.set (⟨h2.1, fun y hy => h2.2 y (.inl hy)⟩ : Stay X w w2) HX.out 4 _)
      have H3 := Lib.hid (logO_brk hB2 true)
      clear h1 h2 hB2 b0 b1 b2 b3 b4
      go_wp2_with fail
      generalize w2.setCell ⟨B, 4, none⟩ (.bool true) = W at *
      refine (HNU.out _ _ H1.out.below).mono ?_
      rintro e w4 ⟨rfl, hb4⟩
      have HP : Hid (LogQ w0 A B X w ⟨S.1, sz, last, true, S.2⟩ (.returned (.int .i64 S.1)) w4) := Lib.hid
        ⟨rfl, (hb4.block B (H1.out.lt (.inr rfl))).trans H3.out, H1.out.others hb4, H2.out.trans ⟨hb4.size, fun y hy => hb4.block y (H1.out.lt (.inl hy))⟩⟩
      clear hb4 a4 k4
      go_wp2_with fail
      go_ret
      exact HP.out
  · rw [if_pos rfl]
    go_enter Tryz.func19, Tryz.ntmps19
    go_wp2_with fail
    go_ret
    exact ⟨rfl, HN.out, HA.out, Stay.refl _ _⟩
set_option maxHeartbeats 4000000 in
set_option maxRecDepth 100000 in
theorem lappend_d {sz last : Nat} {br : Bool} (q : Int) (b : ByteArray) (h : AtB w0 A D (fun y => X y ∨ y = B) w) (bd : DBd c k D) (hk : k ≤ 1048577) (hc : c ≤ 4194304) (hX : ¬ X B) (h0 : w0.heap.size ≤ B) (hB : w.heap[B]? = some (logO A (sz : Int) (last : Int) br)) (G : Hd w0)
    (hb : b.size + 20 ≤ c) (hq : -9223372036854775808 ≤ q ∧ q ≤ 9223372036854775807) (hla : last ≤ 4503599627370496) (hsz : sz ≤ 140737488351232) :
    Calls Tryz.prog 17 #[.pointer (some ⟨B, 0, none⟩), .agg #[.int .i64 q, .string b]] w (LogQ w0 A B X w (appD D sz last br q b)) := by
  obtain ⟨b0, b1, b2, b3, b4⟩ := logO_cells hB
  obtain ⟨r0, r1⟩ := rec_cells w q b
  have hlt : B < w.heap.size := h.lt (.inr rfl)
  have hbn : Below w.heap.size w (w.alloc (.cells #[.int .i64 q, .string b] 62)) := below_new w _
  have HA := Lib.hid (h.add hbn (Y := fun y => (X y ∨ y = B) ∨ y = w.heap.size) (fun y hy => hy.imp id (fun e => by subst e; exact ⟨Nat.le_refl _, by simp⟩)))
  have HS : Hid (Stay (fun y => X y ∨ y = B) w (w.alloc (.cells #[.int .i64 q, .string b] 62))) := Lib.hid (stay_below h hbn)
  have HF : Hid (fV A = .agg #[.pointer (some ⟨A, 0, none⟩), .string nL]) := Lib.hid rfl
  have d0 := (World.cell?_of_block (a := ⟨B, 0, none⟩) (HS.out.2 B (.inr rfl))).trans b0
  have d1 := (World.cell?_of_block (a := ⟨B, 1, none⟩) (HS.out.2 B (.inr rfl))).trans b1
  have d3 := (World.cell?_of_block (a := ⟨B, 3, none⟩) (HS.out.2 B (.inr rfl))).trans b3
  have d4 := (World.cell?_of_block (a := ⟨B, 4, none⟩) (HS.out.2 B (.inr rfl))).trans b4
  have HN := Lib.hid ((HS.out.2 B (.inr rfl)).trans hB)
  have HR : Hid (w.heap.size < (w.alloc (.cells #[.int .i64 q, .string b] 62)).heap.size) := Lib.hid (by simp)
  have HX := Lib.hid hX
  have H0 := Lib.hid h0
  have HNU : Hid (∀ (n : Int) (W : World), Below w0.heap.size w0 W → Calls Tryz.prog 32 #[.iface 128 (.int .i64 n)] W fun e w' => e = .returned (.int .i64 n) ∧ Below W.heap.size W w') := Lib.hid (fun n W hW => number_rf n W (G.below hW))
  have CW := Lib.hid (fun (Y : Nat → Prop) (W : World) (hW : AtB w0 A D Y W) (t : ByteArray) (ht : t.size ≤ c) => fwrite_d hW bd hk hc t ht)
  rw [HF.out] at CW
  have HBC := Lib.hid hb
  have HSZ := Lib.hid hsz
  have hbm : b.size ≤ maxLen := by unfold maxLen; omega
  have h16 : Hid (B ≠ w.heap.size) := Lib.hid (Nat.ne_of_lt hlt)
  unfold appD
  cases br
  case true =>
    rw [if_pos rfl]
    clear h hbn hk hc hX h0 hB b0 b1 b2 b3 b4 CW HNU bd G hb hsz
    go_enter Tryz.func17, Tryz.ntmps17
    go_wp2_with fail
    go_ret
    exact ⟨rfl, HN.out, HA.out.add (Below.refl _ _) (fun y hy => .inl (.inl hy)), HS.out.1, fun y hy => HS.out.2 y (.inl hy)⟩
  rw [if_neg (by decide)]
  by_cases hbad : q < 1 ∨ 4503599627370496 < q ∨ 16777216 < b.size
  · rw [if_pos hbad]
    have CF := Lib.hid (fun W => frame_no q b W hbad hbm)
    clear h hbn hk hc hX h0 hB b0 b1 b2 b3 b4 CW HNU bd G hb hsz hbad hq
    go_enter Tryz.func17, Tryz.ntmps17
    go_wp2_with fail
    generalize w.alloc (.cells #[.int .i64 q, .string b] 62) = W at *
    refine (CF.out _).mono ?_
    rintro e w1 ⟨rfl, hb1⟩
    have HP : Hid (LogQ w0 A B X w ⟨1, sz, last, false, D⟩ (.returned (.int .i64 1)) w1) := Lib.hid
      ⟨rfl, (hb1.block B (HA.out.lt (.inl (.inr rfl)))).trans HN.out, (HA.out.others hb1).add (Below.refl _ _) (fun y hy => .inl (.inl hy)), Nat.le_trans HS.out.1 hb1.size, fun y hy => (hb1.block y (HA.out.lt (.inl (.inl hy)))).trans (HS.out.2 y (.inl hy))⟩
    clear hb1 d0 d1 d3 d4 r0 r1
    go_wp2_with fail
    go_ret
    exact HP.out
  rw [if_neg hbad]
  obtain ⟨n, rfl⟩ : ∃ n : Nat, q = (n : Int) := ⟨q.toNat, by omega⟩
  have hn : 1 ≤ n ∧ n ≤ 4503599627370496 ∧ b.size ≤ 16777216 := by omega
  have CF := Lib.hid (fun W => frame_yes n b W hn.1 hn.2.1 hn.2.2)
  rw [show (n : Int).toNat = n from rfl]
  have HFZ : Hid ((frB n b).size = 20 + b.size) := Lib.hid (frB_size n b)
  have hw1 : IntKind.i64.wrap ((last : Int) + 1) = (last : Int) + 1 := IntWalk.i64_in _ (by omega)
  have HNB := Lib.hid hn
  clear h hbn hk hc hX h0 hB b0 b1 b2 b3 b4 bd G hb hsz hbad
  by_cases hseq : last ≠ 0 ∧ (n : Int) ≠ (last : Int) + 1
  · rw [if_pos hseq]
    have hs1 : ((last : Int) != 0) = true := by simpa using hseq.1
    have hs2 : ((n : Int) != (last : Int) + 1) = true := by simpa using hseq.2
    have HP0 : Hid True := Lib.hid trivial
    clear hseq hn hq hla CW HNU
    go_enter Tryz.func17, Tryz.ntmps17
    go_wp2_with fail
    generalize w.alloc (.cells #[.int .i64 (n : Int), .string b] 62) = W at *
    refine (CF.out _).mono ?_
    rintro e w1 ⟨rfl, hb1⟩
    have HBL : Hid (B < W.heap.size) := Lib.hid (HA.out.lt (.inl (.inr rfl)))
    have g0 := (World.cell?_of_block (a := ⟨B, 0, none⟩) (hb1.block B HBL.out)).trans d0
    have g1 := (World.cell?_of_block (a := ⟨B, 1, none⟩) (hb1.block B HBL.out)).trans d1
    have g3 := (World.cell?_of_block (a := ⟨B, 3, none⟩) (hb1.block B HBL.out)).trans d3
    have s0 := (World.cell?_of_block (a := ⟨w.heap.size, 0, none⟩) (hb1.block w.heap.size HR.out)).trans r0
    have HP : Hid (∀ V, Below w1.heap.size w1 V → LogQ w0 A B X w ⟨1, sz, last, false, D⟩ (.returned (.int .i64 1)) V) := Lib.hid (fun V hV => by
      have hb2 : Below W.heap.size W V := hb1.trans (hV.mono hb1.size)
      exact ⟨rfl, (hb2.block B (HA.out.lt (.inl (.inr rfl)))).trans HN.out, (HA.out.others hb2).add (Below.refl _ _) (fun y hy => .inl (.inl hy)), Nat.le_trans HS.out.1 hb2.size, fun y hy => (hb2.block y (HA.out.lt (.inl (.inl hy)))).trans (HS.out.2 y (.inl hy))⟩)
    clear hb1 d0 d1 d3 d4 r0 r1
    go_wp2_with fail
    go_quiet (fail)
    go_wp2_with fail
    go_ret
    exact HP.out _ (below_drewN (Below.refl _ _) _)
  rw [if_neg hseq]
  have CWN := Lib.hid (fun (Y : Nat → Prop) (W : World) (hW : AtB w0 A D Y W) => CW.out Y W hW (frB n b) (by have := HFZ.out; have := HBC.out; omega))
  clear CW
  generalize writeD D nL (frB n b) = O at *
  have hcase : (((last : Int) != 0) = false) ∨ (((last : Int) != 0) = true ∧ (n : Int) = (last : Int) + 1) := by
    by_cases e0 : last = 0
    · exact .inl (by simp [e0])
    · exact .inr ⟨by simpa using e0, by omega⟩
  have WZ := Lib.hid (wrI (x := (sz : Int) + ((frB n b).size : Int)) (y := ((sz + (20 + b.size) : Nat) : Int)) (by rw [HFZ.out]; omega) (by have := HSZ.out; have := hn; omega))
  clear hseq hn hq hla
  have hS : O.2.1 = 0 ∨ O.2.1 ≠ 0 := by omega
  rcases hcase with hl0 | ⟨hl0, hl1⟩ <;> rcases hS with hO | hO
  · rw [hO, ansV_ok] at CWN
    rw [if_neg (by simpa using hO)]
    clear hO
    go_enter Tryz.func17, Tryz.ntmps17
    go_wp2_with fail
    generalize w.alloc (.cells #[.int .i64 (n : Int), .string b] 62) = W at *
    refine (CF.out _).mono ?_
    rintro e w1 ⟨rfl, hb1⟩
    have HBL : Hid (B < W.heap.size) := Lib.hid (HA.out.lt (.inl (.inr rfl)))
    have g0 := (World.cell?_of_block (a := ⟨B, 0, none⟩) (hb1.block B HBL.out)).trans d0
    have g1 := (World.cell?_of_block (a := ⟨B, 1, none⟩) (hb1.block B HBL.out)).trans d1
    have g3 := (World.cell?_of_block (a := ⟨B, 3, none⟩) (hb1.block B HBL.out)).trans d3
    have s0 := (World.cell?_of_block (a := ⟨w.heap.size, 0, none⟩) (hb1.block w.heap.size HR.out)).trans r0
    have HN1 := Lib.hid ((hb1.block B HBL.out).trans HN.out)
    have HA1 := Lib.hid (HA.out.others hb1)
    have HS1 : Hid (Stay (fun y => X y ∨ y = B) w w1) := Lib.hid (HS.out.trans ⟨hb1.size, fun b hb => hb1.block b (HA.out.lt (.inl hb))⟩)
    have HS0 := Lib.hid s0
    have HRL : Hid (w.heap.size < w1.heap.size ∧ B < w1.heap.size) := Lib.hid ⟨Nat.lt_of_lt_of_le HR.out hb1.size, Nat.lt_of_lt_of_le HBL.out hb1.size⟩
    clear hb1 d0 d1 d3 d4 r0 r1 CF
    go_wp2_with fail
    go_region
    have hbV : Below w1.heap.size w1 w1.drew := (Below.refl _ _).drew
    generalize w1.drew = V at *
    have v0 := (World.cell?_of_block (a := ⟨B, 0, none⟩) (hbV.block B HRL.out.2)).trans g0
    have v1 := (World.cell?_of_block (a := ⟨B, 1, none⟩) (hbV.block B HRL.out.2)).trans g1
    have HV := Lib.hid hbV
    have CW2 := Lib.hid (CWN.out _ _ (HA1.out.others hbV))
    clear hbV g0 g1 g3 s0 CWN
    go_wp2_with fail
    refine CW2.out.mono ?_
    rintro e w2 ⟨rfl, h1, h2⟩
    have H1 := Lib.hid h1
    have H2 : Hid (Stay X w w2) := Lib.hid ⟨Nat.le_trans HS1.out.1 (Nat.le_trans HV.out.size h2.1), fun b hb => ((h2.2 b (.inl (.inl hb))).trans (HV.out.block b (HA1.out.lt (.inl (.inl hb))))).trans (HS1.out.2 b (.inl hb))⟩
    have hB2 := ((h2.2 B (.inl (.inr rfl))).trans (HV.out.block B HRL.out.2)).trans HN1.out
    have a2 : w2.cell? ⟨B, 2, none⟩ = some (.int .i64 sz) := (logO_cells hB2).2.2.1
    have a3 : w2.cell? ⟨B, 3, none⟩ = some (.int .i64 last) := (logO_cells hB2).2.2.2.1
    have a5 : w2.cell? ⟨w.heap.size, 0, none⟩ = some (.int .i64 n) := (World.cell?_of_block (a := ⟨w.heap.size, 0, none⟩) ((h2.2 w.heap.size (.inr rfl)).trans (HV.out.block _ HRL.out.1))).trans HS0.out
    have a6 : ∀ v, (w2.setCell ⟨B, 2, none⟩ v).cell? ⟨w.heap.size, 0, none⟩ = some (.int .i64 n) := fun v => (World.cell?_of_block (a := ⟨w.heap.size, 0, none⟩) (heap_setCell_other _ _ _ _ (fun e => h16.out e.symm))).trans a5
    have k2 : w2.frozen? ⟨B, 2, none⟩ = false := Lib.frozen_of_heap hB2 2
    have k3 : ∀ v, (w2.setCell ⟨B, 2, none⟩ v).frozen? ⟨B, 3, none⟩ = false := fun v => Lib.frozen_of_heap (setCell_at hB2 v) 3
    have HP : Hid (LogQ w0 A B X w ⟨0, sz + (20 + b.size), n, false, O.2.2⟩ (.returned (.int .i64 0)) ((w2.setCell ⟨B, 2, none⟩ (.int .i64 ((sz + (20 + b.size) : Nat) : Int))).setCell ⟨B, 3, none⟩ (.int .i64 n))) := Lib.hid
      ⟨rfl, logO_set hB2 _ _, (H1.out.set B 2 (.int .i64 ((sz + (20 + b.size) : Nat) : Int)) (.inl (.inr rfl)) H0.out).set B 3 (.int .i64 n) (.inl (.inr rfl)) H0.out |>.add (Below.refl _ _) (fun y hy => .inl (.inl hy)), (H2.out.set HX.out 2 _).set HX.out 3 _⟩
    have wz := WZ.out
    clear h1 h2 hB2 v0 v1 CW2
    generalize ((sz + (20 + b.size) : Nat) : Int) = Z at *
    go_wp2_with fail
    go_ret
    exact HP.out
  · have HO : Hid (ansV O.2.1 = .iface 128 (.int .i64 O.2.1)) := Lib.hid (ansV_no hO)
    rw [HO.out] at CWN
    rw [if_pos hO]
    go_enter Tryz.func17, Tryz.ntmps17
    go_wp2_with fail
    generalize w.alloc (.cells #[.int .i64 (n : Int), .string b] 62) = W at *
    refine (CF.out _).mono ?_
    rintro e w1 ⟨rfl, hb1⟩
    have HBL : Hid (B < W.heap.size) := Lib.hid (HA.out.lt (.inl (.inr rfl)))
    have g0 := (World.cell?_of_block (a := ⟨B, 0, none⟩) (hb1.block B HBL.out)).trans d0
    have g1 := (World.cell?_of_block (a := ⟨B, 1, none⟩) (hb1.block B HBL.out)).trans d1
    have g3 := (World.cell?_of_block (a := ⟨B, 3, none⟩) (hb1.block B HBL.out)).trans d3
    have s0 := (World.cell?_of_block (a := ⟨w.heap.size, 0, none⟩) (hb1.block w.heap.size HR.out)).trans r0
    have HN1 := Lib.hid ((hb1.block B HBL.out).trans HN.out)
    have HA1 := Lib.hid (HA.out.others hb1)
    have HS1 : Hid (Stay (fun y => X y ∨ y = B) w w1) := Lib.hid (HS.out.trans ⟨hb1.size, fun b hb => hb1.block b (HA.out.lt (.inl hb))⟩)
    have HS0 := Lib.hid s0
    have HRL : Hid (w.heap.size < w1.heap.size ∧ B < w1.heap.size) := Lib.hid ⟨Nat.lt_of_lt_of_le HR.out hb1.size, Nat.lt_of_lt_of_le HBL.out hb1.size⟩
    clear hb1 d0 d1 d3 d4 r0 r1 CF
    go_wp2_with fail
    go_region
    have hbV : Below w1.heap.size w1 w1.drew := (Below.refl _ _).drew
    generalize w1.drew = V at *
    have v0 := (World.cell?_of_block (a := ⟨B, 0, none⟩) (hbV.block B HRL.out.2)).trans g0
    have v1 := (World.cell?_of_block (a := ⟨B, 1, none⟩) (hbV.block B HRL.out.2)).trans g1
    have HV := Lib.hid hbV
    have CW2 := Lib.hid (CWN.out _ _ (HA1.out.others hbV))
    clear hbV g0 g1 g3 s0 CWN
    go_wp2_with fail
    refine CW2.out.mono ?_
    rintro e w2 ⟨rfl, h1, h2⟩
    have H1 := Lib.hid h1
    have H2 : Hid (Stay X w w2) := Lib.hid ⟨Nat.le_trans HS1.out.1 (Nat.le_trans HV.out.size h2.1), fun b hb => ((h2.2 b (.inl (.inl hb))).trans (HV.out.block b (HA1.out.lt (.inl (.inl hb))))).trans (HS1.out.2 b (.inl hb))⟩
    have hB2 := ((h2.2 B (.inl (.inr rfl))).trans (HV.out.block B HRL.out.2)).trans HN1.out
    have a4 : w2.cell? ⟨B, 4, none⟩ = some (.bool false) := (logO_cells hB2).2.2.2.2
    have k4 : w2.frozen? ⟨B, 4, none⟩ = false := Lib.frozen_of_heap hB2 4
    have H3 := Lib.hid (h1.set B 4 (.bool true) (.inl (.inr rfl)) H0.out)
    have H4 := Lib.hid (H2.out.set HX.out 4 (.bool true))
    have H5 := Lib.hid (logO_brk hB2 true)
    clear h1 h2 hB2 v0 v1 CW2
    go_wp2_with fail
    generalize w2.setCell ⟨B, 4, none⟩ (.bool true) = U at *
    refine (HNU.out _ _ H3.out.below).mono ?_
    rintro e w4 ⟨rfl, hb4⟩
    have HP : Hid (LogQ w0 A B X w ⟨O.2.1, sz, last, true, O.2.2⟩ (.returned (.int .i64 O.2.1)) w4) := Lib.hid
      ⟨rfl, (hb4.block B (H3.out.lt (.inl (.inr rfl)))).trans H5.out, (H3.out.others hb4).add (Below.refl _ _) (fun y hy => .inl (.inl hy)), H4.out.trans ⟨hb4.size, fun y hy => hb4.block y (H3.out.lt (.inl (.inl hy)))⟩⟩
    clear hb4 a4 k4
    go_wp2_with fail
    go_ret
    exact HP.out
  · have hl2 : ((n : Int) != (last : Int) + 1) = false := by simp [hl1]
    clear hl1
    rw [hO, ansV_ok] at CWN
    rw [if_neg (by simpa using hO)]
    clear hO
    go_enter Tryz.func17, Tryz.ntmps17
    go_wp2_with fail
    generalize w.alloc (.cells #[.int .i64 (n : Int), .string b] 62) = W at *
    refine (CF.out _).mono ?_
    rintro e w1 ⟨rfl, hb1⟩
    have HBL : Hid (B < W.heap.size) := Lib.hid (HA.out.lt (.inl (.inr rfl)))
    have g0 := (World.cell?_of_block (a := ⟨B, 0, none⟩) (hb1.block B HBL.out)).trans d0
    have g1 := (World.cell?_of_block (a := ⟨B, 1, none⟩) (hb1.block B HBL.out)).trans d1
    have g3 := (World.cell?_of_block (a := ⟨B, 3, none⟩) (hb1.block B HBL.out)).trans d3
    have s0 := (World.cell?_of_block (a := ⟨w.heap.size, 0, none⟩) (hb1.block w.heap.size HR.out)).trans r0
    have HN1 := Lib.hid ((hb1.block B HBL.out).trans HN.out)
    have HA1 := Lib.hid (HA.out.others hb1)
    have HS1 : Hid (Stay (fun y => X y ∨ y = B) w w1) := Lib.hid (HS.out.trans ⟨hb1.size, fun b hb => hb1.block b (HA.out.lt (.inl hb))⟩)
    have HS0 := Lib.hid s0
    have HRL : Hid (w.heap.size < w1.heap.size ∧ B < w1.heap.size) := Lib.hid ⟨Nat.lt_of_lt_of_le HR.out hb1.size, Nat.lt_of_lt_of_le HBL.out hb1.size⟩
    clear hb1 d0 d1 d3 d4 r0 r1 CF
    go_wp2_with fail
    go_quiet (fail)
    have hbV : Below w1.heap.size w1 (w1.drewN nq) := below_drewN (Below.refl _ _) _
    generalize w1.drewN nq = V at *
    have v0 := (World.cell?_of_block (a := ⟨B, 0, none⟩) (hbV.block B HRL.out.2)).trans g0
    have v1 := (World.cell?_of_block (a := ⟨B, 1, none⟩) (hbV.block B HRL.out.2)).trans g1
    have HV := Lib.hid hbV
    have CW2 := Lib.hid (CWN.out _ _ (HA1.out.others hbV))
    clear hbV g0 g1 g3 s0 CWN
    go_wp2_with fail
    refine CW2.out.mono ?_
    rintro e w2 ⟨rfl, h1, h2⟩
    have H1 := Lib.hid h1
    have H2 : Hid (Stay X w w2) := Lib.hid ⟨Nat.le_trans HS1.out.1 (Nat.le_trans HV.out.size h2.1), fun b hb => ((h2.2 b (.inl (.inl hb))).trans (HV.out.block b (HA1.out.lt (.inl (.inl hb))))).trans (HS1.out.2 b (.inl hb))⟩
    have hB2 := ((h2.2 B (.inl (.inr rfl))).trans (HV.out.block B HRL.out.2)).trans HN1.out
    have a2 : w2.cell? ⟨B, 2, none⟩ = some (.int .i64 sz) := (logO_cells hB2).2.2.1
    have a3 : w2.cell? ⟨B, 3, none⟩ = some (.int .i64 last) := (logO_cells hB2).2.2.2.1
    have a5 : w2.cell? ⟨w.heap.size, 0, none⟩ = some (.int .i64 n) := (World.cell?_of_block (a := ⟨w.heap.size, 0, none⟩) ((h2.2 w.heap.size (.inr rfl)).trans (HV.out.block _ HRL.out.1))).trans HS0.out
    have a6 : ∀ v, (w2.setCell ⟨B, 2, none⟩ v).cell? ⟨w.heap.size, 0, none⟩ = some (.int .i64 n) := fun v => (World.cell?_of_block (a := ⟨w.heap.size, 0, none⟩) (heap_setCell_other _ _ _ _ (fun e => h16.out e.symm))).trans a5
    have k2 : w2.frozen? ⟨B, 2, none⟩ = false := Lib.frozen_of_heap hB2 2
    have k3 : ∀ v, (w2.setCell ⟨B, 2, none⟩ v).frozen? ⟨B, 3, none⟩ = false := fun v => Lib.frozen_of_heap (setCell_at hB2 v) 3
    have HP : Hid (LogQ w0 A B X w ⟨0, sz + (20 + b.size), n, false, O.2.2⟩ (.returned (.int .i64 0)) ((w2.setCell ⟨B, 2, none⟩ (.int .i64 ((sz + (20 + b.size) : Nat) : Int))).setCell ⟨B, 3, none⟩ (.int .i64 n))) := Lib.hid
      ⟨rfl, logO_set hB2 _ _, (H1.out.set B 2 (.int .i64 ((sz + (20 + b.size) : Nat) : Int)) (.inl (.inr rfl)) H0.out).set B 3 (.int .i64 n) (.inl (.inr rfl)) H0.out |>.add (Below.refl _ _) (fun y hy => .inl (.inl hy)), (H2.out.set HX.out 2 _).set HX.out 3 _⟩
    have wz := WZ.out
    clear h1 h2 hB2 v0 v1 CW2
    generalize ((sz + (20 + b.size) : Nat) : Int) = Z at *
    go_wp2_with fail
    go_ret
    exact HP.out
  · have hl2 : ((n : Int) != (last : Int) + 1) = false := by simp [hl1]
    clear hl1
    have HO : Hid (ansV O.2.1 = .iface 128 (.int .i64 O.2.1)) := Lib.hid (ansV_no hO)
    rw [HO.out] at CWN
    rw [if_pos hO]
    go_enter Tryz.func17, Tryz.ntmps17
    go_wp2_with fail
    generalize w.alloc (.cells #[.int .i64 (n : Int), .string b] 62) = W at *
    refine (CF.out _).mono ?_
    rintro e w1 ⟨rfl, hb1⟩
    have HBL : Hid (B < W.heap.size) := Lib.hid (HA.out.lt (.inl (.inr rfl)))
    have g0 := (World.cell?_of_block (a := ⟨B, 0, none⟩) (hb1.block B HBL.out)).trans d0
    have g1 := (World.cell?_of_block (a := ⟨B, 1, none⟩) (hb1.block B HBL.out)).trans d1
    have g3 := (World.cell?_of_block (a := ⟨B, 3, none⟩) (hb1.block B HBL.out)).trans d3
    have s0 := (World.cell?_of_block (a := ⟨w.heap.size, 0, none⟩) (hb1.block w.heap.size HR.out)).trans r0
    have HN1 := Lib.hid ((hb1.block B HBL.out).trans HN.out)
    have HA1 := Lib.hid (HA.out.others hb1)
    have HS1 : Hid (Stay (fun y => X y ∨ y = B) w w1) := Lib.hid (HS.out.trans ⟨hb1.size, fun b hb => hb1.block b (HA.out.lt (.inl hb))⟩)
    have HS0 := Lib.hid s0
    have HRL : Hid (w.heap.size < w1.heap.size ∧ B < w1.heap.size) := Lib.hid ⟨Nat.lt_of_lt_of_le HR.out hb1.size, Nat.lt_of_lt_of_le HBL.out hb1.size⟩
    clear hb1 d0 d1 d3 d4 r0 r1 CF
    go_wp2_with fail
    go_quiet (fail)
    have hbV : Below w1.heap.size w1 (w1.drewN nq) := below_drewN (Below.refl _ _) _
    generalize w1.drewN nq = V at *
    have v0 := (World.cell?_of_block (a := ⟨B, 0, none⟩) (hbV.block B HRL.out.2)).trans g0
    have v1 := (World.cell?_of_block (a := ⟨B, 1, none⟩) (hbV.block B HRL.out.2)).trans g1
    have HV := Lib.hid hbV
    have CW2 := Lib.hid (CWN.out _ _ (HA1.out.others hbV))
    clear hbV g0 g1 g3 s0 CWN
    go_wp2_with fail
    refine CW2.out.mono ?_
    rintro e w2 ⟨rfl, h1, h2⟩
    have H1 := Lib.hid h1
    have H2 : Hid (Stay X w w2) := Lib.hid ⟨Nat.le_trans HS1.out.1 (Nat.le_trans HV.out.size h2.1), fun b hb => ((h2.2 b (.inl (.inl hb))).trans (HV.out.block b (HA1.out.lt (.inl (.inl hb))))).trans (HS1.out.2 b (.inl hb))⟩
    have hB2 := ((h2.2 B (.inl (.inr rfl))).trans (HV.out.block B HRL.out.2)).trans HN1.out
    have a4 : w2.cell? ⟨B, 4, none⟩ = some (.bool false) := (logO_cells hB2).2.2.2.2
    have k4 : w2.frozen? ⟨B, 4, none⟩ = false := Lib.frozen_of_heap hB2 4
    have H3 := Lib.hid (h1.set B 4 (.bool true) (.inl (.inr rfl)) H0.out)
    have H4 := Lib.hid (H2.out.set HX.out 4 (.bool true))
    have H5 := Lib.hid (logO_brk hB2 true)
    clear h1 h2 hB2 v0 v1 CW2
    go_wp2_with fail
    generalize w2.setCell ⟨B, 4, none⟩ (.bool true) = U at *
    refine (HNU.out _ _ H3.out.below).mono ?_
    rintro e w4 ⟨rfl, hb4⟩
    have HP : Hid (LogQ w0 A B X w ⟨O.2.1, sz, last, true, O.2.2⟩ (.returned (.int .i64 O.2.1)) w4) := Lib.hid
      ⟨rfl, (hb4.block B (H3.out.lt (.inl (.inr rfl)))).trans H5.out, (H3.out.others hb4).add (Below.refl _ _) (fun y hy => .inl (.inl hy)), H4.out.trans ⟨hb4.size, fun y hy => hb4.block y (H3.out.lt (.inl (.inl hy)))⟩⟩
    clear hb4 a4 k4
    go_wp2_with fail
    go_ret
    exact HP.out
end
end Wl
end Go.Proofs.YtioidkbpjkcjeaaGreatDoor
