/- The document's Append and Sync of a log over whatever disk of its own. Conditions: those that each theorem names. -/
import Derived.Test.YtioidkbpjkcjeaaGreatDoorWlRe
import Derived.Test.YtioidkbpjkcjeaaGreatDoorWlPp
import Derived.Test.YtioidkbpjkcjeaaGreatDoorWlB
namespace Go.Proofs.YtioidkbpjkcjeaaGreatDoor
set_option linter.unusedVariables false
open Go Go.RowKit Dk
namespace Wl
theorem rlogO_cells {w : World} {B L : Nat} {sz last : Int} {br : Bool} (h : w.heap[L]? = some (rlogO B sz last br)) :
    w.cell? ⟨L, 0, none⟩ = some (.pointer (some ⟨B, 0, none⟩)) ∧ w.cell? ⟨L, 1, none⟩ = some (.string nL) ∧ w.cell? ⟨L, 2, none⟩ = some (.int .i64 last) ∧ w.cell? ⟨L, 3, none⟩ = some (.int .i64 sz) ∧ w.cell? ⟨L, 4, none⟩ = some (.bool br) :=
  ⟨by rw [cell_of_row _ _ _ _ _ _ h]; rfl, by rw [cell_of_row _ _ _ _ _ _ h]; rfl, by rw [cell_of_row _ _ _ _ _ _ h]; rfl, by rw [cell_of_row _ _ _ _ _ _ h]; rfl, by rw [cell_of_row _ _ _ _ _ _ h]; rfl⟩
theorem rlogO_set {w : World} {B L : Nat} {sz last : Int} {br : Bool} (h : w.heap[L]? = some (rlogO B sz last br)) (x y : Int) :
    ((w.setCell ⟨L, 2, none⟩ (.int .i64 y)).setCell ⟨L, 3, none⟩ (.int .i64 x)).heap[L]? = some (rlogO B x y br) := setCell_at (setCell_at h _) _
theorem rlogO_brk {w : World} {B L : Nat} {sz last : Int} {br : Bool} (h : w.heap[L]? = some (rlogO B sz last br)) (x : Bool) :
    (w.setCell ⟨L, 4, none⟩ (.bool x)).heap[L]? = some (rlogO B sz last x) := setCell_at h _
/-- The document's disk behind an Append, a Sync. -/
def appR (D : DSt) (M : RSt) (last : Nat) (br : Bool) (q : Int) (b : ByteArray) : RSt :=
  if br = true then M else if q < 1 ∨ 4503599627370496 < q ∨ 16777216 < b.size then M else if last ≠ 0 ∧ q ≠ (last : Int) + 1 then M else (writeR M nL (frB q.toNat b)).2.2
def syncLR (M : RSt) (br : Bool) : RSt := if br = true then M else (syncR M nL).2
def RLogQ (w0 : World) (A B L : Nat) (Y : Nat → Prop) (w : World) (D' : DSt) (R : LogR) (M' : RSt) (e : Ending) (w' : World) : Prop :=
  e = .returned (.int .i64 R.err) ∧ w'.heap[L]? = some (rlogO B (R.size : Int) (R.last : Int) R.br) ∧ Two w0 A B (fun y => Y y ∨ y = L) D' M' w' ∧ Stay Y w w'
section
variable {w0 w : World} {A B L : Nat} {Y : Nat → Prop} {D D' : DSt} {M : RSt} {φ : Nat → Nat} {c k : Nat}
/-- Both disks behind an Append, a Sync: alike, within their bounds. -/
theorem two_app (tw : Dk.Twin φ D M) (b : DBd c k D) (m : MBd c k M) (sz last : Nat) (br : Bool) (q : Int) (t : ByteArray) (ht : t.size + 20 ≤ c) :
    (∃ ψ, Dk.Twin ψ (appD D sz last br q t).D (appR D M last br q t)) ∧ DBd c (k + 1) (appD D sz last br q t).D ∧ MBd c (k + 1) (appR D M last br q t) := by
  unfold appD appR
  by_cases h1 : br = true
  · rw [if_pos h1, if_pos h1]; exact ⟨⟨φ, tw⟩, b.more, m.more⟩
  rw [if_neg h1, if_neg h1]
  by_cases h2 : q < 1 ∨ 4503599627370496 < q ∨ 16777216 < t.size
  · rw [if_pos h2, if_pos h2]; exact ⟨⟨φ, tw⟩, b.more, m.more⟩
  rw [if_neg h2, if_neg h2]
  by_cases h3 : last ≠ 0 ∧ q ≠ (last : Int) + 1
  · rw [if_pos h3, if_pos h3]; exact ⟨⟨φ, tw⟩, b.more, m.more⟩
  rw [if_neg h3, if_neg h3]
  have hf : (frB q.toNat t).size ≤ c := by rw [frB_size]; omega
  obtain ⟨b1, m1⟩ := bd_write b m tw nL (frB q.toNat t) hf
  obtain ⟨-, -, ψ, t1⟩ := two_write tw b.plan nL (frB q.toNat t)
  split
  · exact ⟨⟨ψ, t1⟩, b1, m1⟩
  · exact ⟨⟨ψ, t1⟩, b1, m1⟩
theorem two_syncL (tw : Dk.Twin φ D M) (b : DBd c k D) (m : MBd c k M) (sz last : Nat) (br : Bool) :
    Dk.Twin φ (syncL D sz last br).D (syncLR M br) ∧ DBd c (k + 1) (syncL D sz last br).D ∧ MBd c (k + 1) (syncLR M br) := by
  unfold syncL syncLR
  by_cases h1 : br = true
  · rw [if_pos h1, if_pos h1]; exact ⟨tw, b.more, m.more⟩
  rw [if_neg h1, if_neg h1]
  obtain ⟨b1, m1⟩ := bd_sync b m tw nL
  split
  · exact ⟨(two_sync tw nL).2, b1, m1⟩
  · exact ⟨(two_sync tw nL).2, b1, m1⟩
set_option maxHeartbeats 1000000 in
theorem rsync_l {sz last : Nat} {br : Bool} (h : Two w0 A B (fun y => Y y ∨ y = L) D' M w) (tw : Dk.Twin φ D M) (b : DBd c k D) (m : MBd c k M) (hk : k ≤ 1048577) (hX : ¬ Y L) (h0 : w0.heap.size ≤ L) (hB : w.heap[L]? = some (rlogO B (sz : Int) (last : Int) br)) :
    Calls Tryz.prog 20 #[.pointer (some ⟨L, 0, none⟩)] w (RLogQ w0 A B L Y w D' (syncL D sz last br) (syncLR M br)) := by
  obtain ⟨b0, b1, b2, b3, b4⟩ := rlogO_cells hB
  have hbV : Below w.heap.size w w.drew := (Below.refl _ _).drew
  have C := Lib.hid ((h.others hbV).rSync b m tw hk nL)
  have SV : Hid (Stay (fun y => Y y ∨ y = L) w w.drew) := Lib.hid (stay_two h hbV)
  have e0 := (World.cell?_of_block (a := ⟨L, 0, none⟩) (SV.out.2 L (.inr rfl))).trans b0
  have e1 := (World.cell?_of_block (a := ⟨L, 1, none⟩) (SV.out.2 L (.inr rfl))).trans b1
  have HA := Lib.hid h
  have HN := Lib.hid hB
  have HX := Lib.hid hX
  have H0 := Lib.hid h0
  unfold syncL syncLR
  clear h hB b hk hX h0 m tw hbV
  generalize syncD D nL = S at *
  generalize (syncR M nL).2 = M1 at *
  cases br
  · rw [if_neg (by decide : ¬ (false = true)), if_neg (by decide : ¬ (false = true))]
    by_cases hS : S.1 = 0
    · rw [hS] at C
      rw [if_neg (by simpa using hS)]
      clear hS
      go_enter Tryz.func20, Tryz.ntmps20
      go_wp2_with fail
      go_region_with (go_at_call 39; refine C.out.mono ?_; rintro e w2 ⟨rfl, h1, h2⟩)
      all_goals
        have HP : Hid (RLogQ w0 A B L Y w D' ⟨0, sz, last, false, S.2⟩ M1 (.returned (.int .i64 0)) w2) := Lib.hid ⟨rfl, ((SV.out.trans h2).2 L (.inr rfl)).trans HN.out, h1, (SV.out.trans h2).1, fun y hy => (SV.out.trans h2).2 y (.inl hy)⟩
        first
          | (go_wp2_with fail; go_ret; exact HP.out)
          | (go_ret; exact HP.out)
    · have hx1 : (S.1 != 0) = true := by simpa using hS
      rw [if_pos hS]
      clear hS
      go_enter Tryz.func20, Tryz.ntmps20
      go_wp2_with fail
      go_region_with (go_at_call 39; refine C.out.mono ?_; rintro e w2 ⟨rfl, h1, h2⟩; have a4 : w2.cell? ⟨L, 4, none⟩ = some (.bool false) := (rlogO_cells (((SV.out.trans h2).2 L (.inr rfl)).trans HN.out)).2.2.2.2; have k4 : w2.frozen? ⟨L, 4, none⟩ = false := Lib.frozen_of_heap (((SV.out.trans h2).2 L (.inr rfl)).trans HN.out) 4)
      all_goals
        have hB2 := ((SV.out.trans h2).2 L (.inr rfl)).trans HN.out
        have HP : Hid (RLogQ w0 A B L Y w D' ⟨S.1, sz, last, true, S.2⟩ M1 (.returned (.int .i64 S.1)) (w2.setCell ⟨L, 4, none⟩ (.bool true))) := Lib.hid
          ⟨rfl, rlogO_brk hB2 true, h1.set L 4 (.bool true) (.inr rfl) H0.out, Stay.set (⟨(SV.out.trans h2).1, fun y hy => (SV.out.trans h2).2 y (.inl hy)⟩ : Stay Y w w2) HX.out 4 _⟩
        first
          | (go_wp2_with fail; go_ret; exact HP.out)
          | (go_ret; exact HP.out)
  · rw [if_pos rfl, if_pos rfl]
    go_enter Tryz.func20, Tryz.ntmps20
    go_wp2_with fail
    go_ret
    exact ⟨rfl, HN.out, HA.out, Stay.refl _ _⟩
set_option maxHeartbeats 4000000 in
set_option maxRecDepth 100000 in
theorem rappend_l {sz last : Nat} {br : Bool} (q : Int) (b : ByteArray) (h : Two w0 A B (fun y => Y y ∨ y = L) D' M w) (tw : Dk.Twin φ D M) (bd : DBd c k D) (m : MBd c k M) (hk : k ≤ 1048577) (hc : c ≤ 4194304) (hX : ¬ Y L) (h0 : w0.heap.size ≤ L) (hB : w.heap[L]? = some (rlogO B (sz : Int) (last : Int) br))
    (hb : b.size + 20 ≤ c) (hq : -9223372036854775808 ≤ q ∧ q ≤ 9223372036854775807) (hla : last ≤ 4503599627370496) (hsz : sz ≤ 140737488351232) :
    Calls Tryz.prog 18 #[.pointer (some ⟨L, 0, none⟩), .agg #[.int .i64 q, .string b]] w (RLogQ w0 A B L Y w D' (appD D sz last br q b) (appR D M last br q b)) := by
  obtain ⟨b0, b1, b2, b3, b4⟩ := rlogO_cells hB
  obtain ⟨r0, r1⟩ := rec_cells w q b
  have hlt : L < w.heap.size := h.lt (.inr rfl)
  have hbn : Below w.heap.size w (w.alloc (.cells #[.int .i64 q, .string b] 62)) := below_new w _
  have HA := Lib.hid (h.add hbn (Y' := fun y => (Y y ∨ y = L) ∨ y = w.heap.size) (fun y hy => hy.imp id (fun e => by subst e; exact ⟨Nat.le_refl _, by simp⟩)))
  have HS : Hid (Stay (fun y => Y y ∨ y = L) w (w.alloc (.cells #[.int .i64 q, .string b] 62))) := Lib.hid (stay_two h hbn)
  have d0 := (World.cell?_of_block (a := ⟨L, 0, none⟩) (HS.out.2 L (.inr rfl))).trans b0
  have d1 := (World.cell?_of_block (a := ⟨L, 1, none⟩) (HS.out.2 L (.inr rfl))).trans b1
  have d2 := (World.cell?_of_block (a := ⟨L, 2, none⟩) (HS.out.2 L (.inr rfl))).trans b2
  have d4 := (World.cell?_of_block (a := ⟨L, 4, none⟩) (HS.out.2 L (.inr rfl))).trans b4
  have HN := Lib.hid ((HS.out.2 L (.inr rfl)).trans hB)
  have HR : Hid (w.heap.size < (w.alloc (.cells #[.int .i64 q, .string b] 62)).heap.size) := Lib.hid (by simp)
  have HX := Lib.hid hX
  have H0 := Lib.hid h0
  have CW := Lib.hid (fun (Z : Nat → Prop) (W : World) (hW : Two w0 A B Z D' M W) (t : ByteArray) (ht : t.size ≤ c) => hW.rWrite bd m tw hk hc nL t ht)
  have HBC := Lib.hid hb
  have HSZ := Lib.hid hsz
  have hbm : b.size ≤ maxLen := by unfold maxLen; omega
  have h16 : Hid (L ≠ w.heap.size) := Lib.hid (Nat.ne_of_lt hlt)
  unfold appD appR
  cases br
  case true =>
    rw [if_pos rfl, if_pos rfl]
    clear h hbn hk hc hX h0 hB b0 b1 b2 b3 b4 CW bd hb hsz m tw
    go_enter Tryz.func18, Tryz.ntmps18
    go_wp2_with fail
    go_ret
    exact ⟨rfl, HN.out, HA.out.add (Below.refl _ _) (fun y hy => .inl (.inl hy)), HS.out.1, fun y hy => HS.out.2 y (.inl hy)⟩
  rw [if_neg (by decide : ¬ (false = true)), if_neg (by decide : ¬ (false = true))]
  by_cases hbad : q < 1 ∨ 4503599627370496 < q ∨ 16777216 < b.size
  · rw [if_pos hbad, if_pos hbad]
    have CF := Lib.hid (fun W => rframe_no q b W hbad hbm)
    clear h hbn hk hc hX h0 hB b0 b1 b2 b3 b4 CW bd hb hsz hbad hq m tw
    go_enter Tryz.func18, Tryz.ntmps18
    go_wp2_with fail
    generalize w.alloc (.cells #[.int .i64 q, .string b] 62) = W at *
    refine (CF.out _).mono ?_
    rintro e w1 ⟨rfl, hb1⟩
    have HP : Hid (RLogQ w0 A B L Y w D' ⟨1, sz, last, false, D⟩ M (.returned (.int .i64 1)) w1) := Lib.hid
      ⟨rfl, (hb1.block L (HA.out.lt (.inl (.inr rfl)))).trans HN.out, (HA.out.others hb1).add (Below.refl _ _) (fun y hy => .inl (.inl hy)), Nat.le_trans HS.out.1 hb1.size, fun y hy => (hb1.block y (HA.out.lt (.inl (.inl hy)))).trans (HS.out.2 y (.inl hy))⟩
    clear hb1 d0 d1 d2 d4 r0 r1
    go_wp2_with fail
    go_ret
    exact HP.out
  rw [if_neg hbad, if_neg hbad]
  obtain ⟨n, rfl⟩ : ∃ n : Nat, q = (n : Int) := ⟨q.toNat, by omega⟩
  have hn : 1 ≤ n ∧ n ≤ 4503599627370496 ∧ b.size ≤ 16777216 := by omega
  have CF := Lib.hid (fun W => rframe_yes n b W hn.1 hn.2.1 hn.2.2)
  rw [show (n : Int).toNat = n from rfl]
  have HFZ : Hid ((frB n b).size = 20 + b.size) := Lib.hid (frB_size n b)
  have hw1 : IntKind.i64.wrap ((last : Int) + 1) = (last : Int) + 1 := IntWalk.i64_in _ (by omega)
  clear h hbn hk hc hX h0 hB b0 b1 b2 b3 b4 bd hb hsz hbad m tw
  by_cases hseq : last ≠ 0 ∧ (n : Int) ≠ (last : Int) + 1
  · rw [if_pos hseq, if_pos hseq]
    have hs1 : decide ((0 : Int) < (last : Int)) = true := decide_eq_true (by have := hseq.1; omega)
    have hs3 : (0 : Int) < (last : Int) := of_decide_eq_true hs1
    have hs4 : 0 < last := by omega
    have hs5 : decide (0 < last) = true := decide_eq_true hs4
    have hs2 : ((n : Int) != (last : Int) + 1) = true := by simpa using hseq.2
    clear hseq hn hq hla CW
    go_enter Tryz.func18, Tryz.ntmps18
    go_wp2_with fail
    generalize w.alloc (.cells #[.int .i64 (n : Int), .string b] 62) = W at *
    refine (CF.out _).mono ?_
    rintro e w1 ⟨rfl, hb1⟩
    have HBL : Hid (L < W.heap.size) := Lib.hid (HA.out.lt (.inl (.inr rfl)))
    have g0 := (World.cell?_of_block (a := ⟨L, 0, none⟩) (hb1.block L HBL.out)).trans d0
    have g1 := (World.cell?_of_block (a := ⟨L, 1, none⟩) (hb1.block L HBL.out)).trans d1
    have g2 := (World.cell?_of_block (a := ⟨L, 2, none⟩) (hb1.block L HBL.out)).trans d2
    have s0 := (World.cell?_of_block (a := ⟨w.heap.size, 0, none⟩) (hb1.block w.heap.size HR.out)).trans r0
    have HP : Hid (∀ V, Below w1.heap.size w1 V → RLogQ w0 A B L Y w D' ⟨1, sz, last, false, D⟩ M (.returned (.int .i64 1)) V) := Lib.hid (fun V hV => by
      have hb2 : Below W.heap.size W V := hb1.trans (hV.mono hb1.size)
      exact ⟨rfl, (hb2.block L (HA.out.lt (.inl (.inr rfl)))).trans HN.out, (HA.out.others hb2).add (Below.refl _ _) (fun y hy => .inl (.inl hy)), Nat.le_trans HS.out.1 hb2.size, fun y hy => (hb2.block y (HA.out.lt (.inl (.inl hy)))).trans (HS.out.2 y (.inl hy))⟩)
    clear hb1 d0 d1 d2 d4 r0 r1
    go_wp2_with fail
    go_quiet (fail)
    go_wp2_with fail
    go_ret
    exact HP.out _ (below_drewN (Below.refl _ _) _)
  rw [if_neg hseq, if_neg hseq]
  have CWN := Lib.hid (fun (Z : Nat → Prop) (W : World) (hW : Two w0 A B Z D' M W) => CW.out Z W hW (frB n b) (by have := HFZ.out; have := HBC.out; omega))
  clear CW
  generalize writeD D nL (frB n b) = O at *
  generalize (writeR M nL (frB n b)).2.2 = M1 at *
  have hcase : ((decide ((0 : Int) < (last : Int)) = false ∧ ¬ ((0 : Int) < (last : Int))) ∧ decide (0 < last) = false ∧ ¬ (0 < last)) ∨ ((decide ((0 : Int) < (last : Int)) = true ∧ (0 : Int) < (last : Int) ∧ (n : Int) = (last : Int) + 1) ∧ decide (0 < last) = true ∧ 0 < last) := by
    by_cases e0 : last = 0
    · exact .inl ⟨⟨decide_eq_false (by omega), by omega⟩, decide_eq_false (by omega), by omega⟩
    · exact .inr ⟨⟨decide_eq_true (by omega), by omega, by omega⟩, decide_eq_true (by omega), by omega⟩
  have WZ := Lib.hid (wrI (x := (sz : Int) + ((frB n b).size : Int)) (y := ((sz + (20 + b.size) : Nat) : Int)) (by rw [HFZ.out]; omega) (by have := HSZ.out; have := hn; omega))
  clear hseq hn hq hla
  generalize hZ : sz + (20 + b.size) = Z at *
  clear hZ
  have hS : O.2.1 = 0 ∨ O.2.1 ≠ 0 := by omega
  rcases hcase with ⟨⟨hl0, hl3⟩, hl4, hl5⟩ | ⟨⟨hl0, hl3, hl1⟩, hl4, hl5⟩ <;> rcases hS with hO | hO
  · rw [hO] at CWN
    rw [if_neg (by simpa using hO)]
    clear hO
    go_enter Tryz.func18, Tryz.ntmps18
    go_wp2_with fail
    generalize w.alloc (.cells #[.int .i64 (n : Int), .string b] 62) = W at *
    refine (CF.out _).mono ?_
    rintro e w1 ⟨rfl, hb1⟩
    have HBL : Hid (L < W.heap.size) := Lib.hid (HA.out.lt (.inl (.inr rfl)))
    have g0 := (World.cell?_of_block (a := ⟨L, 0, none⟩) (hb1.block L HBL.out)).trans d0
    have g1 := (World.cell?_of_block (a := ⟨L, 1, none⟩) (hb1.block L HBL.out)).trans d1
    have g2 := (World.cell?_of_block (a := ⟨L, 2, none⟩) (hb1.block L HBL.out)).trans d2
    have s0 := (World.cell?_of_block (a := ⟨w.heap.size, 0, none⟩) (hb1.block w.heap.size HR.out)).trans r0
    have HN1 := Lib.hid ((hb1.block L HBL.out).trans HN.out)
    have HA1 := Lib.hid (HA.out.others hb1)
    have HS1 : Hid (Stay (fun y => Y y ∨ y = L) w w1) := Lib.hid (HS.out.trans ⟨hb1.size, fun b hb => hb1.block b (HA.out.lt (.inl hb))⟩)
    have HS0 := Lib.hid s0
    have HRL : Hid (w.heap.size < w1.heap.size ∧ L < w1.heap.size) := Lib.hid ⟨Nat.lt_of_lt_of_le HR.out hb1.size, Nat.lt_of_lt_of_le HBL.out hb1.size⟩
    clear hb1 d0 d1 d2 d4 r0 r1 CF
    go_wp2_with fail
    go_region
    have hbV : Below w1.heap.size w1 w1.drew := (Below.refl _ _).drew
    generalize w1.drew = V at *
    have v0 := (World.cell?_of_block (a := ⟨L, 0, none⟩) (hbV.block L HRL.out.2)).trans g0
    have v1 := (World.cell?_of_block (a := ⟨L, 1, none⟩) (hbV.block L HRL.out.2)).trans g1
    have HV := Lib.hid (hbV.trans ((Below.refl V.heap.size V).drew.mono hbV.size))
    have CW2 := Lib.hid (CWN.out _ _ (HA1.out.others HV.out))
    have u0 := (World.cell?_of_block (a := ⟨L, 0, none⟩) (HV.out.block L HRL.out.2)).trans g0
    have u1 := (World.cell?_of_block (a := ⟨L, 1, none⟩) (HV.out.block L HRL.out.2)).trans g1
    clear hbV g0 g1 g2 s0 CWN
    go_wp2_with fail
    go_region_with (go_at_call 35; refine CW2.out.mono ?_; rintro e w2 ⟨rfl, h1, h2⟩; have hB2 := ((h2.2 L (.inl (.inr rfl))).trans (HV.out.block L HRL.out.2)).trans HN1.out; have a2 : w2.cell? ⟨L, 2, none⟩ = some (.int .i64 last) := (rlogO_cells hB2).2.2.1; have a3 : ∀ v, (w2.setCell ⟨L, 2, none⟩ v).cell? ⟨L, 3, none⟩ = some (.int .i64 sz) := fun v => (by rw [cell_of_row _ _ _ _ _ _ (setCell_at hB2 v)]; rfl); have a5 : w2.cell? ⟨w.heap.size, 0, none⟩ = some (.int .i64 n) := (World.cell?_of_block (a := ⟨w.heap.size, 0, none⟩) ((h2.2 w.heap.size (.inr rfl)).trans (HV.out.block _ HRL.out.1))).trans HS0.out; have k2 : w2.frozen? ⟨L, 2, none⟩ = false := Lib.frozen_of_heap hB2 2; have k3 : ∀ v, (w2.setCell ⟨L, 2, none⟩ v).frozen? ⟨L, 3, none⟩ = false := fun v => Lib.frozen_of_heap (setCell_at hB2 v) 3; have wz := WZ.out)
    all_goals
      have H1 := Lib.hid h1
      have H2 : Hid (Stay Y w w2) := Lib.hid ⟨Nat.le_trans HS1.out.1 (Nat.le_trans HV.out.size h2.1), fun b hb => ((h2.2 b (.inl (.inl hb))).trans (HV.out.block b (HA1.out.lt (.inl (.inl hb))))).trans (HS1.out.2 b (.inl hb))⟩
      have HP : Hid (RLogQ w0 A B L Y w D' ⟨0, Z, n, false, O.2.2⟩ M1 (.returned (.int .i64 0)) ((w2.setCell ⟨L, 2, none⟩ (.int .i64 n)).setCell ⟨L, 3, none⟩ (.int .i64 (Z : Int)))) := Lib.hid
        ⟨rfl, rlogO_set hB2 _ _, (H1.out.set L 2 (.int .i64 n) (.inl (.inr rfl)) H0.out).set L 3 (.int .i64 (Z : Int)) (.inl (.inr rfl)) H0.out |>.add (Below.refl _ _) (fun y hy => .inl (.inl hy)), (H2.out.set HX.out 2 _).set HX.out 3 _⟩
      first
        | (go_wp2_with fail; go_ret; exact HP.out)
        | (go_ret; exact HP.out)
  · have hx1 : (O.2.1 != 0) = true := by simpa using hO
    rw [if_pos hO]
    clear hO
    go_enter Tryz.func18, Tryz.ntmps18
    go_wp2_with fail
    generalize w.alloc (.cells #[.int .i64 (n : Int), .string b] 62) = W at *
    refine (CF.out _).mono ?_
    rintro e w1 ⟨rfl, hb1⟩
    have HBL : Hid (L < W.heap.size) := Lib.hid (HA.out.lt (.inl (.inr rfl)))
    have g0 := (World.cell?_of_block (a := ⟨L, 0, none⟩) (hb1.block L HBL.out)).trans d0
    have g1 := (World.cell?_of_block (a := ⟨L, 1, none⟩) (hb1.block L HBL.out)).trans d1
    have g2 := (World.cell?_of_block (a := ⟨L, 2, none⟩) (hb1.block L HBL.out)).trans d2
    have s0 := (World.cell?_of_block (a := ⟨w.heap.size, 0, none⟩) (hb1.block w.heap.size HR.out)).trans r0
    have HN1 := Lib.hid ((hb1.block L HBL.out).trans HN.out)
    have HA1 := Lib.hid (HA.out.others hb1)
    have HS1 : Hid (Stay (fun y => Y y ∨ y = L) w w1) := Lib.hid (HS.out.trans ⟨hb1.size, fun b hb => hb1.block b (HA.out.lt (.inl hb))⟩)
    have HS0 := Lib.hid s0
    have HRL : Hid (w.heap.size < w1.heap.size ∧ L < w1.heap.size) := Lib.hid ⟨Nat.lt_of_lt_of_le HR.out hb1.size, Nat.lt_of_lt_of_le HBL.out hb1.size⟩
    clear hb1 d0 d1 d2 d4 r0 r1 CF
    go_wp2_with fail
    go_region
    have hbV : Below w1.heap.size w1 w1.drew := (Below.refl _ _).drew
    generalize w1.drew = V at *
    have v0 := (World.cell?_of_block (a := ⟨L, 0, none⟩) (hbV.block L HRL.out.2)).trans g0
    have v1 := (World.cell?_of_block (a := ⟨L, 1, none⟩) (hbV.block L HRL.out.2)).trans g1
    have HV := Lib.hid (hbV.trans ((Below.refl V.heap.size V).drew.mono hbV.size))
    have CW2 := Lib.hid (CWN.out _ _ (HA1.out.others HV.out))
    have u0 := (World.cell?_of_block (a := ⟨L, 0, none⟩) (HV.out.block L HRL.out.2)).trans g0
    have u1 := (World.cell?_of_block (a := ⟨L, 1, none⟩) (HV.out.block L HRL.out.2)).trans g1
    clear hbV g0 g1 g2 s0 CWN
    go_wp2_with fail
    go_region_with (go_at_call 35; refine CW2.out.mono ?_; rintro e w2 ⟨rfl, h1, h2⟩; have hB2 := ((h2.2 L (.inl (.inr rfl))).trans (HV.out.block L HRL.out.2)).trans HN1.out; have a4 : w2.cell? ⟨L, 4, none⟩ = some (.bool false) := (rlogO_cells hB2).2.2.2.2; have k4 : w2.frozen? ⟨L, 4, none⟩ = false := Lib.frozen_of_heap hB2 4)
    all_goals
      have H1 := Lib.hid h1
      have H2 : Hid (Stay Y w w2) := Lib.hid ⟨Nat.le_trans HS1.out.1 (Nat.le_trans HV.out.size h2.1), fun b hb => ((h2.2 b (.inl (.inl hb))).trans (HV.out.block b (HA1.out.lt (.inl (.inl hb))))).trans (HS1.out.2 b (.inl hb))⟩
      have HP : Hid (RLogQ w0 A B L Y w D' ⟨O.2.1, sz, last, true, O.2.2⟩ M1 (.returned (.int .i64 O.2.1)) (w2.setCell ⟨L, 4, none⟩ (.bool true))) := Lib.hid
        ⟨rfl, rlogO_brk hB2 true, (H1.out.set L 4 (.bool true) (.inl (.inr rfl)) H0.out).add (Below.refl _ _) (fun y hy => .inl (.inl hy)), H2.out.set HX.out 4 (.bool true)⟩
      first
        | (go_wp2_with fail; go_ret; exact HP.out)
        | (go_ret; exact HP.out)
  · have hl2 : ((n : Int) != (last : Int) + 1) = false := by simp [hl1]
    clear hl1
    rw [hO] at CWN
    rw [if_neg (by simpa using hO)]
    clear hO
    go_enter Tryz.func18, Tryz.ntmps18
    go_wp2_with fail
    generalize w.alloc (.cells #[.int .i64 (n : Int), .string b] 62) = W at *
    refine (CF.out _).mono ?_
    rintro e w1 ⟨rfl, hb1⟩
    have HBL : Hid (L < W.heap.size) := Lib.hid (HA.out.lt (.inl (.inr rfl)))
    have g0 := (World.cell?_of_block (a := ⟨L, 0, none⟩) (hb1.block L HBL.out)).trans d0
    have g1 := (World.cell?_of_block (a := ⟨L, 1, none⟩) (hb1.block L HBL.out)).trans d1
    have g2 := (World.cell?_of_block (a := ⟨L, 2, none⟩) (hb1.block L HBL.out)).trans d2
    have s0 := (World.cell?_of_block (a := ⟨w.heap.size, 0, none⟩) (hb1.block w.heap.size HR.out)).trans r0
    have HN1 := Lib.hid ((hb1.block L HBL.out).trans HN.out)
    have HA1 := Lib.hid (HA.out.others hb1)
    have HS1 : Hid (Stay (fun y => Y y ∨ y = L) w w1) := Lib.hid (HS.out.trans ⟨hb1.size, fun b hb => hb1.block b (HA.out.lt (.inl hb))⟩)
    have HS0 := Lib.hid s0
    have HRL : Hid (w.heap.size < w1.heap.size ∧ L < w1.heap.size) := Lib.hid ⟨Nat.lt_of_lt_of_le HR.out hb1.size, Nat.lt_of_lt_of_le HBL.out hb1.size⟩
    clear hb1 d0 d1 d2 d4 r0 r1 CF
    go_wp2_with fail
    go_quiet (fail)
    have hbV : Below w1.heap.size w1 (w1.drewN nq) := below_drewN (Below.refl _ _) _
    generalize w1.drewN nq = V at *
    have v0 := (World.cell?_of_block (a := ⟨L, 0, none⟩) (hbV.block L HRL.out.2)).trans g0
    have v1 := (World.cell?_of_block (a := ⟨L, 1, none⟩) (hbV.block L HRL.out.2)).trans g1
    have HV := Lib.hid (hbV.trans ((Below.refl V.heap.size V).drew.mono hbV.size))
    have CW2 := Lib.hid (CWN.out _ _ (HA1.out.others HV.out))
    have u0 := (World.cell?_of_block (a := ⟨L, 0, none⟩) (HV.out.block L HRL.out.2)).trans g0
    have u1 := (World.cell?_of_block (a := ⟨L, 1, none⟩) (HV.out.block L HRL.out.2)).trans g1
    clear hbV g0 g1 g2 s0 CWN
    go_wp2_with fail
    go_region_with (go_at_call 35; refine CW2.out.mono ?_; rintro e w2 ⟨rfl, h1, h2⟩; have hB2 := ((h2.2 L (.inl (.inr rfl))).trans (HV.out.block L HRL.out.2)).trans HN1.out; have a2 : w2.cell? ⟨L, 2, none⟩ = some (.int .i64 last) := (rlogO_cells hB2).2.2.1; have a3 : ∀ v, (w2.setCell ⟨L, 2, none⟩ v).cell? ⟨L, 3, none⟩ = some (.int .i64 sz) := fun v => (by rw [cell_of_row _ _ _ _ _ _ (setCell_at hB2 v)]; rfl); have a5 : w2.cell? ⟨w.heap.size, 0, none⟩ = some (.int .i64 n) := (World.cell?_of_block (a := ⟨w.heap.size, 0, none⟩) ((h2.2 w.heap.size (.inr rfl)).trans (HV.out.block _ HRL.out.1))).trans HS0.out; have k2 : w2.frozen? ⟨L, 2, none⟩ = false := Lib.frozen_of_heap hB2 2; have k3 : ∀ v, (w2.setCell ⟨L, 2, none⟩ v).frozen? ⟨L, 3, none⟩ = false := fun v => Lib.frozen_of_heap (setCell_at hB2 v) 3; have wz := WZ.out)
    all_goals
      have H1 := Lib.hid h1
      have H2 : Hid (Stay Y w w2) := Lib.hid ⟨Nat.le_trans HS1.out.1 (Nat.le_trans HV.out.size h2.1), fun b hb => ((h2.2 b (.inl (.inl hb))).trans (HV.out.block b (HA1.out.lt (.inl (.inl hb))))).trans (HS1.out.2 b (.inl hb))⟩
      have HP : Hid (RLogQ w0 A B L Y w D' ⟨0, Z, n, false, O.2.2⟩ M1 (.returned (.int .i64 0)) ((w2.setCell ⟨L, 2, none⟩ (.int .i64 n)).setCell ⟨L, 3, none⟩ (.int .i64 (Z : Int)))) := Lib.hid
        ⟨rfl, rlogO_set hB2 _ _, (H1.out.set L 2 (.int .i64 n) (.inl (.inr rfl)) H0.out).set L 3 (.int .i64 (Z : Int)) (.inl (.inr rfl)) H0.out |>.add (Below.refl _ _) (fun y hy => .inl (.inl hy)), (H2.out.set HX.out 2 _).set HX.out 3 _⟩
      first
        | (go_wp2_with fail; go_ret; exact HP.out)
        | (go_ret; exact HP.out)
  · have hl2 : ((n : Int) != (last : Int) + 1) = false := by simp [hl1]
    clear hl1
    have hx1 : (O.2.1 != 0) = true := by simpa using hO
    rw [if_pos hO]
    clear hO
    go_enter Tryz.func18, Tryz.ntmps18
    go_wp2_with fail
    generalize w.alloc (.cells #[.int .i64 (n : Int), .string b] 62) = W at *
    refine (CF.out _).mono ?_
    rintro e w1 ⟨rfl, hb1⟩
    have HBL : Hid (L < W.heap.size) := Lib.hid (HA.out.lt (.inl (.inr rfl)))
    have g0 := (World.cell?_of_block (a := ⟨L, 0, none⟩) (hb1.block L HBL.out)).trans d0
    have g1 := (World.cell?_of_block (a := ⟨L, 1, none⟩) (hb1.block L HBL.out)).trans d1
    have g2 := (World.cell?_of_block (a := ⟨L, 2, none⟩) (hb1.block L HBL.out)).trans d2
    have s0 := (World.cell?_of_block (a := ⟨w.heap.size, 0, none⟩) (hb1.block w.heap.size HR.out)).trans r0
    have HN1 := Lib.hid ((hb1.block L HBL.out).trans HN.out)
    have HA1 := Lib.hid (HA.out.others hb1)
    have HS1 : Hid (Stay (fun y => Y y ∨ y = L) w w1) := Lib.hid (HS.out.trans ⟨hb1.size, fun b hb => hb1.block b (HA.out.lt (.inl hb))⟩)
    have HS0 := Lib.hid s0
    have HRL : Hid (w.heap.size < w1.heap.size ∧ L < w1.heap.size) := Lib.hid ⟨Nat.lt_of_lt_of_le HR.out hb1.size, Nat.lt_of_lt_of_le HBL.out hb1.size⟩
    clear hb1 d0 d1 d2 d4 r0 r1 CF
    go_wp2_with fail
    go_quiet (fail)
    have hbV : Below w1.heap.size w1 (w1.drewN nq) := below_drewN (Below.refl _ _) _
    generalize w1.drewN nq = V at *
    have v0 := (World.cell?_of_block (a := ⟨L, 0, none⟩) (hbV.block L HRL.out.2)).trans g0
    have v1 := (World.cell?_of_block (a := ⟨L, 1, none⟩) (hbV.block L HRL.out.2)).trans g1
    have HV := Lib.hid (hbV.trans ((Below.refl V.heap.size V).drew.mono hbV.size))
    have CW2 := Lib.hid (CWN.out _ _ (HA1.out.others HV.out))
    have u0 := (World.cell?_of_block (a := ⟨L, 0, none⟩) (HV.out.block L HRL.out.2)).trans g0
    have u1 := (World.cell?_of_block (a := ⟨L, 1, none⟩) (HV.out.block L HRL.out.2)).trans g1
    clear hbV g0 g1 g2 s0 CWN
    go_wp2_with fail
    go_region_with (go_at_call 35; refine CW2.out.mono ?_; rintro e w2 ⟨rfl, h1, h2⟩; have hB2 := ((h2.2 L (.inl (.inr rfl))).trans (HV.out.block L HRL.out.2)).trans HN1.out; have a4 : w2.cell? ⟨L, 4, none⟩ = some (.bool false) := (rlogO_cells hB2).2.2.2.2; have k4 : w2.frozen? ⟨L, 4, none⟩ = false := Lib.frozen_of_heap hB2 4)
    all_goals
      have H1 := Lib.hid h1
      have H2 : Hid (Stay Y w w2) := Lib.hid ⟨Nat.le_trans HS1.out.1 (Nat.le_trans HV.out.size h2.1), fun b hb => ((h2.2 b (.inl (.inl hb))).trans (HV.out.block b (HA1.out.lt (.inl (.inl hb))))).trans (HS1.out.2 b (.inl hb))⟩
      have HP : Hid (RLogQ w0 A B L Y w D' ⟨O.2.1, sz, last, true, O.2.2⟩ M1 (.returned (.int .i64 O.2.1)) (w2.setCell ⟨L, 4, none⟩ (.bool true))) := Lib.hid
        ⟨rfl, rlogO_brk hB2 true, (H1.out.set L 4 (.bool true) (.inl (.inr rfl)) H0.out).add (Below.refl _ _) (fun y hy => .inl (.inl hy)), H2.out.set HX.out 4 (.bool true)⟩
      first
        | (go_wp2_with fail; go_ret; exact HP.out)
        | (go_ret; exact HP.out)
end
end Wl
end Go.Proofs.YtioidkbpjkcjeaaGreatDoor
