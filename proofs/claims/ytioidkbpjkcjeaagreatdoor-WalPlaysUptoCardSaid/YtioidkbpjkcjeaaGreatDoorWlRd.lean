/- The document's Open of a log over whatever disk of its own. Conditions: those that each theorem names. -/
import Derived.Test.YtioidkbpjkcjeaaGreatDoorWlF
import Derived.Test.YtioidkbpjkcjeaaGreatDoorWlPd
import Derived.Test.YtioidkbpjkcjeaaGreatDoorRfHas
namespace Go.Proofs.YtioidkbpjkcjeaaGreatDoor
set_option linter.unusedVariables false
open Go Go.RowKit Dk
namespace Wl
abbrev pR (B : Nat) : Value := .pointer (some ⟨B, 0, none⟩)
def rlogO (B : Nat) (sz last : Int) (br : Bool) : Obj := .cells #[.pointer (some ⟨B, 0, none⟩), .string nL, .int .i64 last, .int .i64 sz, .bool br] 53 (0, 0)
/-- What the document's Open leaves. -/
def ROpenQ (w0 : World) (A B : Nat) (Y : Nat → Prop) (w : World) (D' : DSt) (R : OpR) (M' : RSt) (e : Ending) (w' : World) : Prop :=
  (R.err ≠ 0 ∧ e = .returned (.tuple #[.pointer none, .slice none 0 0, .int .i64 R.err]) ∧ Two w0 A B Y D' M' w' ∧ Stay Y w w') ∨
  (R.err = 0 ∧ ∃ (L : Nat) (v : Value), e = .returned (.tuple #[.pointer (some ⟨L, 0, none⟩), v, .int .i64 0]) ∧ w'.heap[L]? = some (rlogO B (R.size : Int) (lastP R.recs : Int) false) ∧ RcsAt w' v R.recs ∧
    Two w0 A B (fun b => Y b ∨ b = L ∨ v.ownBlock = some b) D' M' w' ∧ Stay Y w w' ∧ w.heap.size ≤ L ∧ ∀ b, v.ownBlock = some b → w.heap.size ≤ b)
theorem stay_two {w0 w w' : World} {A B : Nat} {Y : Nat → Prop} {D : DSt} {M : RSt} (h : Two w0 A B Y D M w) (hb : Below w.heap.size w w') : Stay Y w w' := ⟨hb.size, fun b hy => hb.block b (h.lt hy)⟩
/-- The document's calls, whatever blocks stay. -/
def HasT (w0 : World) (A B : Nat) (D' : DSt) (M : RSt) (y : Bool) : Prop := ∀ Y W, Two w0 A B Y D' M W → Calls Tryz.prog 34 #[pR B, .string nL] W fun e w' => e = .returned (.bool y) ∧ W = w'
def WrT (w0 : World) (A B : Nat) (D' : DSt) (M : RSt) (x : Int) (M' : RSt) : Prop := ∀ Y W, Two w0 A B Y D' M W → Calls Tryz.prog 35 #[pR B, .string nL, .string ⟨#[]⟩] W fun e w' => (∃ n : Int, e = .returned (.tuple #[.int .i64 n, .int .i64 x])) ∧ Two w0 A B Y D' M' w' ∧ Stay Y W w'
def SnT (w0 : World) (A B : Nat) (D' : DSt) (M : RSt) (x : Int) (M' : RSt) : Prop := ∀ Y W, Two w0 A B Y D' M W → Calls Tryz.prog 36 #[pR B] W fun e w' => e = .returned (.int .i64 x) ∧ Two w0 A B Y D' M' w' ∧ Stay Y W w'
def RdT (w0 : World) (A B : Nat) (D' : DSt) (M : RSt) (s : ByteArray) (x : Int) : Prop := ∀ Y W, Two w0 A B Y D' M W → Calls Tryz.prog 9 #[pR B, .string nL] W fun e w' => e = .returned (.tuple #[.string s, .int .i64 x]) ∧ W = w'
def CtT (w0 : World) (A B : Nat) (D' : DSt) (M : RSt) (z : Int) (x : Int) (M' : RSt) : Prop := ∀ Y W, Two w0 A B Y D' M W → Calls Tryz.prog 38 #[pR B, .string nL, .int .i64 z] W fun e w' => e = .returned (.int .i64 x) ∧ Two w0 A B Y D' M' w' ∧ Stay Y W w'
def SyT (w0 : World) (A B : Nat) (D' : DSt) (M : RSt) (x : Int) (M' : RSt) : Prop := ∀ Y W, Two w0 A B Y D' M W → Calls Tryz.prog 39 #[pR B, .string nL] W fun e w' => e = .returned (.int .i64 x) ∧ Two w0 A B Y D' M' w' ∧ Stay Y W w'
section
variable {w0 w : World} {A B : Nat} {Y : Nat → Prop} {D' : DSt} {M M1 M2 M3 M4 : RSt}
/-- It is refused as the file is begun. -/
theorem ro_begin (j : Nat) (x : Int) (hx : x ≠ 0) (h : Two w0 A B Y D' M w) (HH : HasT w0 A B D' M false)
    (HC : (j = 0 ∧ WrT w0 A B D' M x M2) ∨ (j = 1 ∧ WrT w0 A B D' M 0 M1 ∧ SnT w0 A B D' M1 x M2)) :
    Calls Tryz.prog 16 #[pR B, .string nL] w (ROpenQ w0 A B Y w D' ⟨x, [], 0, D'⟩ M2) := by
  have hx1 : (x != 0) = true := by simpa using hx
  have HX := Lib.hid hx
  have hne := nL_full
  have HA := Lib.hid h
  clear hx h
  rcases HC with ⟨-, HW⟩ | ⟨-, HW, HN⟩
  all_goals
    go_enter Tryz.func16, Tryz.ntmps16
    go_wp2_with fail
    refine (HH _ _ HA.out).mono ?_
    rintro e w2 ⟨rfl, rfl⟩
    go_wp2_with fail
    refine (HW _ _ HA.out).mono ?_
    rintro e w3 ⟨⟨n, rfl⟩, h3, s3⟩
    go_wp2_with fail
    try
      refine (HN _ _ h3).mono ?_
      rintro e w4 ⟨rfl, h4, s4⟩
      clear h3
      have h3 := h4
      have s5 := s3.trans s4
      clear h4 s3 s4
      have s3 := s5
      clear s5
      go_wp2_with fail
    go_ret3
    exact .inl ⟨HX.out, rfl, h3, s3⟩
/-- It is refused as the file is read. -/
theorem ro_read (y : Bool) (s : ByteArray) (x : Int) (hx : x ≠ 0) (h : Two w0 A B Y D' M w) (HH : HasT w0 A B D' M y)
    (HC : (y = false ∧ WrT w0 A B D' M 0 M1 ∧ SnT w0 A B D' M1 0 M2) ∨ (y = true ∧ M = M2)) (HR : RdT w0 A B D' M2 s x) :
    Calls Tryz.prog 16 #[pR B, .string nL] w (ROpenQ w0 A B Y w D' ⟨x, [], 0, D'⟩ M2) := by
  have hx1 : (x != 0) = true := by simpa using hx
  have HX := Lib.hid hx
  have hne := nL_full
  have HA := Lib.hid h
  clear hx h
  rcases HC with ⟨rfl, HW, HN⟩ | ⟨rfl, rfl⟩
  · go_enter Tryz.func16, Tryz.ntmps16
    go_wp2_with fail
    refine (HH _ _ HA.out).mono ?_
    rintro e w2 ⟨rfl, rfl⟩
    go_wp2_with fail
    refine (HW _ _ HA.out).mono ?_
    rintro e w3 ⟨⟨n, rfl⟩, h3, s3⟩
    go_wp2_with fail
    refine (HN _ _ h3).mono ?_
    rintro e w4 ⟨rfl, h4, s4⟩
    go_wp2_with fail
    refine (HR _ _ h4).mono ?_
    rintro e w5 ⟨rfl, rfl⟩
    go_wp2_with fail
    go_ret3
    exact .inl ⟨HX.out, rfl, h4, s3.trans s4⟩
  · go_enter Tryz.func16, Tryz.ntmps16
    go_wp2_with fail
    refine (HH _ _ HA.out).mono ?_
    rintro e w2 ⟨rfl, rfl⟩
    go_wp2_with fail
    refine (HR _ _ HA.out).mono ?_
    rintro e w5 ⟨rfl, rfl⟩
    go_wp2_with fail
    go_ret3
    exact .inl ⟨HX.out, rfl, HA.out, Stay.refl _ _⟩
/-- Its records are wrong. -/
theorem ro_bad (y : Bool) (s : ByteArray) (hs : s.size ≤ 140737488351232) (recs : List Rc) (sz : Nat) (hR : scan 0 s.data.toList = ⟨recs, sz, 90⟩) (h : Two w0 A B Y D' M w) (HH : HasT w0 A B D' M y)
    (HC : (y = false ∧ WrT w0 A B D' M 0 M1 ∧ SnT w0 A B D' M1 0 M2) ∨ (y = true ∧ M = M2)) (HR : RdT w0 A B D' M2 s 0) :
    Calls Tryz.prog 16 #[pR B, .string nL] w (ROpenQ w0 A B Y w D' ⟨90, [], 0, D'⟩ M2) := by
  have hne := nL_full
  have HA := Lib.hid h
  have HRS := Lib.hid hR
  have CS := Lib.hid (fun W => rscan_any s W hs)
  clear h hR hs
  rcases HC with ⟨rfl, HW, HN⟩ | ⟨rfl, rfl⟩
  · go_enter Tryz.func16, Tryz.ntmps16
    go_wp2_with fail
    refine (HH _ _ HA.out).mono ?_
    rintro e w2 ⟨rfl, rfl⟩
    go_wp2_with fail
    refine (HW _ _ HA.out).mono ?_
    rintro e w3 ⟨⟨n, rfl⟩, h3, s3⟩
    go_wp2_with fail
    refine (HN _ _ h3).mono ?_
    rintro e W ⟨rfl, h4, s4⟩
    have H4 := Lib.hid h4
    have S4 : Hid (Stay Y w W) := Lib.hid (s3.trans s4)
    clear h4 s4 h3 s3
    go_wp2_with fail
    refine (HR _ _ H4.out).mono ?_
    rintro e w5 ⟨rfl, rfl⟩
    go_wp2_with fail
    refine (CS.out _).mono ?_
    rintro e w6 ⟨v, rfl, ho, hb⟩
    rw [HRS.out] at ho ⊢
    have HO := Lib.hid ho
    have HOB : Hid (∀ b, v.ownBlock = some b → w.heap.size ≤ b) := Lib.hid (fun b hb => Nat.le_trans S4.out.1 (ho.lt b hb).1)
    have H6 : Hid (Two w0 A B (fun b => Y b ∨ v.ownBlock = some b) D' M2 w6) := Lib.hid (H4.out.add hb (fun b hb => hb.imp id (fun k => ho.lt b k)))
    have S6 : Hid (Stay Y w w6) := Lib.hid (S4.out.trans (stay_two H4.out hb))
    clear ho hb
    go_wp2_with fail
    go_ret3
    exact .inl ⟨by show (90 : Int) ≠ 0; decide, rfl, H6.out.add (Below.refl _ _) (fun b hb => .inl (.inl hb)), S6.out⟩
  · go_enter Tryz.func16, Tryz.ntmps16
    go_wp2_with fail
    refine (HH _ _ HA.out).mono ?_
    rintro e w2 ⟨rfl, rfl⟩
    go_wp2_with fail
    have H4 := Lib.hid HA.out
    have S4 : Hid (Stay Y w w) := Lib.hid (Stay.refl _ _)
    refine (HR _ _ H4.out).mono ?_
    rintro e w5 ⟨rfl, rfl⟩
    go_wp2_with fail
    refine (CS.out _).mono ?_
    rintro e w6 ⟨v, rfl, ho, hb⟩
    rw [HRS.out] at ho ⊢
    have HO := Lib.hid ho
    have HOB : Hid (∀ b, v.ownBlock = some b → w.heap.size ≤ b) := Lib.hid (fun b hb => Nat.le_trans S4.out.1 (ho.lt b hb).1)
    have H6 : Hid (Two w0 A B (fun b => Y b ∨ v.ownBlock = some b) D' M w6) := Lib.hid (H4.out.add hb (fun b hb => hb.imp id (fun k => ho.lt b k)))
    have S6 : Hid (Stay Y w w6) := Lib.hid (S4.out.trans (stay_two H4.out hb))
    clear ho hb
    go_wp2_with fail
    go_ret3
    exact .inl ⟨by show (90 : Int) ≠ 0; decide, rfl, H6.out.add (Below.refl _ _) (fun b hb => .inl (.inl hb)), S6.out⟩
/-- It is refused as the file is settled. -/
theorem ro_stop (j : Nat) (y : Bool) (s : ByteArray) (hs : s.size ≤ 140737488351232) (recs : List Rc) (sz er : Nat) (hR : scan 0 s.data.toList = ⟨recs, sz, er⟩) (x : Int) (hx : x ≠ 0) (h : Two w0 A B Y D' M w) (HH : HasT w0 A B D' M y)
    (HC : (y = false ∧ WrT w0 A B D' M 0 M1 ∧ SnT w0 A B D' M1 0 M2) ∨ (y = true ∧ M = M2)) (HR : RdT w0 A B D' M2 s 0)
    (HJ : (j = 0 ∧ er = 0 ∧ SyT w0 A B D' M2 x M4) ∨ (j = 1 ∧ er = 91 ∧ CtT w0 A B D' M2 (sz : Int) x M4) ∨ (j = 2 ∧ er = 91 ∧ CtT w0 A B D' M2 (sz : Int) 0 M3 ∧ SyT w0 A B D' M3 x M4)) :
    Calls Tryz.prog 16 #[pR B, .string nL] w (ROpenQ w0 A B Y w D' ⟨x, [], 0, D'⟩ M4) := by
  have hx1 : (x != 0) = true := by simpa using hx
  have HX := Lib.hid hx
  have hne := nL_full
  have HA := Lib.hid h
  have CS := Lib.hid (fun W => rscan_any s W hs)
  clear h hs hx
  rcases HC with ⟨rfl, HW, HN⟩ | ⟨rfl, rfl⟩
  · rcases HJ with ⟨-, rfl, HY⟩ | ⟨-, rfl, HZ⟩ | ⟨-, rfl, HZ, HY⟩
    · have HRS := Lib.hid hR
      clear hR
      go_enter Tryz.func16, Tryz.ntmps16
      go_wp2_with fail
      refine (HH _ _ HA.out).mono ?_
      rintro e w2 ⟨rfl, rfl⟩
      go_wp2_with fail
      refine (HW _ _ HA.out).mono ?_
      rintro e w3 ⟨⟨n, rfl⟩, h3, s3⟩
      go_wp2_with fail
      refine (HN _ _ h3).mono ?_
      rintro e W ⟨rfl, h4, s4⟩
      have H4 := Lib.hid h4
      have S4 : Hid (Stay Y w W) := Lib.hid (s3.trans s4)
      clear h4 s4 h3 s3
      go_wp2_with fail
      refine (HR _ _ H4.out).mono ?_
      rintro e w5 ⟨rfl, rfl⟩
      go_wp2_with fail
      refine (CS.out _).mono ?_
      rintro e w6 ⟨v, rfl, ho, hb⟩
      rw [HRS.out] at ho ⊢
      have HO := Lib.hid ho
      have HOB : Hid (∀ b, v.ownBlock = some b → w.heap.size ≤ b) := Lib.hid (fun b hb => Nat.le_trans S4.out.1 (ho.lt b hb).1)
      have H6 : Hid (Two w0 A B (fun b => Y b ∨ v.ownBlock = some b) D' M2 w6) := Lib.hid (H4.out.add hb (fun b hb => hb.imp id (fun k => ho.lt b k)))
      have S6 : Hid (Stay Y w w6) := Lib.hid (S4.out.trans (stay_two H4.out hb))
      clear ho hb
      go_wp2_with fail
      refine (HY _ _ H6.out).mono ?_
      rintro e w7 ⟨rfl, h7, s7⟩
      go_wp2_with fail
      go_ret3
      exact .inl ⟨HX.out, rfl, h7.add (Below.refl _ _) (fun b hb => .inl (.inl hb)), S6.out.trans ⟨s7.1, fun b hb => s7.2 b (.inl hb)⟩⟩
    · have HRS := Lib.hid hR
      clear hR
      go_enter Tryz.func16, Tryz.ntmps16
      go_wp2_with fail
      refine (HH _ _ HA.out).mono ?_
      rintro e w2 ⟨rfl, rfl⟩
      go_wp2_with fail
      refine (HW _ _ HA.out).mono ?_
      rintro e w3 ⟨⟨n, rfl⟩, h3, s3⟩
      go_wp2_with fail
      refine (HN _ _ h3).mono ?_
      rintro e W ⟨rfl, h4, s4⟩
      have H4 := Lib.hid h4
      have S4 : Hid (Stay Y w W) := Lib.hid (s3.trans s4)
      clear h4 s4 h3 s3
      go_wp2_with fail
      refine (HR _ _ H4.out).mono ?_
      rintro e w5 ⟨rfl, rfl⟩
      go_wp2_with fail
      refine (CS.out _).mono ?_
      rintro e w6 ⟨v, rfl, ho, hb⟩
      rw [HRS.out] at ho ⊢
      have HO := Lib.hid ho
      have HOB : Hid (∀ b, v.ownBlock = some b → w.heap.size ≤ b) := Lib.hid (fun b hb => Nat.le_trans S4.out.1 (ho.lt b hb).1)
      have H6 : Hid (Two w0 A B (fun b => Y b ∨ v.ownBlock = some b) D' M2 w6) := Lib.hid (H4.out.add hb (fun b hb => hb.imp id (fun k => ho.lt b k)))
      have S6 : Hid (Stay Y w w6) := Lib.hid (S4.out.trans (stay_two H4.out hb))
      clear ho hb
      go_wp2_with fail
      refine (HZ _ _ H6.out).mono ?_
      rintro e w7 ⟨rfl, h7, s7⟩
      go_wp2_with fail
      go_ret3
      exact .inl ⟨HX.out, rfl, h7.add (Below.refl _ _) (fun b hb => .inl (.inl hb)), S6.out.trans ⟨s7.1, fun b hb => s7.2 b (.inl hb)⟩⟩
    · have HRS := Lib.hid hR
      clear hR
      go_enter Tryz.func16, Tryz.ntmps16
      go_wp2_with fail
      refine (HH _ _ HA.out).mono ?_
      rintro e w2 ⟨rfl, rfl⟩
      go_wp2_with fail
      refine (HW _ _ HA.out).mono ?_
      rintro e w3 ⟨⟨n, rfl⟩, h3, s3⟩
      go_wp2_with fail
      refine (HN _ _ h3).mono ?_
      rintro e W ⟨rfl, h4, s4⟩
      have H4 := Lib.hid h4
      have S4 : Hid (Stay Y w W) := Lib.hid (s3.trans s4)
      clear h4 s4 h3 s3
      go_wp2_with fail
      refine (HR _ _ H4.out).mono ?_
      rintro e w5 ⟨rfl, rfl⟩
      go_wp2_with fail
      refine (CS.out _).mono ?_
      rintro e w6 ⟨v, rfl, ho, hb⟩
      rw [HRS.out] at ho ⊢
      have HO := Lib.hid ho
      have HOB : Hid (∀ b, v.ownBlock = some b → w.heap.size ≤ b) := Lib.hid (fun b hb => Nat.le_trans S4.out.1 (ho.lt b hb).1)
      have H6 : Hid (Two w0 A B (fun b => Y b ∨ v.ownBlock = some b) D' M2 w6) := Lib.hid (H4.out.add hb (fun b hb => hb.imp id (fun k => ho.lt b k)))
      have S6 : Hid (Stay Y w w6) := Lib.hid (S4.out.trans (stay_two H4.out hb))
      clear ho hb
      go_wp2_with fail
      refine (HZ _ _ H6.out).mono ?_
      rintro e w8 ⟨rfl, h8, s8⟩
      go_wp2_with fail
      refine (HY _ _ h8).mono ?_
      rintro e w7 ⟨rfl, h7, s9⟩
      have s7 := s8.trans s9
      go_wp2_with fail
      go_ret3
      exact .inl ⟨HX.out, rfl, h7.add (Below.refl _ _) (fun b hb => .inl (.inl hb)), S6.out.trans ⟨s7.1, fun b hb => s7.2 b (.inl hb)⟩⟩
  · rcases HJ with ⟨-, rfl, HY⟩ | ⟨-, rfl, HZ⟩ | ⟨-, rfl, HZ, HY⟩
    · have HRS := Lib.hid hR
      clear hR
      go_enter Tryz.func16, Tryz.ntmps16
      go_wp2_with fail
      refine (HH _ _ HA.out).mono ?_
      rintro e w2 ⟨rfl, rfl⟩
      go_wp2_with fail
      have H4 := Lib.hid HA.out
      have S4 : Hid (Stay Y w w) := Lib.hid (Stay.refl _ _)
      refine (HR _ _ H4.out).mono ?_
      rintro e w5 ⟨rfl, rfl⟩
      go_wp2_with fail
      refine (CS.out _).mono ?_
      rintro e w6 ⟨v, rfl, ho, hb⟩
      rw [HRS.out] at ho ⊢
      have HO := Lib.hid ho
      have HOB : Hid (∀ b, v.ownBlock = some b → w.heap.size ≤ b) := Lib.hid (fun b hb => Nat.le_trans S4.out.1 (ho.lt b hb).1)
      have H6 : Hid (Two w0 A B (fun b => Y b ∨ v.ownBlock = some b) D' M w6) := Lib.hid (H4.out.add hb (fun b hb => hb.imp id (fun k => ho.lt b k)))
      have S6 : Hid (Stay Y w w6) := Lib.hid (S4.out.trans (stay_two H4.out hb))
      clear ho hb
      go_wp2_with fail
      refine (HY _ _ H6.out).mono ?_
      rintro e w7 ⟨rfl, h7, s7⟩
      go_wp2_with fail
      go_ret3
      exact .inl ⟨HX.out, rfl, h7.add (Below.refl _ _) (fun b hb => .inl (.inl hb)), S6.out.trans ⟨s7.1, fun b hb => s7.2 b (.inl hb)⟩⟩
    · have HRS := Lib.hid hR
      clear hR
      go_enter Tryz.func16, Tryz.ntmps16
      go_wp2_with fail
      refine (HH _ _ HA.out).mono ?_
      rintro e w2 ⟨rfl, rfl⟩
      go_wp2_with fail
      have H4 := Lib.hid HA.out
      have S4 : Hid (Stay Y w w) := Lib.hid (Stay.refl _ _)
      refine (HR _ _ H4.out).mono ?_
      rintro e w5 ⟨rfl, rfl⟩
      go_wp2_with fail
      refine (CS.out _).mono ?_
      rintro e w6 ⟨v, rfl, ho, hb⟩
      rw [HRS.out] at ho ⊢
      have HO := Lib.hid ho
      have HOB : Hid (∀ b, v.ownBlock = some b → w.heap.size ≤ b) := Lib.hid (fun b hb => Nat.le_trans S4.out.1 (ho.lt b hb).1)
      have H6 : Hid (Two w0 A B (fun b => Y b ∨ v.ownBlock = some b) D' M w6) := Lib.hid (H4.out.add hb (fun b hb => hb.imp id (fun k => ho.lt b k)))
      have S6 : Hid (Stay Y w w6) := Lib.hid (S4.out.trans (stay_two H4.out hb))
      clear ho hb
      go_wp2_with fail
      refine (HZ _ _ H6.out).mono ?_
      rintro e w7 ⟨rfl, h7, s7⟩
      go_wp2_with fail
      go_ret3
      exact .inl ⟨HX.out, rfl, h7.add (Below.refl _ _) (fun b hb => .inl (.inl hb)), S6.out.trans ⟨s7.1, fun b hb => s7.2 b (.inl hb)⟩⟩
    · have HRS := Lib.hid hR
      clear hR
      go_enter Tryz.func16, Tryz.ntmps16
      go_wp2_with fail
      refine (HH _ _ HA.out).mono ?_
      rintro e w2 ⟨rfl, rfl⟩
      go_wp2_with fail
      have H4 := Lib.hid HA.out
      have S4 : Hid (Stay Y w w) := Lib.hid (Stay.refl _ _)
      refine (HR _ _ H4.out).mono ?_
      rintro e w5 ⟨rfl, rfl⟩
      go_wp2_with fail
      refine (CS.out _).mono ?_
      rintro e w6 ⟨v, rfl, ho, hb⟩
      rw [HRS.out] at ho ⊢
      have HO := Lib.hid ho
      have HOB : Hid (∀ b, v.ownBlock = some b → w.heap.size ≤ b) := Lib.hid (fun b hb => Nat.le_trans S4.out.1 (ho.lt b hb).1)
      have H6 : Hid (Two w0 A B (fun b => Y b ∨ v.ownBlock = some b) D' M w6) := Lib.hid (H4.out.add hb (fun b hb => hb.imp id (fun k => ho.lt b k)))
      have S6 : Hid (Stay Y w w6) := Lib.hid (S4.out.trans (stay_two H4.out hb))
      clear ho hb
      go_wp2_with fail
      refine (HZ _ _ H6.out).mono ?_
      rintro e w8 ⟨rfl, h8, s8⟩
      go_wp2_with fail
      refine (HY _ _ h8).mono ?_
      rintro e w7 ⟨rfl, h7, s9⟩
      have s7 := s8.trans s9
      go_wp2_with fail
      go_ret3
      exact .inl ⟨HX.out, rfl, h7.add (Below.refl _ _) (fun b hb => .inl (.inl hb)), S6.out.trans ⟨s7.1, fun b hb => s7.2 b (.inl hb)⟩⟩
set_option maxHeartbeats 4000000 in
set_option maxRecDepth 100000 in
/-- It goes well. -/
theorem ro_good (j : Nat) (y : Bool) (s : ByteArray) (hs : s.size ≤ 140737488351232) (recs : List Rc) (sz er : Nat) (hR : scan 0 s.data.toList = ⟨recs, sz, er⟩) (h : Two w0 A B Y D' M w) (HH : HasT w0 A B D' M y)
    (HC : (y = false ∧ WrT w0 A B D' M 0 M1 ∧ SnT w0 A B D' M1 0 M2) ∨ (y = true ∧ M = M2)) (HR : RdT w0 A B D' M2 s 0)
    (HJ : (j = 0 ∧ er = 0 ∧ SyT w0 A B D' M2 0 M4) ∨ (j = 1 ∧ er = 91 ∧ CtT w0 A B D' M2 (sz : Int) 0 M3 ∧ SyT w0 A B D' M3 0 M4)) :
    Calls Tryz.prog 16 #[pR B, .string nL] w (ROpenQ w0 A B Y w D' ⟨0, recs, sz, D'⟩ M4) := by
  have hne := nL_full
  have HA := Lib.hid h
  have CS := Lib.hid (fun W => rscan_any s W hs)
  have hsize := scan_size s.data.toList.length 0 s.data.toList (Nat.le_refl _)
  rw [ln, hR] at hsize
  simp only at hsize
  have HSZ : Hid ((sz ≤ s.size ∧ recs.length * 20 ≤ sz) ∧ s.size ≤ 140737488351232) := Lib.hid ⟨hsize, hs⟩
  clear h hs hsize
  rcases HC with ⟨rfl, HW, HN⟩ | ⟨rfl, rfl⟩
  · rcases HJ with ⟨-, rfl, HY⟩ | ⟨-, rfl, HZ, HY⟩
    · have HRS := Lib.hid hR
      clear hR
      go_enter Tryz.func16, Tryz.ntmps16
      go_wp2_with fail
      refine (HH _ _ HA.out).mono ?_
      rintro e w2 ⟨rfl, rfl⟩
      go_wp2_with fail
      refine (HW _ _ HA.out).mono ?_
      rintro e w3 ⟨⟨n, rfl⟩, h3, s3⟩
      go_wp2_with fail
      refine (HN _ _ h3).mono ?_
      rintro e W ⟨rfl, h4, s4⟩
      have H4 := Lib.hid h4
      have S4 : Hid (Stay Y w W) := Lib.hid (s3.trans s4)
      clear h4 s4 h3 s3
      go_wp2_with fail
      refine (HR _ _ H4.out).mono ?_
      rintro e w5 ⟨rfl, rfl⟩
      go_wp2_with fail
      refine (CS.out _).mono ?_
      rintro e w6 ⟨v, rfl, ho, hb⟩
      rw [HRS.out] at ho ⊢
      have HO := Lib.hid ho
      have HOB : Hid (∀ b, v.ownBlock = some b → w.heap.size ≤ b) := Lib.hid (fun b hb => Nat.le_trans S4.out.1 (ho.lt b hb).1)
      have H6 : Hid (Two w0 A B (fun b => Y b ∨ v.ownBlock = some b) D' M2 w6) := Lib.hid (H4.out.add hb (fun b hb => hb.imp id (fun k => ho.lt b k)))
      have S6 : Hid (Stay Y w w6) := Lib.hid (S4.out.trans (stay_two H4.out hb))
      clear ho hb
      rcases own_form2 HO.out with ⟨hrecs, p, c, hv⟩ | ⟨g, m, cap, hv, hm, hg1, hg2⟩
      · subst hv
        have hrecs' : recs = [] := hrecs
        subst hrecs'
        go_wp2_with fail
        refine (HY _ _ H6.out).mono ?_
        rintro e w7 ⟨rfl, h7, s7⟩
        have HP : Hid (ROpenQ w0 A B Y w D' ⟨0, [], sz, D'⟩ M4 (.returned (.tuple #[.pointer (some ⟨w7.heap.size, 0, none⟩), .slice p 0 c, .int .i64 0])) (w7.alloc (.cells #[.pointer (some ⟨B, 0, none⟩), .string nL, .int .i64 0, .int .i64 (sz : Int), .bool false] 53 (0, 0)))) := Lib.hid
          (.inr ⟨rfl, w7.heap.size, .slice p 0 c, rfl, heap_alloc_new w7 _, .inl ⟨rfl, p, c, rfl⟩,
            h7.add (below_new w7 _) (fun b hb => by
              rcases hb with k | k | k
              · exact .inl (.inl k)
              · exact .inr ⟨Nat.le_of_eq k.symm, by rw [k]; simp⟩
              · exact .inl (.inr k)),
            (S6.out.trans ⟨s7.1, fun b hb => s7.2 b (.inl hb)⟩).trans ⟨by simp, fun b hb => heap_alloc_old w7 _ (h7.lt (.inl hb))⟩,
            Nat.le_trans S6.out.1 s7.1, HOB.out⟩)
        clear h7 s7
        go_wp2_with fail
        go_ret3
        exact HP.out
      · subst hv
        have HLAST := Lib.hid (fun W hW => own_last HO.out hm W hW)
        have q1 : ((recs.length : Int) - 1) = (m : Int) ∧ -9223372036854775808 ≤ (m : Int) ∧ (m : Int) ≤ 9223372036854775807 := by
          have := HSZ.out
          have hm' : recs.length = m + 1 := hm
          omega
        have wm := wrI q1.1 q1.2
        have hm1 : (m : Int) < (recs.length : Int) := by have hm' : recs.length = m + 1 := hm; clear wm; omega
        have hm2 : (0 : Int) ≤ (m : Int) := by clear wm; omega
        have hm3 : (0 : Int) < (recs.length : Int) := by have hm' : recs.length = m + 1 := hm; clear wm; omega
        have hm4 : decide (0 < recs.length) = true := decide_eq_true (by have hm' : recs.length = m + 1 := hm; clear wm; omega)
        have HM := Lib.hid hm
        clear q1 hm
        go_wp2_with fail
        refine (HY _ _ H6.out).mono ?_
        rintro e w7 ⟨rfl, h7, s7⟩
        have hgY : (Value.slice (some ⟨g, 0, none⟩) recs.length cap).ownBlock = some g := by simp [Value.ownBlock]
        have hg3 : g < w7.heap.size := h7.lt (.inr hgY)
        have f2 : ∀ o, (w7.alloc o).cell? ⟨g, m * 2, none⟩ = some (.int .i64 (lastP recs : Int)) := fun o => HLAST.out _ ((heap_alloc_old w7 o hg3).trans (s7.2 g (.inr hgY)))
        have HP : Hid (ROpenQ w0 A B Y w D' ⟨0, recs, sz, D'⟩ M4 (.returned (.tuple #[.pointer (some ⟨w7.heap.size, 0, none⟩), .slice (some ⟨g, 0, none⟩) recs.length cap, .int .i64 0])) (w7.alloc (.cells #[.pointer (some ⟨B, 0, none⟩), .string nL, .int .i64 (lastP recs : Int), .int .i64 (sz : Int), .bool false] 53 (0, 0)))) := Lib.hid
          (.inr ⟨rfl, w7.heap.size, .slice (some ⟨g, 0, none⟩) recs.length cap, rfl, heap_alloc_new w7 _, ((own_rcs HO.out).stay s7.1 (fun b hb => s7.2 b (.inr hb))).below (below_new w7 _),
            h7.add (below_new w7 _) (fun b hb => by
              rcases hb with k | k | k
              · exact .inl (.inl k)
              · exact .inr ⟨Nat.le_of_eq k.symm, by rw [k]; simp⟩
              · exact .inl (.inr k)),
            (S6.out.trans ⟨s7.1, fun b hb => s7.2 b (.inl hb)⟩).trans ⟨by simp, fun b hb => heap_alloc_old w7 _ (h7.lt (.inl hb))⟩,
            Nat.le_trans S6.out.1 s7.1, HOB.out⟩)
        clear h7 s7 hgY HLAST
        go_wp2_with fail
        go_ret3
        exact HP.out
    · have HRS := Lib.hid hR
      clear hR
      go_enter Tryz.func16, Tryz.ntmps16
      go_wp2_with fail
      refine (HH _ _ HA.out).mono ?_
      rintro e w2 ⟨rfl, rfl⟩
      go_wp2_with fail
      refine (HW _ _ HA.out).mono ?_
      rintro e w3 ⟨⟨n, rfl⟩, h3, s3⟩
      go_wp2_with fail
      refine (HN _ _ h3).mono ?_
      rintro e W ⟨rfl, h4, s4⟩
      have H4 := Lib.hid h4
      have S4 : Hid (Stay Y w W) := Lib.hid (s3.trans s4)
      clear h4 s4 h3 s3
      go_wp2_with fail
      refine (HR _ _ H4.out).mono ?_
      rintro e w5 ⟨rfl, rfl⟩
      go_wp2_with fail
      refine (CS.out _).mono ?_
      rintro e w6 ⟨v, rfl, ho, hb⟩
      rw [HRS.out] at ho ⊢
      have HO := Lib.hid ho
      have HOB : Hid (∀ b, v.ownBlock = some b → w.heap.size ≤ b) := Lib.hid (fun b hb => Nat.le_trans S4.out.1 (ho.lt b hb).1)
      have H6 : Hid (Two w0 A B (fun b => Y b ∨ v.ownBlock = some b) D' M2 w6) := Lib.hid (H4.out.add hb (fun b hb => hb.imp id (fun k => ho.lt b k)))
      have S6 : Hid (Stay Y w w6) := Lib.hid (S4.out.trans (stay_two H4.out hb))
      clear ho hb
      rcases own_form2 HO.out with ⟨hrecs, p, c, hv⟩ | ⟨g, m, cap, hv, hm, hg1, hg2⟩
      · subst hv
        have hrecs' : recs = [] := hrecs
        subst hrecs'
        go_wp2_with fail
        refine (HZ _ _ H6.out).mono ?_
        rintro e w8 ⟨rfl, h8, s8⟩
        go_wp2_with fail
        refine (HY _ _ h8).mono ?_
        rintro e w7 ⟨rfl, h7, s9⟩
        have s7 := s8.trans s9
        clear s8 s9 h8
        have HP : Hid (ROpenQ w0 A B Y w D' ⟨0, [], sz, D'⟩ M4 (.returned (.tuple #[.pointer (some ⟨w7.heap.size, 0, none⟩), .slice p 0 c, .int .i64 0])) (w7.alloc (.cells #[.pointer (some ⟨B, 0, none⟩), .string nL, .int .i64 0, .int .i64 (sz : Int), .bool false] 53 (0, 0)))) := Lib.hid
          (.inr ⟨rfl, w7.heap.size, .slice p 0 c, rfl, heap_alloc_new w7 _, .inl ⟨rfl, p, c, rfl⟩,
            h7.add (below_new w7 _) (fun b hb => by
              rcases hb with k | k | k
              · exact .inl (.inl k)
              · exact .inr ⟨Nat.le_of_eq k.symm, by rw [k]; simp⟩
              · exact .inl (.inr k)),
            (S6.out.trans ⟨s7.1, fun b hb => s7.2 b (.inl hb)⟩).trans ⟨by simp, fun b hb => heap_alloc_old w7 _ (h7.lt (.inl hb))⟩,
            Nat.le_trans S6.out.1 s7.1, HOB.out⟩)
        clear h7 s7
        go_wp2_with fail
        go_ret3
        exact HP.out
      · subst hv
        have HLAST := Lib.hid (fun W hW => own_last HO.out hm W hW)
        have q1 : ((recs.length : Int) - 1) = (m : Int) ∧ -9223372036854775808 ≤ (m : Int) ∧ (m : Int) ≤ 9223372036854775807 := by
          have := HSZ.out
          have hm' : recs.length = m + 1 := hm
          omega
        have wm := wrI q1.1 q1.2
        have hm1 : (m : Int) < (recs.length : Int) := by have hm' : recs.length = m + 1 := hm; clear wm; omega
        have hm2 : (0 : Int) ≤ (m : Int) := by clear wm; omega
        have hm3 : (0 : Int) < (recs.length : Int) := by have hm' : recs.length = m + 1 := hm; clear wm; omega
        have hm4 : decide (0 < recs.length) = true := decide_eq_true (by have hm' : recs.length = m + 1 := hm; clear wm; omega)
        have HM := Lib.hid hm
        clear q1 hm
        go_wp2_with fail
        refine (HZ _ _ H6.out).mono ?_
        rintro e w8 ⟨rfl, h8, s8⟩
        go_wp2_with fail
        refine (HY _ _ h8).mono ?_
        rintro e w7 ⟨rfl, h7, s9⟩
        have s7 := s8.trans s9
        clear s8 s9 h8
        have hgY : (Value.slice (some ⟨g, 0, none⟩) recs.length cap).ownBlock = some g := by simp [Value.ownBlock]
        have hg3 : g < w7.heap.size := h7.lt (.inr hgY)
        have f2 : ∀ o, (w7.alloc o).cell? ⟨g, m * 2, none⟩ = some (.int .i64 (lastP recs : Int)) := fun o => HLAST.out _ ((heap_alloc_old w7 o hg3).trans (s7.2 g (.inr hgY)))
        have HP : Hid (ROpenQ w0 A B Y w D' ⟨0, recs, sz, D'⟩ M4 (.returned (.tuple #[.pointer (some ⟨w7.heap.size, 0, none⟩), .slice (some ⟨g, 0, none⟩) recs.length cap, .int .i64 0])) (w7.alloc (.cells #[.pointer (some ⟨B, 0, none⟩), .string nL, .int .i64 (lastP recs : Int), .int .i64 (sz : Int), .bool false] 53 (0, 0)))) := Lib.hid
          (.inr ⟨rfl, w7.heap.size, .slice (some ⟨g, 0, none⟩) recs.length cap, rfl, heap_alloc_new w7 _, ((own_rcs HO.out).stay s7.1 (fun b hb => s7.2 b (.inr hb))).below (below_new w7 _),
            h7.add (below_new w7 _) (fun b hb => by
              rcases hb with k | k | k
              · exact .inl (.inl k)
              · exact .inr ⟨Nat.le_of_eq k.symm, by rw [k]; simp⟩
              · exact .inl (.inr k)),
            (S6.out.trans ⟨s7.1, fun b hb => s7.2 b (.inl hb)⟩).trans ⟨by simp, fun b hb => heap_alloc_old w7 _ (h7.lt (.inl hb))⟩,
            Nat.le_trans S6.out.1 s7.1, HOB.out⟩)
        clear h7 s7 hgY HLAST
        go_wp2_with fail
        go_ret3
        exact HP.out
  · rcases HJ with ⟨-, rfl, HY⟩ | ⟨-, rfl, HZ, HY⟩
    · have HRS := Lib.hid hR
      clear hR
      go_enter Tryz.func16, Tryz.ntmps16
      go_wp2_with fail
      refine (HH _ _ HA.out).mono ?_
      rintro e w2 ⟨rfl, rfl⟩
      go_wp2_with fail
      have H4 := Lib.hid HA.out
      have S4 : Hid (Stay Y w w) := Lib.hid (Stay.refl _ _)
      refine (HR _ _ H4.out).mono ?_
      rintro e w5 ⟨rfl, rfl⟩
      go_wp2_with fail
      refine (CS.out _).mono ?_
      rintro e w6 ⟨v, rfl, ho, hb⟩
      rw [HRS.out] at ho ⊢
      have HO := Lib.hid ho
      have HOB : Hid (∀ b, v.ownBlock = some b → w.heap.size ≤ b) := Lib.hid (fun b hb => Nat.le_trans S4.out.1 (ho.lt b hb).1)
      have H6 : Hid (Two w0 A B (fun b => Y b ∨ v.ownBlock = some b) D' M w6) := Lib.hid (H4.out.add hb (fun b hb => hb.imp id (fun k => ho.lt b k)))
      have S6 : Hid (Stay Y w w6) := Lib.hid (S4.out.trans (stay_two H4.out hb))
      clear ho hb
      rcases own_form2 HO.out with ⟨hrecs, p, c, hv⟩ | ⟨g, m, cap, hv, hm, hg1, hg2⟩
      · subst hv
        have hrecs' : recs = [] := hrecs
        subst hrecs'
        go_wp2_with fail
        refine (HY _ _ H6.out).mono ?_
        rintro e w7 ⟨rfl, h7, s7⟩
        have HP : Hid (ROpenQ w0 A B Y w D' ⟨0, [], sz, D'⟩ M4 (.returned (.tuple #[.pointer (some ⟨w7.heap.size, 0, none⟩), .slice p 0 c, .int .i64 0])) (w7.alloc (.cells #[.pointer (some ⟨B, 0, none⟩), .string nL, .int .i64 0, .int .i64 (sz : Int), .bool false] 53 (0, 0)))) := Lib.hid
          (.inr ⟨rfl, w7.heap.size, .slice p 0 c, rfl, heap_alloc_new w7 _, .inl ⟨rfl, p, c, rfl⟩,
            h7.add (below_new w7 _) (fun b hb => by
              rcases hb with k | k | k
              · exact .inl (.inl k)
              · exact .inr ⟨Nat.le_of_eq k.symm, by rw [k]; simp⟩
              · exact .inl (.inr k)),
            (S6.out.trans ⟨s7.1, fun b hb => s7.2 b (.inl hb)⟩).trans ⟨by simp, fun b hb => heap_alloc_old w7 _ (h7.lt (.inl hb))⟩,
            Nat.le_trans S6.out.1 s7.1, HOB.out⟩)
        clear h7 s7
        go_wp2_with fail
        go_ret3
        exact HP.out
      · subst hv
        have HLAST := Lib.hid (fun W hW => own_last HO.out hm W hW)
        have q1 : ((recs.length : Int) - 1) = (m : Int) ∧ -9223372036854775808 ≤ (m : Int) ∧ (m : Int) ≤ 9223372036854775807 := by
          have := HSZ.out
          have hm' : recs.length = m + 1 := hm
          omega
        have wm := wrI q1.1 q1.2
        have hm1 : (m : Int) < (recs.length : Int) := by have hm' : recs.length = m + 1 := hm; clear wm; omega
        have hm2 : (0 : Int) ≤ (m : Int) := by clear wm; omega
        have hm3 : (0 : Int) < (recs.length : Int) := by have hm' : recs.length = m + 1 := hm; clear wm; omega
        have hm4 : decide (0 < recs.length) = true := decide_eq_true (by have hm' : recs.length = m + 1 := hm; clear wm; omega)
        have HM := Lib.hid hm
        clear q1 hm
        go_wp2_with fail
        refine (HY _ _ H6.out).mono ?_
        rintro e w7 ⟨rfl, h7, s7⟩
        have hgY : (Value.slice (some ⟨g, 0, none⟩) recs.length cap).ownBlock = some g := by simp [Value.ownBlock]
        have hg3 : g < w7.heap.size := h7.lt (.inr hgY)
        have f2 : ∀ o, (w7.alloc o).cell? ⟨g, m * 2, none⟩ = some (.int .i64 (lastP recs : Int)) := fun o => HLAST.out _ ((heap_alloc_old w7 o hg3).trans (s7.2 g (.inr hgY)))
        have HP : Hid (ROpenQ w0 A B Y w D' ⟨0, recs, sz, D'⟩ M4 (.returned (.tuple #[.pointer (some ⟨w7.heap.size, 0, none⟩), .slice (some ⟨g, 0, none⟩) recs.length cap, .int .i64 0])) (w7.alloc (.cells #[.pointer (some ⟨B, 0, none⟩), .string nL, .int .i64 (lastP recs : Int), .int .i64 (sz : Int), .bool false] 53 (0, 0)))) := Lib.hid
          (.inr ⟨rfl, w7.heap.size, .slice (some ⟨g, 0, none⟩) recs.length cap, rfl, heap_alloc_new w7 _, ((own_rcs HO.out).stay s7.1 (fun b hb => s7.2 b (.inr hb))).below (below_new w7 _),
            h7.add (below_new w7 _) (fun b hb => by
              rcases hb with k | k | k
              · exact .inl (.inl k)
              · exact .inr ⟨Nat.le_of_eq k.symm, by rw [k]; simp⟩
              · exact .inl (.inr k)),
            (S6.out.trans ⟨s7.1, fun b hb => s7.2 b (.inl hb)⟩).trans ⟨by simp, fun b hb => heap_alloc_old w7 _ (h7.lt (.inl hb))⟩,
            Nat.le_trans S6.out.1 s7.1, HOB.out⟩)
        clear h7 s7 hgY HLAST
        go_wp2_with fail
        go_ret3
        exact HP.out
    · have HRS := Lib.hid hR
      clear hR
      go_enter Tryz.func16, Tryz.ntmps16
      go_wp2_with fail
      refine (HH _ _ HA.out).mono ?_
      rintro e w2 ⟨rfl, rfl⟩
      go_wp2_with fail
      have H4 := Lib.hid HA.out
      have S4 : Hid (Stay Y w w) := Lib.hid (Stay.refl _ _)
      refine (HR _ _ H4.out).mono ?_
      rintro e w5 ⟨rfl, rfl⟩
      go_wp2_with fail
      refine (CS.out _).mono ?_
      rintro e w6 ⟨v, rfl, ho, hb⟩
      rw [HRS.out] at ho ⊢
      have HO := Lib.hid ho
      have HOB : Hid (∀ b, v.ownBlock = some b → w.heap.size ≤ b) := Lib.hid (fun b hb => Nat.le_trans S4.out.1 (ho.lt b hb).1)
      have H6 : Hid (Two w0 A B (fun b => Y b ∨ v.ownBlock = some b) D' M w6) := Lib.hid (H4.out.add hb (fun b hb => hb.imp id (fun k => ho.lt b k)))
      have S6 : Hid (Stay Y w w6) := Lib.hid (S4.out.trans (stay_two H4.out hb))
      clear ho hb
      rcases own_form2 HO.out with ⟨hrecs, p, c, hv⟩ | ⟨g, m, cap, hv, hm, hg1, hg2⟩
      · subst hv
        have hrecs' : recs = [] := hrecs
        subst hrecs'
        go_wp2_with fail
        refine (HZ _ _ H6.out).mono ?_
        rintro e w8 ⟨rfl, h8, s8⟩
        go_wp2_with fail
        refine (HY _ _ h8).mono ?_
        rintro e w7 ⟨rfl, h7, s9⟩
        have s7 := s8.trans s9
        clear s8 s9 h8
        have HP : Hid (ROpenQ w0 A B Y w D' ⟨0, [], sz, D'⟩ M4 (.returned (.tuple #[.pointer (some ⟨w7.heap.size, 0, none⟩), .slice p 0 c, .int .i64 0])) (w7.alloc (.cells #[.pointer (some ⟨B, 0, none⟩), .string nL, .int .i64 0, .int .i64 (sz : Int), .bool false] 53 (0, 0)))) := Lib.hid
          (.inr ⟨rfl, w7.heap.size, .slice p 0 c, rfl, heap_alloc_new w7 _, .inl ⟨rfl, p, c, rfl⟩,
            h7.add (below_new w7 _) (fun b hb => by
              rcases hb with k | k | k
              · exact .inl (.inl k)
              · exact .inr ⟨Nat.le_of_eq k.symm, by rw [k]; simp⟩
              · exact .inl (.inr k)),
            (S6.out.trans ⟨s7.1, fun b hb => s7.2 b (.inl hb)⟩).trans ⟨by simp, fun b hb => heap_alloc_old w7 _ (h7.lt (.inl hb))⟩,
            Nat.le_trans S6.out.1 s7.1, HOB.out⟩)
        clear h7 s7
        go_wp2_with fail
        go_ret3
        exact HP.out
      · subst hv
        have HLAST := Lib.hid (fun W hW => own_last HO.out hm W hW)
        have q1 : ((recs.length : Int) - 1) = (m : Int) ∧ -9223372036854775808 ≤ (m : Int) ∧ (m : Int) ≤ 9223372036854775807 := by
          have := HSZ.out
          have hm' : recs.length = m + 1 := hm
          omega
        have wm := wrI q1.1 q1.2
        have hm1 : (m : Int) < (recs.length : Int) := by have hm' : recs.length = m + 1 := hm; clear wm; omega
        have hm2 : (0 : Int) ≤ (m : Int) := by clear wm; omega
        have hm3 : (0 : Int) < (recs.length : Int) := by have hm' : recs.length = m + 1 := hm; clear wm; omega
        have hm4 : decide (0 < recs.length) = true := decide_eq_true (by have hm' : recs.length = m + 1 := hm; clear wm; omega)
        have HM := Lib.hid hm
        clear q1 hm
        go_wp2_with fail
        refine (HZ _ _ H6.out).mono ?_
        rintro e w8 ⟨rfl, h8, s8⟩
        go_wp2_with fail
        refine (HY _ _ h8).mono ?_
        rintro e w7 ⟨rfl, h7, s9⟩
        have s7 := s8.trans s9
        clear s8 s9 h8
        have hgY : (Value.slice (some ⟨g, 0, none⟩) recs.length cap).ownBlock = some g := by simp [Value.ownBlock]
        have hg3 : g < w7.heap.size := h7.lt (.inr hgY)
        have f2 : ∀ o, (w7.alloc o).cell? ⟨g, m * 2, none⟩ = some (.int .i64 (lastP recs : Int)) := fun o => HLAST.out _ ((heap_alloc_old w7 o hg3).trans (s7.2 g (.inr hgY)))
        have HP : Hid (ROpenQ w0 A B Y w D' ⟨0, recs, sz, D'⟩ M4 (.returned (.tuple #[.pointer (some ⟨w7.heap.size, 0, none⟩), .slice (some ⟨g, 0, none⟩) recs.length cap, .int .i64 0])) (w7.alloc (.cells #[.pointer (some ⟨B, 0, none⟩), .string nL, .int .i64 (lastP recs : Int), .int .i64 (sz : Int), .bool false] 53 (0, 0)))) := Lib.hid
          (.inr ⟨rfl, w7.heap.size, .slice (some ⟨g, 0, none⟩) recs.length cap, rfl, heap_alloc_new w7 _, ((own_rcs HO.out).stay s7.1 (fun b hb => s7.2 b (.inr hb))).below (below_new w7 _),
            h7.add (below_new w7 _) (fun b hb => by
              rcases hb with k | k | k
              · exact .inl (.inl k)
              · exact .inr ⟨Nat.le_of_eq k.symm, by rw [k]; simp⟩
              · exact .inl (.inr k)),
            (S6.out.trans ⟨s7.1, fun b hb => s7.2 b (.inl hb)⟩).trans ⟨by simp, fun b hb => heap_alloc_old w7 _ (h7.lt (.inl hb))⟩,
            Nat.le_trans S6.out.1 s7.1, HOB.out⟩)
        clear h7 s7 hgY HLAST
        go_wp2_with fail
        go_ret3
        exact HP.out
end
end Wl
end Go.Proofs.YtioidkbpjkcjeaaGreatDoor
