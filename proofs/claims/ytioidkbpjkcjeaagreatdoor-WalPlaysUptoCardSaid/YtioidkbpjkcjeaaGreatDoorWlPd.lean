/- The log's file on both disks, plain: what each of its methods does to each, and that they stay alike. Conditions: those that each theorem names. -/
import Derived.Test.YtioidkbpjkcjeaaGreatDoorWlFile
import Derived.Test.YtioidkbpjkcjeaaGreatDoorGaF
namespace Go.Proofs.YtioidkbpjkcjeaaGreatDoor
set_option linter.unusedVariables false
open Go Go.RowKit Dk
namespace Wl
theorem scan_facts : ∀ (n p : Nat) (s : List UInt8), s.length ≤ n → ((scan p s).err = 0 ∨ (scan p s).err = 90 ∨ (scan p s).err = 91) ∧ ∀ x ∈ (scan p s).recs, 1 ≤ x.1 ∧ x.1 ≤ 4503599627370496 := by
  intro n
  induction n with
  | zero =>
    intro p s hs
    obtain rfl := List.eq_nil_of_length_eq_zero (Nat.le_zero.1 hs)
    rw [scan_nil]; simp
  | succ n ih =>
    intro p s hs
    by_cases h0 : s = []
    · subst h0; rw [scan_nil]; simp
    · cases h : recOf s with
      | torn => rw [scan_torn h0 h]; simp
      | bad => rw [scan_bad h0 h]; simp
      | ok q b =>
        by_cases hp : p ≠ 0 ∧ q ≠ p + 1
        · rw [scan_off h0 h hp]; simp
        · rw [scan_next h0 h hp]
          obtain ⟨h1, h4, h5, _⟩ := one_ok h
          obtain ⟨h2, h3⟩ := ih q (s.drop (20 + b.length)) (by simp; omega)
          refine ⟨h2, fun x hx => ?_⟩
          rcases List.mem_cons.1 hx with rfl | hx
          · exact ⟨h4, h5⟩
          · exact h3 x hx
/-! ### what the methods do -/
def beginD (D : DSt) : Int × DSt := if (writeD D nL ⟨#[]⟩).2.1 ≠ 0 then (writeD D nL ⟨#[]⟩).2 else syncNamesD (writeD D nL ⟨#[]⟩).2.2
def freadD (D : DSt) : Nm × Int × DSt :=
  if askD D nL = 0 then (readD D nL, 0, D) else if (beginD D).1 ≠ 0 then (⟨#[]⟩, beginD D) else (readD (beginD D).2 nL, askD (beginD D).2 nL, (beginD D).2)
def settleD (D : DSt) (z : Int) (t : Bool) : Int × DSt := if t = true then (if (cutD D nL z).1 ≠ 0 then cutD D nL z else syncD (cutD D nL z).2 nL) else syncD D nL
theorem ask_nL (D : DSt) : askD D nL = 0 ∨ askD D nL = 20 := by
  rcases askD_ways D nL with ⟨h, _⟩ | ⟨_, _, h⟩ | ⟨_, _, _, h⟩
  · rw [nL_full] at h; cases h
  · exact .inr h
  · exact .inl h
/-! ### the document's -/
def beginR (M : RSt) : Int × RSt := if (writeR M nL ⟨#[]⟩).2.1 ≠ 0 then (writeR M nL ⟨#[]⟩).2 else syncNamesR (writeR M nL ⟨#[]⟩).2.2
def freadR (M : RSt) : RSt := if askE M nL = 0 then M else (beginR M).2
def cutNat (M : RSt) (z : Int) : Nat := (max 0 (min z ((fileOf M nL).data.length : Int))).toNat
def settleR (D : DSt) (M : RSt) (z : Int) (t : Bool) : RSt := if t = true then (if (cutD D nL z).1 ≠ 0 then (cutR M nL (cutNat M z)).2 else (syncR (cutR M nL (cutNat M z)).2 nL).2) else (syncR M nL).2
/-! ### alike -/
section
variable {D : DSt} {M : RSt} {φ : Nat → Nat} {c k : Nat}
theorem two_begin (h : Dk.Twin φ D M) (b : DBd c k D) (m : MBd c k M) : (beginR M).1 = (beginD D).1 ∧ (∃ ψ, Dk.Twin ψ (beginD D).2 (beginR M).2) ∧ DBd c (k + 2) (beginD D).2 ∧ MBd c (k + 2) (beginR M).2 := by
  have hz : (⟨#[]⟩ : ByteArray).size ≤ c := Nat.zero_le _
  obtain ⟨b1, m1⟩ := bd_write b m h nL ⟨#[]⟩ hz
  obtain ⟨-, e1, ψ, t1⟩ := two_write h b.plan nL ⟨#[]⟩
  unfold beginD beginR
  by_cases h0 : (writeD D nL ⟨#[]⟩).2.1 ≠ 0
  · rw [if_pos h0, if_pos (by rw [e1]; exact h0)]
    exact ⟨e1, ⟨ψ, t1⟩, b1.more, m1.more⟩
  · rw [if_neg h0, if_neg (by rw [e1]; exact h0)]
    obtain ⟨e2, t2⟩ := two_syncNames t1
    obtain ⟨b2, m2⟩ := bd_syncNames b1 m1
    exact ⟨e2, ⟨ψ, t2⟩, b2, m2⟩
theorem two_fread (h : Dk.Twin φ D M) (b : DBd c k D) (m : MBd c k M) : (∃ ψ, Dk.Twin ψ (freadD D).2.2 (freadR M)) ∧ DBd c (k + 2) (freadD D).2.2 ∧ MBd c (k + 2) (freadR M) := by
  obtain ⟨e1, t1, b1, m1⟩ := two_begin h b m
  unfold freadD freadR
  rw [h.ask]
  by_cases h0 : askD D nL = 0
  · rw [if_pos h0, if_pos h0]
    exact ⟨⟨φ, h⟩, b.more.more, m.more.more⟩
  · rw [if_neg h0, if_neg h0]
    by_cases h1 : (beginD D).1 ≠ 0
    · rw [if_pos h1]; exact ⟨t1, b1, m1⟩
    · rw [if_neg h1]; exact ⟨t1, b1, m1⟩
theorem two_settle (h : Dk.Twin φ D M) (b : DBd c k D) (m : MBd c k M) (z : Int) (t : Bool) : Dk.Twin φ (settleD D z t).2 (settleR D M z t) ∧ DBd c (k + 2) (settleD D z t).2 ∧ MBd c (k + 2) (settleR D M z t) := by
  unfold settleD settleR
  cases t
  · rw [if_neg (by decide), if_neg (by decide)]
    obtain ⟨b1, m1⟩ := bd_sync b m h nL
    exact ⟨(two_sync h nL).2, b1.more, m1.more⟩
  · rw [if_pos rfl, if_pos rfl]
    obtain ⟨b1, m1⟩ := bd_cut b m h nL z (cutNat M z)
    have t1 : Dk.Twin φ (cutD D nL z).2 (cutR M nL (cutNat M z)).2 := (two_cut h nL z (cutNat M z) (by unfold cutNat; omega)).2
    by_cases h1 : (cutD D nL z).1 ≠ 0
    · rw [if_pos h1, if_pos h1]
      exact ⟨t1, b1.more, m1.more⟩
    · rw [if_neg h1, if_neg h1]
      obtain ⟨b2, m2⟩ := bd_sync b1 m1 t1 nL
      exact ⟨(two_sync t1 nL).2, b2, m2⟩
end
/-! ### Open -/
structure OpR where
  err : Int
  recs : List Rc
  size : Nat
  D : DSt
def openD (D : DSt) : OpR :=
  if (freadD D).2.1 ≠ 0 then ⟨(freadD D).2.1, [], 0, (freadD D).2.2⟩ else
  if (scan 0 (freadD D).1.data.toList).err = 90 then ⟨90, [], 0, (freadD D).2.2⟩ else
  if (settleD (freadD D).2.2 ((scan 0 (freadD D).1.data.toList).size : Int) (decide ((scan 0 (freadD D).1.data.toList).err = 91))).1 ≠ 0 then ⟨(settleD (freadD D).2.2 ((scan 0 (freadD D).1.data.toList).size : Int) (decide ((scan 0 (freadD D).1.data.toList).err = 91))).1, [], 0, (settleD (freadD D).2.2 ((scan 0 (freadD D).1.data.toList).size : Int) (decide ((scan 0 (freadD D).1.data.toList).err = 91))).2⟩ else
  ⟨0, (scan 0 (freadD D).1.data.toList).recs, (scan 0 (freadD D).1.data.toList).size, (settleD (freadD D).2.2 ((scan 0 (freadD D).1.data.toList).size : Int) (decide ((scan 0 (freadD D).1.data.toList).err = 91))).2⟩
def openR (D : DSt) (M : RSt) : RSt :=
  if (freadD D).2.1 ≠ 0 ∨ (scan 0 (freadD D).1.data.toList).err = 90 then freadR M else
  settleR (freadD D).2.2 (freadR M) ((scan 0 (freadD D).1.data.toList).size : Int) (decide ((scan 0 (freadD D).1.data.toList).err = 91))
theorem two_open {D : DSt} {M : RSt} {φ : Nat → Nat} {c k : Nat} (h : Dk.Twin φ D M) (b : DBd c k D) (m : MBd c k M) : (∃ ψ, Dk.Twin ψ (openD D).D (openR D M)) ∧ DBd c (k + 4) (openD D).D ∧ MBd c (k + 4) (openR D M) := by
  obtain ⟨⟨ψ, t1⟩, b1, m1⟩ := two_fread h b m
  unfold openD openR
  generalize freadD D = O at *
  generalize freadR M = M1 at *
  by_cases h1 : O.2.1 ≠ 0
  · rw [if_pos h1, if_pos (.inl h1)]
    exact ⟨⟨ψ, t1⟩, b1.more.more, m1.more.more⟩
  rw [if_neg h1]
  by_cases h2 : (scan 0 O.1.data.toList).err = 90
  · rw [if_pos h2, if_pos (.inr h2)]
    exact ⟨⟨ψ, t1⟩, b1.more.more, m1.more.more⟩
  have h3 : ¬ (O.2.1 ≠ 0 ∨ (scan 0 O.1.data.toList).err = 90) := fun e => e.elim h1 h2
  rw [if_neg h2, if_neg h3]
  obtain ⟨t2, b2, m2⟩ := two_settle t1 b1 m1 ((scan 0 O.1.data.toList).size : Int) (decide ((scan 0 O.1.data.toList).err = 91))
  split
  · exact ⟨⟨ψ, t2⟩, b2, m2⟩
  · exact ⟨⟨ψ, t2⟩, b2, m2⟩
end Wl
end Go.Proofs.YtioidkbpjkcjeaaGreatDoor
