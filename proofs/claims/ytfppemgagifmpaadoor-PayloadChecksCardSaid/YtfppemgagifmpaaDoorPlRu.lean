/- The document's runes, plain: the rune at the head of bytes, and that a text is runes just if the library says so. Conditions: those that each theorem names. -/
import Derived.Test.YtfppemgagifmpaaDoorProg
import Derived.Lib.Hide
import Derived.Lib.ValidLaws
namespace Go.Proofs.YtfppemgagifmpaaDoor
set_option linter.unusedVariables false
open Go
namespace Ru
def contB (d : UInt8) : Bool := decide (128 ≤ d.toNat) && decide (d.toNat < 192)
def more (v : Nat) (d : UInt8) : Nat := v * 64 + d.toNat - 128
def endR (n least v : Nat) : Nat × Nat := if v < least ∨ 1114111 < v ∨ (55296 ≤ v ∧ v < 57344) then (0, 0) else (n, v)
/-- A rune of n bytes, of which the first gave v; t are the others. -/
def tailR (n least v : Nat) (t : List UInt8) : Nat × Nat :=
  if t.length + 1 < n then (0, 0) else if (t.take (n - 1)).all contB then endR n least ((t.take (n - 1)).foldl more v) else (0, 0)
def runeR : List UInt8 → Nat × Nat
  | [] => (0, 0)
  | b :: t => if b.toNat < 128 then (1, b.toNat) else if 192 ≤ b.toNat ∧ b.toNat < 224 then tailR 2 128 (b.toNat - 192) t
    else if 224 ≤ b.toNat ∧ b.toNat < 240 then tailR 3 2048 (b.toNat - 224) t else if 240 ≤ b.toNat ∧ b.toNat < 248 then tailR 4 65536 (b.toNat - 240) t else (0, 0)
theorem runeR_cons (b : UInt8) (t : List UInt8) : runeR (b :: t) = if b.toNat < 128 then (1, b.toNat) else if 192 ≤ b.toNat ∧ b.toNat < 224 then tailR 2 128 (b.toNat - 192) t
    else if 224 ≤ b.toNat ∧ b.toNat < 240 then tailR 3 2048 (b.toNat - 224) t else if 240 ≤ b.toNat ∧ b.toNat < 248 then tailR 4 65536 (b.toNat - 240) t else (0, 0) := rfl
open Go.Lib in
theorem check_lead (n b0 b1 b2 b3 : Nat) (h0 : 128 ≤ b0) (h0' : b0 < 256) :
    checkN n b1 b2 b3 (firstT b0 % 8) (accLo (firstT b0 / 16)) (accHi (firstT b0 / 16)) =
      if b0 < 194 ∨ 245 ≤ b0 then none
      else if b0 < 224 then (if n < 2 ∨ b1 < 128 ∨ 191 < b1 then none else some 2)
      else if b0 < 240 then (if n < 3 ∨ b1 < (if b0 = 224 then 160 else 128) ∨ (if b0 = 237 then 159 else 191) < b1 ∨ b2 < 128 ∨ 191 < b2 then none else some 3)
      else (if n < 4 ∨ b1 < (if b0 = 240 then 144 else 128) ∨ (if b0 = 244 then 143 else 191) < b1 ∨ b2 < 128 ∨ 191 < b2 ∨ b3 < 128 ∨ 191 < b3 then none else some 4) := by
  by_cases c0 : b0 < 194
  · simp [firstT, checkN, show ¬ b0 < 128 by omega, c0]
  by_cases c1 : b0 < 224
  · simp [firstT, checkN, accLo, accHi, show ¬ b0 < 128 by omega, c0, c1, show ¬ 245 ≤ b0 by omega]
  by_cases c2 : b0 = 224
  · subst c2; simp [firstT, checkN, accLo, accHi]
  by_cases c3 : b0 < 237
  · simp [firstT, checkN, accLo, accHi, show ¬ b0 < 128 by omega, c0, c1, c2, c3, show ¬ 245 ≤ b0 by omega, show b0 < 240 by omega, show ¬ b0 = 237 by omega]
  by_cases c4 : b0 = 237
  · subst c4; simp [firstT, checkN, accLo, accHi]
  by_cases c5 : b0 < 240
  · simp [firstT, checkN, accLo, accHi, show ¬ b0 < 128 by omega, c0, c1, c2, c3, c4, c5, show ¬ 245 ≤ b0 by omega]
  by_cases c6 : b0 = 240
  · subst c6; simp [firstT, checkN, accLo, accHi]
  by_cases c7 : b0 < 244
  · simp [firstT, checkN, accLo, accHi, show ¬ b0 < 128 by omega, c0, c1, c2, c3, c4, c5, c6, c7, show ¬ 245 ≤ b0 by omega, show ¬ b0 = 244 by omega]
  by_cases c8 : b0 = 244
  · subst c8; simp [firstT, checkN, accLo, accHi]
  · simp [firstT, checkN, accLo, accHi, show ¬ b0 < 128 by omega, c0, c1, c2, c3, c4, c5, c6, c7, c8, show 245 ≤ b0 by omega]
theorem tail2 (least v : Nat) (d1 : UInt8) (t : List UInt8) : tailR 2 least v (d1 :: t) = if contB d1 = true then endR 2 least (more v d1) else (0, 0) := by
  unfold tailR
  rw [if_neg (by simp only [List.length_cons]; omega)]
  show (if (contB d1 && true) = true then _ else _) = _
  rw [Bool.and_true]; rfl
theorem tail3 (least v : Nat) (d1 d2 : UInt8) (t : List UInt8) : tailR 3 least v (d1 :: d2 :: t) = if (contB d1 && contB d2) = true then endR 3 least (more (more v d1) d2) else (0, 0) := by
  unfold tailR
  rw [if_neg (by simp only [List.length_cons]; omega)]
  show (if (contB d1 && (contB d2 && true)) = true then _ else _) = _
  rw [Bool.and_true]; rfl
theorem tail4 (least v : Nat) (d1 d2 d3 : UInt8) (t : List UInt8) : tailR 4 least v (d1 :: d2 :: d3 :: t) = if (contB d1 && (contB d2 && contB d3)) = true then endR 4 least (more (more (more v d1) d2) d3) else (0, 0) := by
  unfold tailR
  rw [if_neg (by simp only [List.length_cons]; omega)]
  show (if (contB d1 && (contB d2 && (contB d3 && true))) = true then _ else _) = _
  rw [Bool.and_true]; rfl
theorem tail_short {n least v : Nat} {t : List UInt8} (h : t.length + 1 < n) : tailR n least v t = (0, 0) := by unfold tailR; rw [if_pos h]
theorem more_val (v : Nat) (d : UInt8) : more v d = v * 64 + d.toNat - 128 := rfl
theorem fst_end (n least v : Nat) : (endR n least v).1 = if v < least ∨ 1114111 < v ∨ (55296 ≤ v ∧ v < 57344) then 0 else n := by unfold endR; split <;> rfl
theorem cont_iff (d : UInt8) : contB d = true ↔ 128 ≤ d.toNat ∧ d.toNat < 192 := by unfold contB; simp
/-- A text is runes just if its first rune is one, and so is the rest. -/
theorem valid_rune (b : UInt8) (t : List UInt8) : Lib.validD (b :: t) = (!((runeR (b :: t)).1 == 0) && Lib.validD ((b :: t).drop (runeR (b :: t)).1)) := by
  by_cases hb : b.toNat < 128
  · have e : (runeR (b :: t)).1 = 1 := by rw [runeR_cons, if_pos hb]
    rw [e, Lib.validD_cons b t hb]; simp
  have hb' : b.toNat < 256 := b.toNat_lt
  rw [Lib.validD_lead (b :: t) (by simp) (by simp; omega), check_lead _ _ _ _ _ (by simp; omega) (by simp; omega)]
  have e0 : ((b :: t).getD 0 0) = b := rfl
  rw [e0]
  have key : ∀ x : Option Nat, x = (if (runeR (b :: t)).1 = 0 then none else some (runeR (b :: t)).1) → (match x with | none => false | some k => Lib.validD ((b :: t).drop k)) = (!((runeR (b :: t)).1 == 0) && Lib.validD ((b :: t).drop (runeR (b :: t)).1)) := by
    intro x hx
    subst hx
    by_cases c : (runeR (b :: t)).1 = 0 <;> simp [c]
  apply key
  rw [runeR_cons, if_neg hb]
  generalize b.toNat = c at *
  by_cases c0 : c < 192
  · simp [show c < 194 by omega, show ¬ 192 ≤ c by omega, show ¬ 224 ≤ c by omega, show ¬ 240 ≤ c by omega]
  by_cases c1 : c < 224
  · rw [if_pos (show 192 ≤ c ∧ c < 224 by omega)]
    rcases t with _ | ⟨d1, t⟩
    · rw [tail_short (by simp)]; simp [c1]
    · have l2 : ¬ ((b :: d1 :: t).length < 2) := by simp
      have g1 : (b :: d1 :: t).getD 1 0 = d1 := rfl
      rw [g1, tail2]
      generalize hE : endR 2 128 (more (c - 192) d1) = E
      simp only [l2, false_or, c1, if_true]
      subst hE
      unfold more
      by_cases k1 : contB d1 = true
      · rw [if_pos k1, fst_end]
        rw [cont_iff] at k1
        generalize d1.toNat = d at *
        (repeat' split) <;> first | rfl | (exfalso; omega) | (simp; done)
      · rw [if_neg k1]
        rw [cont_iff] at k1
        generalize d1.toNat = d at *
        (repeat' split) <;> first | rfl | (exfalso; omega) | (simp; done)
  by_cases c2 : c < 240
  · rw [if_neg (show ¬ (192 ≤ c ∧ c < 224) by omega), if_pos (show 224 ≤ c ∧ c < 240 by omega), if_neg (show ¬ (c < 194 ∨ 245 ≤ c) by omega), if_neg c1, if_pos c2]
    rcases t with _ | ⟨d1, _ | ⟨d2, t⟩⟩
    · rw [tail_short (by simp)]; simp
    · rw [tail_short (by simp)]; simp
    · have l2 : ¬ ((b :: d1 :: d2 :: t).length < 3) := by simp
      have g1 : (b :: d1 :: d2 :: t).getD 1 0 = d1 := rfl
      have g2 : (b :: d1 :: d2 :: t).getD 2 0 = d2 := rfl
      rw [g1, g2, tail3]
      generalize hE : endR 3 2048 (more (more (c - 224) d1) d2) = E
      simp only [l2, false_or]
      subst hE
      unfold more
      by_cases k1 : (contB d1 && contB d2) = true
      · rw [if_pos k1, fst_end]
        rw [Bool.and_eq_true, cont_iff, cont_iff] at k1
        generalize d1.toNat = d at *
        generalize d2.toNat = d' at *
        (repeat' split) <;> first | rfl | (exfalso; omega) | (simp; done)
      · rw [if_neg k1]
        rw [Bool.and_eq_true, cont_iff, cont_iff] at k1
        generalize d1.toNat = d at *
        generalize d2.toNat = d' at *
        (repeat' split) <;> first | rfl | (exfalso; omega) | (simp; done)
  by_cases c3 : c < 248
  · rw [if_neg (show ¬ (192 ≤ c ∧ c < 224) by omega), if_neg (show ¬ (224 ≤ c ∧ c < 240) by omega), if_pos (show 240 ≤ c ∧ c < 248 by omega)]
    rcases t with _ | ⟨d1, _ | ⟨d2, _ | ⟨d3, t⟩⟩⟩
    · rw [tail_short (by simp)]; simp [c1, c2]
    · rw [tail_short (by simp)]; simp [c1, c2]
    · rw [tail_short (by simp)]; simp [c1, c2]
    · have l2 : ¬ ((b :: d1 :: d2 :: d3 :: t).length < 4) := by simp
      have g1 : (b :: d1 :: d2 :: d3 :: t).getD 1 0 = d1 := rfl
      have g2 : (b :: d1 :: d2 :: d3 :: t).getD 2 0 = d2 := rfl
      have g3 : (b :: d1 :: d2 :: d3 :: t).getD 3 0 = d3 := rfl
      rw [g1, g2, g3, tail4]
      generalize hE : endR 4 65536 (more (more (more (c - 240) d1) d2) d3) = E
      simp only [l2, false_or, c1, c2, if_false]
      subst hE
      unfold more
      by_cases k1 : (contB d1 && (contB d2 && contB d3)) = true
      · rw [if_pos k1, fst_end]
        rw [Bool.and_eq_true, Bool.and_eq_true, cont_iff, cont_iff, cont_iff] at k1
        generalize d1.toNat = d at *
        generalize d2.toNat = d' at *
        generalize d3.toNat = d'' at *
        (repeat' split) <;> first | rfl | (exfalso; omega) | (simp; done)
      · rw [if_neg k1]
        rw [Bool.and_eq_true, Bool.and_eq_true, cont_iff, cont_iff, cont_iff] at k1
        generalize d1.toNat = d at *
        generalize d2.toNat = d' at *
        generalize d3.toNat = d'' at *
        (repeat' split) <;> first | rfl | (exfalso; omega) | (simp; done)
  · rw [if_neg (show ¬ (192 ≤ c ∧ c < 224) by omega), if_neg (show ¬ (224 ≤ c ∧ c < 240) by omega), if_neg (show ¬ (240 ≤ c ∧ c < 248) by omega), if_pos (by omega)]; simp
end Ru
end Go.Proofs.YtfppemgagifmpaaDoor
