/- Plain facts on numbers' texts. Conditions: those that each theorem names. -/
import Derived.Test.YtdooeedemgmpiaaDoorJsRd
import Derived.Lib.AtoiAll
namespace Go.Proofs.YtdooeedemgmpiaaDoor
open Go Go.RowKit Js

def digS : ByteArray := ⟨#[48, 49, 50, 51, 52, 53, 54, 55, 56, 57]⟩
theorem dig_has (c : UInt8) : digS.data.toList.contains c = digB c := by
  have h : ∀ n, n < 256 → digS.data.toList.contains (UInt8.ofNat n) = digB (UInt8.ofNat n) := by decide +kernel
  have := h c.toNat c.toNat_lt
  simpa using this
theorem takes_one (b : UInt8) (l : Bs) : takes ⟨#[b]⟩ l = headIs (· == b) l := by
  cases l with
  | nil => rfl
  | cons c l => rw [Bool.eq_iff_iff]; simp [takes, headIs]
theorem takes_dig (l : Bs) : takes digS l = headIs digB l := by
  cases l with
  | nil => rfl
  | cons c l => exact dig_has c
theorem skips_dig (l : Bs) : skips digS l = l.dropWhile digB := by
  unfold skips
  rw [show digS.data.toList.contains = digB from funext dig_has]
theorem skipped_dig (l : Bs) : decide ((skips digS l).length < l.length) = headIs digB l := by
  rw [skips_dig]
  cases l with
  | nil => rfl
  | cons c l =>
    rw [List.dropWhile_cons]
    by_cases h : digB c = true
    · have : (l.dropWhile digB).length ≤ l.length := by
        have := skips_le digS l; rwa [skips_dig] at this
      simp [h, headIs]; omega
    · have h' : digB c = false := by simpa using h
      simp [h', headIs]
theorem digits_eq (l : Bs) : digits l = if headIs digB l = true then .ok () (l.dropWhile digB) else .no eJson l := by
  cases l with
  | nil => rfl
  | cons c l =>
    by_cases h : digB c = true
    · rw [digits, if_pos h, if_pos (show headIs digB (c :: l) = true from h), List.dropWhile_cons_of_pos h]
    · rw [digits, if_neg h, if_neg (show ¬ headIs digB (c :: l) = true from h)]
/-- Behind the byte that is taken, if it is. -/
def behind (t : ByteArray) (l : Bs) : Bs := if takes t l = true then l.tail else l
theorem behind_le (t : ByteArray) (l : Bs) : (behind t l).length ≤ l.length := by
  unfold behind; split <;> simp

/-! ### what Atoi makes of a number's text -/
theorem foldl_ge : ∀ (ds : Bs) (a : Nat), a ≤ ds.foldl (fun n c => n * 10 + (c.toNat - 48)) a
  | [], _ => Nat.le_refl _
  | c :: r, a => Nat.le_trans (by omega) (foldl_ge r (a * 10 + (c.toNat - 48)))
theorem parse_ways : ∀ (ds : Bs) (a : Nat), a < 18446744073709551616 → (∀ c ∈ ds, digB c = true) →
    (Lib.parseUint10 a ds = .ok (ds.foldl (fun n c => n * 10 + (c.toNat - 48)) a) ∧ ds.foldl (fun n c => n * 10 + (c.toNat - 48)) a < 18446744073709551616) ∨
    (Lib.parseUint10 a ds = .range ∧ 18446744073709551616 ≤ ds.foldl (fun n c => n * 10 + (c.toNat - 48)) a)
  | [], a, ha, _ => .inl ⟨rfl, ha⟩
  | c :: r, a, ha, hd => by
    have hc : 48 ≤ c.toNat ∧ c.toNat ≤ 57 := by
      have := hd c (List.mem_cons_self ..)
      simpa [digB, UInt8.le_iff_toNat_le] using this
    have hr : ∀ x ∈ r, digB x = true := fun x hx => hd x (List.mem_cons_of_mem _ hx)
    simp only [Lib.parseUint10, List.foldl_cons]
    rw [if_pos hc]
    by_cases h1 : 1844674407370955162 ≤ a
    · rw [if_pos h1]
      exact .inr ⟨rfl, Nat.le_trans (by omega) (foldl_ge r _)⟩
    · rw [if_neg h1]
      by_cases h2 : 18446744073709551616 ≤ a * 10 + (c.toNat - 48)
      · rw [if_pos h2]
        exact .inr ⟨rfl, Nat.le_trans h2 (foldl_ge r _)⟩
      · rw [if_neg h2]
        exact parse_ways r _ (by omega) hr
/-- The number of a sign and digits. -/
def signed (l : Bs) : Int := if headIs (· == 45) l then -(natOf l.tail : Int) else natOf l
theorem atoi_ways (l : Bs) (hd : if headIs (· == 45) l then (∀ c ∈ l.tail, digB c = true) ∧ l.tail ≠ [] else (∀ c ∈ l, digB c = true) ∧ l ≠ []) :
    (Lib.atoiAll l = .ok (signed l) ∧ -9223372036854775808 ≤ signed l ∧ signed l ≤ 9223372036854775807) ∨ (Lib.atoiAll l = .range ∧ (signed l < -maxWhole ∨ maxWhole < signed l)) := by
  unfold signed
  unfold Lib.atoiAll
  cases l with
  | nil => simp [headIs] at hd
  | cons c r =>
    by_cases h : c = 45
    · subst h
      have hh : headIs (· == 45) ((45 : UInt8) :: r) = true := rfl
      rw [if_pos hh] at hd ⊢
      simp only [List.tail_cons] at hd ⊢
      simp only [Lib.parseMag]
      rw [if_pos (show UInt8.toNat 45 = 43 ∨ UInt8.toNat 45 = 45 by decide), if_neg hd.2]
      rcases parse_ways r 0 (by decide) hd.1 with ⟨e, hl⟩ | ⟨e, hl⟩
      · rw [show Lib.parseUint10 0 r = .ok (natOf r) from e]
        change natOf r < _ at hl
        dsimp only
        rw [if_neg (by simp)]
        by_cases h2 : 9223372036854775808 < natOf r
        · rw [if_pos ⟨by decide, h2⟩]
          right; exact ⟨rfl, by unfold maxWhole; omega⟩
        · rw [if_neg (by simp [h2])]
          left; exact ⟨rfl, by omega, by omega⟩
      · rw [e]
        change _ ≤ natOf r at hl
        right; exact ⟨rfl, by unfold maxWhole; omega⟩
    · have hb : (c == 45) = false := by simpa using h
      have hh : ¬ headIs (· == 45) (c :: r) = true := by simpa [headIs] using h
      rw [if_neg hh] at hd ⊢
      have hc := hd.1 c (List.mem_cons_self ..)
      have hc' : 48 ≤ c.toNat ∧ c.toNat ≤ 57 := by simpa [digB, UInt8.le_iff_toNat_le] using hc
      have n45 : ¬ c.toNat = 45 := by omega
      have n43 : ¬ c.toNat = 43 := by omega
      simp only [n45, n43, or_self, if_false, Lib.parseMag]
      rw [if_neg (by simp)]
      rcases parse_ways (c :: r) 0 (by decide) hd.1 with ⟨e, hl⟩ | ⟨e, hl⟩
      · rw [show Lib.parseUint10 0 (c :: r) = .ok (natOf (c :: r)) from e]
        change natOf (c :: r) < _ at hl
        dsimp only
        by_cases h2 : 9223372036854775808 ≤ natOf (c :: r)
        · rw [if_pos ⟨by simp, h2⟩]
          right; exact ⟨rfl, by unfold maxWhole; omega⟩
        · rw [if_neg (by simp [h2]), if_neg (by simp)]
          left; exact ⟨by simp, by omega, by omega⟩
      · rw [e]
        change _ ≤ natOf (c :: r) at hl
        right; exact ⟨rfl, by unfold maxWhole; omega⟩

/-! ### the number in the words of the calls -/
theorem whole_eq (l : Bs) : wholeB l = if takes ⟨#[48]⟩ (behind ⟨#[45]⟩ l) = true then .ok () (behind ⟨#[45]⟩ l).tail else if decide ((skips digS (behind ⟨#[45]⟩ l)).length < (behind ⟨#[45]⟩ l).length) = true then .ok () (skips digS (behind ⟨#[45]⟩ l)) else .no eJson (behind ⟨#[45]⟩ l) := by
  have e : behind ⟨#[45]⟩ l = if headIs (· == 45) l then l.tail else l := by unfold behind; rw [takes_one]
  rw [skipped_dig, takes_one, skips_dig, e, wholeB, digits_eq]
theorem frac_eq (l : Bs) : fracB l = if takes ⟨#[46]⟩ l = true then (if decide ((skips digS l.tail).length < l.tail.length) = true then .ok () (skips digS l.tail) else .no eJson l.tail) else .ok () l := by
  rw [skipped_dig, takes_one, skips_dig, fracB, digits_eq]
theorem takes_two (a b : UInt8) (l : Bs) : takes ⟨#[a, b]⟩ l = headIs (fun c => c == a || c == b) l := by
  cases l with
  | nil => rfl
  | cons c l => rw [Bool.eq_iff_iff]; simp [takes, headIs]
theorem exp_eq (l : Bs) : expB l = if takes ⟨#[101, 69]⟩ l = true then (if decide ((skips digS (behind ⟨#[43, 45]⟩ l.tail)).length < (behind ⟨#[43, 45]⟩ l.tail).length) = true then .ok () (skips digS (behind ⟨#[43, 45]⟩ l.tail)) else .no eJson (behind ⟨#[43, 45]⟩ l.tail)) else .ok () l := by
  have e : behind ⟨#[43, 45]⟩ l.tail = if headIs (fun c => c == 43 || c == 45) l.tail then l.tail.tail else l.tail := by unfold behind; rw [takes_two]
  rw [skipped_dig, skips_dig, takes_two, e, expB, digits_eq]
/-- The bytes ahead of the rest. -/
theorem whole_part {l r : Bs} (h : wholeB l = .ok () r) : ∃ p, l = p ++ r ∧ (if headIs (· == 45) p then (∀ c ∈ p.tail, digB c = true) ∧ p.tail ≠ [] else (∀ c ∈ p, digB c = true) ∧ p ≠ []) ∧
    signed p = (if headIs (· == 45) l then -(natOf ((if headIs (· == 45) l then l.tail else l).take ((if headIs (· == 45) l then l.tail else l).length - r.length)) : Int) else natOf ((if headIs (· == 45) l then l.tail else l).take ((if headIs (· == 45) l then l.tail else l).length - r.length))) := by
  have core : ∀ m : Bs, (if headIs (· == 48) m = true then (R.ok () m.tail : R Unit) else digits m) = .ok () r → ∃ p, m = p ++ r ∧ (∀ c ∈ p, digB c = true) ∧ p ≠ [] ∧ headIs (· == 45) p = false ∧ m.take (m.length - r.length) = p := by
    intro m hm
    cases m with
    | nil => simp [headIs, digits] at hm
    | cons c q =>
      by_cases h0 : c = 48
      · subst h0
        simp [headIs] at hm
        subst hm
        refine ⟨[48], rfl, by decide, by simp, rfl, ?_⟩
        simp
      · have : headIs (· == 48) (c :: q) = false := by simpa [headIs] using h0
        rw [this, if_neg (by simp), digits_eq] at hm
        by_cases hd : headIs digB (c :: q) = true
        · rw [if_pos hd] at hm
          injection hm with _ hm
          subst hm
          have hdc : digB c = true := hd
          have hp : (c :: q).takeWhile digB ++ (c :: q).dropWhile digB = c :: q := List.takeWhile_append_dropWhile
          refine ⟨(c :: q).takeWhile digB, hp.symm, fun x hx => List.all_eq_true.1 (List.all_takeWhile) x hx, ?_, ?_, ?_⟩
          · rw [List.takeWhile_cons_of_pos hdc]; simp
          · rw [List.takeWhile_cons_of_pos hdc]
            show (c == 45) = false
            have hc' : 48 ≤ c.toNat ∧ c.toNat ≤ 57 := by simpa [digB, UInt8.le_iff_toNat_le] using hdc
            simp only [beq_eq_false_iff_ne]; intro e; subst e; simp at hc'
          · have hlen := congrArg List.length hp
            rw [List.length_append] at hlen
            rw [show (c :: q).length - ((c :: q).dropWhile digB).length = ((c :: q).takeWhile digB).length by omega]
            conv => lhs; arg 2; rw [← hp]
            exact List.take_left
        · rw [if_neg hd] at hm; cases hm
  unfold wholeB at h
  by_cases hs : headIs (· == 45) l = true
  · simp only [hs, if_true] at h ⊢
    obtain ⟨p, h1, h2, h3, h4, h5⟩ := core l.tail h
    cases l with
    | nil => simp [headIs] at hs
    | cons c q =>
      have hc : c = 45 := by simpa [headIs] using hs
      subst hc
      refine ⟨45 :: p, by simp only [List.tail_cons] at h1; rw [h1]; rfl, by simp [headIs]; exact ⟨by simpa using h2, h3⟩, ?_⟩
      simp only [List.tail_cons] at h5
      simp [signed, headIs, h5]
  · have hs' : headIs (· == 45) l = false := by simpa using hs
    simp only [hs', if_false, Bool.false_eq_true] at h ⊢
    obtain ⟨p, h1, h2, h3, h4, h5⟩ := core l h
    refine ⟨p, h1, by rw [h4]; simp; exact ⟨by simpa using h2, h3⟩, ?_⟩
    rw [h5, signed, h4]; rfl
end Go.Proofs.YtdooeedemgmpiaaDoor
