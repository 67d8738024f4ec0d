/- Digits without a nought ahead, and texts cut at a byte: over plain bytes. No program is named here. Conditions: none but those that each theorem names. -/
import Derived.RowKit
import Derived.Lib.IndexMore
import Derived.Lib.ItoaNum
import Derived.Lib.AtoiAll
import Derived.Lib.Split
namespace Go.Proofs.YtgpedeagaghpfaaGreatDoor
set_option linter.unusedVariables false
open Go
namespace Mf
abbrev Bs := List UInt8
def digB (c : UInt8) : Bool := 48 ≤ c && c ≤ 57
theorem index_cons (b : UInt8) (l sub : Bs) : Lib.index (b :: l) sub = if sub.isPrefixOf (b :: l) then 0 else if Lib.index l sub == -1 then -1 else Lib.index l sub + 1 := by rw [Lib.index]
theorem ofNat8 (n : Nat) (h : n < 256) : (UInt8.ofNat n).toNat = n := by rw [UInt8.toNat_ofNat']; omega
/-! ### where a text begins within another one -/
theorem index_past (c : UInt8) (sub : Bs) : ∀ (x t : Bs), c ∉ x → Lib.index (x ++ t) (c :: sub) = if Lib.index t (c :: sub) = -1 then -1 else Lib.index t (c :: sub) + x.length
  | [], t, _ => by simp
  | b :: x, t, h => by
    have hb : c ≠ b := fun e => h (by simp [e])
    have hx : c ∉ x := fun e => h (by simp [e])
    have ih := index_past c sub x t hx
    have hge := Lib.index_ge t (c :: sub)
    rw [List.cons_append, index_cons]
    have hp : (c :: sub).isPrefixOf (b :: (x ++ t)) = false := by simp [List.isPrefixOf, hb]
    rw [hp, ih]
    by_cases h1 : Lib.index t (c :: sub) = -1
    · rw [if_pos h1, if_pos h1]; simp
    · rw [if_neg h1, if_neg h1]
      have h2 : ((Lib.index t (c :: sub) + (x.length : Int)) == -1) = false := by rw [beq_eq_false_iff_ne]; omega
      rw [h2]
      simp only [List.length_cons, Bool.false_eq_true, if_false]
      omega
theorem index_here (sub t : Bs) : Lib.index (sub ++ t) sub = 0 := by
  cases h : sub ++ t with
  | nil =>
    have : sub = [] := (List.append_eq_nil_iff.1 h).1
    subst this
    rfl
  | cons b l =>
    rw [index_cons]
    have : sub.isPrefixOf (b :: l) = true := by rw [← h, List.isPrefixOf_iff_prefix]; exact List.prefix_append _ _
    rw [this]; rfl
theorem index_at (c : UInt8) (x t : Bs) (h : c ∉ x) : Lib.index (x ++ c :: t) [c] = (x.length : Int) := by
  have h0 := index_here [c] t
  rw [show [c] ++ t = c :: t from rfl] at h0
  rw [index_past c [] x _ h, h0]; simp
theorem cut_at (c : UInt8) (x t : Bs) (h : c ∉ x) : Lib.cut (x ++ c :: t) [c] = (x, t, true) := by
  have hi := index_at c x t h
  unfold Lib.cut
  rw [hi, if_pos (by omega)]
  simp only [Int.toNat_natCast, List.take_left, Prod.mk.injEq, and_true, true_and]
  rw [show x ++ c :: t = (x ++ [c]) ++ t by simp, show x.length + [c].length = (x ++ [c]).length by simp]
  exact List.drop_left
theorem index_none (c : UInt8) (x : Bs) (h : c ∉ x) : Lib.index x [c] = -1 := by
  have := index_past c [] x [] h
  rw [List.append_nil] at this
  rw [this]
  have h0 : Lib.index [] [c] = -1 := by unfold Lib.index; simp
  rw [h0, if_pos rfl]
theorem cut_none (c : UInt8) (x : Bs) (h : c ∉ x) : Lib.cut x [c] = (x, [], false) := by
  unfold Lib.cut
  rw [index_none c x h, if_neg (by omega)]
/-! ### lines cut off one by one -/
def joinL (L : List Bs) : Bs := L.flatMap (· ++ [10])
theorem joinL_cons (x : Bs) (L : List Bs) : joinL (x :: L) = x ++ 10 :: joinL L := by simp [joinL]
theorem splitK_hit (c : UInt8) (x t : Bs) (k : Nat) (h : c ∉ x) : Lib.splitK [c] 0 (k + 1) (x ++ c :: t) = x :: Lib.splitK [c] 0 k t := by
  have hi := index_at c x t h
  rw [Lib.splitK]
  have hne : (Lib.index (x ++ c :: t) [c] == -1) = false := by rw [hi, beq_eq_false_iff_ne]; omega
  rw [hne]
  simp only [Bool.false_eq_true, if_false, hi, Int.toNat_natCast, Nat.add_zero, List.take_left]
  rw [show x ++ c :: t = (x ++ [c]) ++ t by simp, show x.length + [c].length = (x ++ [c]).length by simp, List.drop_left]
theorem splitK_lines : ∀ (L : List Bs) (t : Bs) (k : Nat), (∀ x ∈ L, (10 : UInt8) ∉ x) → Lib.splitK [10] 0 (L.length + k) (joinL L ++ t) = L ++ Lib.splitK [10] 0 k t
  | [], t, k, _ => by simp [joinL]
  | x :: L, t, k, h => by
    rw [joinL_cons, List.append_assoc, List.cons_append, show (x :: L).length + k = (L.length + k) + 1 by simp; omega, splitK_hit 10 x _ _ (h x (by simp)), splitK_lines L t k (fun y hy => h y (by simp [hy]))]
    rfl
/-! ### numbers in digits -/
theorem digB_iff (b : UInt8) : digB b = true ↔ 48 ≤ b.toNat ∧ b.toNat ≤ 57 := by
  simp [digB, UInt8.le_iff_toNat_le]
theorem dec_all (u : Nat) : (Lib.decDigits u).all digB = true ∧ Lib.decDigits u ≠ [] := by
  induction u using Nat.strongRecOn with
  | _ u ih =>
    rw [Lib.decDigits]
    split
    · rename_i h
      refine ⟨?_, by simp⟩
      have e : (UInt8.ofNat (48 + u)).toNat = 48 + u := ofNat8 _ (by omega)
      simp [digB, UInt8.le_iff_toNat_le]
      omega
    · rename_i h
      refine ⟨?_, by simp⟩
      have e : (UInt8.ofNat (48 + u % 10)).toNat = 48 + u % 10 := ofNat8 _ (by omega)
      rw [List.all_append, (ih (u / 10) (by omega)).1]
      simp [digB, UInt8.le_iff_toNat_le]
      omega
theorem dec_head (u : Nat) (h : 1 ≤ u) : (Lib.decDigits u).head? ≠ some 48 := by
  induction u using Nat.strongRecOn with
  | _ u ih =>
    rw [Lib.decDigits]
    split
    · rename_i h1
      intro e
      have e2 : UInt8.ofNat (48 + u) = 48 := by simpa using e
      have := congrArg UInt8.toNat e2
      rw [ofNat8 _ (by omega)] at this
      have h48 : (48 : UInt8).toNat = 48 := rfl
      omega
    · rename_i h1
      have := ih (u / 10) (by omega) (by omega)
      cases hd : Lib.decDigits (u / 10) with
      | nil => exact absurd hd (dec_all _).2
      | cons a l => rw [hd] at this; simpa using this
theorem dec_one (u : Nat) (h : u < 10) : (Lib.decDigits u).length = 1 := by rw [Lib.decDigits, dif_pos h]; rfl
theorem dec_len : ∀ (k u : Nat), u < 10 ^ (k + 1) → (Lib.decDigits u).length ≤ k + 1
  | 0, u, h => by rw [dec_one u (by omega)]; omega
  | k + 1, u, h => by
    rw [Lib.decDigits]
    split
    · simp
    · have := dec_len k (u / 10) (by rw [Nat.pow_succ] at h; omega)
      simp; omega
theorem parse_push (b : UInt8) (hb : 48 ≤ b.toNat ∧ b.toNat ≤ 57) : ∀ (l : Bs) (acc v : Nat), Lib.parseUint10 acc l = .ok v → v * 10 + (b.toNat - 48) < 18446744073709551616 → v < 1844674407370955162 → Lib.parseUint10 acc (l ++ [b]) = .ok (v * 10 + (b.toNat - 48))
  | [], acc, v, h, h1, h2 => by
    simp only [Lib.parseUint10] at h
    injection h with h
    subst h
    simp only [List.nil_append, Lib.parseUint10]
    rw [if_pos hb, if_neg (by omega), if_neg (by omega)]
  | c :: l, acc, v, h, h1, h2 => by
    simp only [List.cons_append, Lib.parseUint10] at h ⊢
    split at h
    · rename_i h3
      rw [if_pos h3]
      split at h
      · cases h
      · rename_i h4
        rw [if_neg h4]
        split at h
        · cases h
        · rename_i h5
          rw [if_neg h5]
          exact parse_push b hb l _ v h h1 h2
    · cases h
theorem parse_dec (u : Nat) (hu : u < 1000000000000000000) : Lib.parseUint10 0 (Lib.decDigits u) = .ok u := by
  induction u using Nat.strongRecOn with
  | _ u ih =>
    rw [Lib.decDigits]
    split
    · rename_i h
      have e : (UInt8.ofNat (48 + u)).toNat = 48 + u := ofNat8 _ (by omega)
      have := parse_push (UInt8.ofNat (48 + u)) (by omega) [] 0 0 rfl (by omega) (by omega)
      rw [e] at this
      simpa using this
    · rename_i h
      have e : (UInt8.ofNat (48 + u % 10)).toNat = 48 + u % 10 := ofNat8 _ (by omega)
      have := parse_push (UInt8.ofNat (48 + u % 10)) (by omega) _ 0 _ (ih (u / 10) (by omega) (by omega)) (by omega) (by omega)
      rw [e] at this
      rw [this]
      congr 1
      omega
theorem atoi_dec (u : Nat) (hu : u < 1000000000000000000) : Lib.atoiAll (Lib.decDigits u) = .ok u := by
  have hp := parse_dec u hu
  obtain ⟨ha, hn⟩ := dec_all u
  cases hd : Lib.decDigits u with
  | nil => exact absurd hd hn
  | cons c r =>
    rw [hd] at hp ha
    have hc := (digB_iff c).1 (by simp at ha; exact ha.1)
    unfold Lib.atoiAll
    simp only [show ¬ (c.toNat = 43 ∨ c.toNat = 45) by omega, if_false, Lib.parseMag, List.cons_ne_nil, hp]
    rw [if_neg (by omega), if_neg (by omega), if_neg (by omega)]
theorem itoa_nat (n : Nat) : Lib.itoa (n : Int) = Lib.decDigits n := by unfold Lib.itoa; rw [if_neg (by omega)]; simp
theorem itoa_pos (n : Int) (h : 0 ≤ n) : Lib.itoa n = Lib.decDigits n.toNat := by
  unfold Lib.itoa; rw [if_neg (by omega)]
/-- The number that digits tell. -/
def valD (l : Bs) : Nat := l.foldl (fun a c => a * 10 + (c.toNat - 48)) 0
theorem valD_push (l : Bs) (c : UInt8) : valD (l ++ [c]) = valD l * 10 + (c.toNat - 48) := by simp [valD]
theorem valD_dec (n : Nat) : valD (Lib.decDigits n) = n := by
  induction n using Nat.strongRecOn with
  | _ u ih =>
    rw [Lib.decDigits]
    split
    · rename_i h
      have e : (UInt8.ofNat (48 + u)).toNat = 48 + u := ofNat8 _ (by omega)
      show 0 * 10 + ((UInt8.ofNat (48 + u)).toNat - 48) = u
      omega
    · rename_i h
      have e : (UInt8.ofNat (48 + u % 10)).toNat = 48 + u % 10 := ofNat8 _ (by omega)
      rw [valD_push, ih (u / 10) (by omega), e]
      omega
theorem dig_back (c : UInt8) (h : digB c = true) : UInt8.ofNat (48 + (c.toNat - 48)) = c := by
  have h1 := (digB_iff c).1 h
  apply UInt8.toNat_inj.1
  rw [ofNat8 _ (by omega)]
  omega
theorem dec_val (k : Nat) : ∀ (l : Bs), l.length = k + 1 → l.all digB = true → (k = 0 ∨ l.head? ≠ some 48) → Lib.decDigits (valD l) = l ∧ (l.head? ≠ some 48 → 1 ≤ valD l) := by
  induction k with
  | zero =>
    intro l hl ha _
    match l, hl with
    | [c], _ =>
      have hc : digB c = true := by simpa using ha
      have h1 := (digB_iff c).1 hc
      have hv : valD [c] = c.toNat - 48 := by show 0 * 10 + (c.toNat - 48) = _; omega
      rw [hv]
      refine ⟨?_, fun h => ?_⟩
      · rw [Lib.decDigits, dif_pos (by omega), dig_back c hc]
      · have : c ≠ 48 := fun e => h (by simp [e])
        have : c.toNat ≠ 48 := fun e => this (UInt8.toNat_inj.1 e)
        omega
  | succ k ih =>
    intro l hl ha hh
    obtain ⟨r, c, rfl⟩ : ∃ r c, l = r ++ [c] := by
      rcases List.eq_nil_or_concat l with h | ⟨r, c, h⟩
      · rw [h] at hl; cases hl
      · exact ⟨r, c, by rw [h]; simp⟩
    have hrl : r.length = k + 1 := by simp at hl; omega
    rw [List.all_append, Bool.and_eq_true] at ha
    have hc : digB c = true := by simpa using ha.2
    have hhd : r.head? ≠ some 48 := by
      rcases hh with h | h
      · omega
      · cases r with
        | nil => cases hrl
        | cons a r => simpa using h
    obtain ⟨i1, i2⟩ := ih r hrl ha.1 (.inr hhd)
    have i3 := i2 hhd
    have h1 := (digB_iff c).1 hc
    rw [valD_push]
    refine ⟨?_, fun _ => by omega⟩
    rw [Lib.decDigits, dif_neg (by omega), show (valD r * 10 + (c.toNat - 48)) / 10 = valD r by omega, show (valD r * 10 + (c.toNat - 48)) % 10 = c.toNat - 48 by omega, i1, dig_back c hc]
/-- What the document takes for a number's digits. -/
def numR (s : Bs) : Int := if s = [] ∨ 16 < s.length ∨ (1 < s.length ∧ s.head? = some 48) ∨ s.all digB = false ∨ 4503599627370496 < valD s then -1 else (valD s : Int)
theorem numR_dec (n : Nat) (h : n ≤ 4503599627370496) : numR (Lib.decDigits n) = n := by
  obtain ⟨ha, hn⟩ := dec_all n
  have hl := dec_len 15 n (by omega)
  unfold numR
  rw [valD_dec, if_neg]
  rintro (h1 | h1 | ⟨h1, h2⟩ | h1 | h1)
  · exact hn h1
  · omega
  · rcases Nat.lt_or_ge n 1 with c | c
    · have : n = 0 := by omega
      subst this
      rw [dec_one 0 (by omega)] at h1
      omega
    · exact dec_head n c h2
  · rw [ha] at h1; cases h1
  · omega
theorem numR_of {s : Bs} (h : 0 ≤ numR s) : s = Lib.decDigits (numR s).toNat ∧ numR s ≤ 4503599627370496 := by
  unfold numR at h ⊢
  split at h
  · omega
  · rename_i hc
    rw [if_neg hc]
    simp only [not_or] at hc
    obtain ⟨h1, h2, h3, h4, h5⟩ := hc
    refine ⟨?_, by omega⟩
    rw [Int.toNat_natCast]
    cases hs : s with
    | nil => exact absurd hs h1
    | cons a r =>
      rw [hs] at h3 h4
      have ha : (a :: r).all digB = true := by cases hh : (a :: r).all digB <;> simp_all
      refine ((dec_val r.length (a :: r) (by simp) ha ?_).1).symm
      rcases Nat.lt_or_ge 0 r.length with c | c
      · refine .inr fun e => h3 ⟨by simp; omega, e⟩
      · exact .inl (by omega)
/-- What the program's number answers. -/
def numS (s : Bs) : Int := match Lib.atoiAll s with | .ok v => v | .range => Lib.atoiSat s | _ => 0
theorem numS_dec (n : Nat) (h : n < 1000000000000000000) : numS (Lib.decDigits n) = n := by unfold numS; rw [atoi_dec n h]
theorem no_dig {c : UInt8} {l : Bs} (h : l.all digB = true) (hc : digB c = false) : c ∉ l := fun hm => by
  have := List.all_eq_true.1 h c hm
  rw [hc] at this; cases this
end Mf
end Go.Proofs.YtgpedeagaghpfaaGreatDoor
