/- What Write answers is read as it was, and a byte more or less is none: over plain bytes. Conditions: none. -/
import Derived.Test.YtihcihpndckfjabGreatDoorHtPlain
namespace Go.Proofs.YtihcihpndckfjabGreatDoor
namespace Ht
theorem index_cons (b : UInt8) (l sub : Bs) : Lib.index (b :: l) sub = if sub.isPrefixOf (b :: l) then 0 else if Lib.index l sub == -1 then -1 else Lib.index l sub + 1 := by rw [Lib.index]
theorem ofNat8 (n : Nat) (h : n < 256) : (UInt8.ofNat n).toNat = n := by rw [UInt8.toNat_ofNat']; omega
/-! ### where a text begins within another one -/
theorem index_past (c : UInt8) (sub : Bs) : ∀ (x t : Bs), c ∉ x → Lib.index (x ++ t) (c :: sub) = if Lib.index t (c :: sub) = -1 then -1 else Lib.index t (c :: sub) + x.length
  | [], t, _ => by simp
  | b :: x, t, h => by
    have hb : c ≠ b := fun e => h (by simp [e])
    have hx : c ∉ x := fun e => h (by simp [e])
    have ih := index_past c sub x t hx
    have hge := Lib.index_ge t (c :: sub)
    rw [List.cons_append, index_cons]
    have hp : (c :: sub).isPrefixOf (b :: (x ++ t)) = false := by simp [List.isPrefixOf, hb]
    rw [hp, ih]
    by_cases h1 : Lib.index t (c :: sub) = -1
    · rw [if_pos h1, if_pos h1]; simp
    · rw [if_neg h1, if_neg h1]
      have h2 : ((Lib.index t (c :: sub) + (x.length : Int)) == -1) = false := by rw [beq_eq_false_iff_ne]; omega
      rw [h2]
      simp only [List.length_cons, Bool.false_eq_true, if_false]
      omega
theorem index_here (sub t : Bs) : Lib.index (sub ++ t) sub = 0 := by
  cases h : sub ++ t with
  | nil =>
    have : sub = [] := (List.append_eq_nil_iff.1 h).1
    subst this
    rfl
  | cons b l =>
    rw [index_cons]
    have : sub.isPrefixOf (b :: l) = true := by rw [← h, List.isPrefixOf_iff_prefix]; exact List.prefix_append _ _
    rw [this]; rfl
theorem cut_at (c : UInt8) (sub x t : Bs) (h : c ∉ x) : Lib.cut (x ++ ((c :: sub) ++ t)) (c :: sub) = (x, t, true) := by
  have hi : Lib.index (x ++ ((c :: sub) ++ t)) (c :: sub) = (x.length : Int) := by
    rw [index_past c sub x _ h, index_here]; simp
  unfold Lib.cut
  rw [hi, if_pos (by omega)]
  simp only [Int.toNat_natCast, List.take_left, Prod.mk.injEq, and_true, true_and]
  rw [← List.append_assoc, show x.length + (c :: sub).length = (x ++ (c :: sub)).length by simp]
  exact List.drop_left
theorem cut_none (c : UInt8) (sub x : Bs) (h : c ∉ x) : Lib.cut x (c :: sub) = (x, [], false) := by
  have hi : Lib.index x (c :: sub) = -1 := by
    have := index_past c sub x [] h
    rw [List.append_nil] at this
    rw [this]
    have h0 : Lib.index [] (c :: sub) = -1 := by unfold Lib.index; simp
    rw [h0, if_pos rfl]
  unfold Lib.cut
  rw [hi, if_neg (by omega)]
/-! ### lines -/
def lines (L : List Bs) : Bs := L.flatMap (· ++ crlf)
def lineOk (x : Bs) : Prop := x ≠ [] ∧ (13 : UInt8) ∉ x
theorem lines_cons (x : Bs) (L : List Bs) : lines (x :: L) = x ++ (crlf ++ lines L) := by simp [lines]
theorem lines_head (L : List Bs) (hL : ∀ x ∈ L, lineOk x) : ∀ b, (lines L).head? = some b → b ≠ 13 := by
  cases L with
  | nil => intro b hb; simp [lines] at hb
  | cons x L =>
    intro b hb e
    obtain ⟨h1, h2⟩ := hL x (by simp)
    rw [lines_cons] at hb
    cases x with
    | nil => exact h1 rfl
    | cons a x =>
      simp at hb
      exact h2 (by simp [hb, e])
/-- Behind lines the end of a head is found at their end; no earlier. -/
theorem index_lines : ∀ (L : List Bs) (t : Bs), (∀ x ∈ L, lineOk x) → L ≠ [] → Lib.index (lines L ++ (crlf ++ t)) hend = ((lines L).length : Int) - 2
  | [], _, _, h => absurd rfl h
  | [x], t, hL, _ => by
    obtain ⟨h1, h2⟩ := hL x (by simp)
    have e : lines [x] ++ (crlf ++ t) = x ++ (hend ++ t) := by simp [lines, crlf, hend]
    rw [e, show hend = 13 :: [10, 13, 10] from rfl, index_past 13 _ x _ h2, index_here]
    simp [lines, crlf]
  | x :: y :: L, t, hL, _ => by
    obtain ⟨h1, h2⟩ := hL x (by simp)
    have ih := index_lines (y :: L) t (fun z hz => hL z (by simp [hz])) (by simp)
    have hy := lines_head (y :: L) (fun z hz => hL z (by simp [hz]))
    have hlen : 2 ≤ (lines (y :: L)).length := by rw [lines_cons]; simp [crlf]; omega
    rw [lines_cons, List.append_assoc, List.append_assoc]
    generalize lines (y :: L) = T at ih hy hlen ⊢
    cases T with
    | nil => simp at hlen
    | cons b T =>
      have hb : b ≠ 13 := hy b rfl
      have e2 : Lib.index (crlf ++ (b :: T ++ (crlf ++ t))) hend = ((b :: T).length : Int) := by
        have hn1 : hend.isPrefixOf (13 :: 10 :: (b :: T ++ (crlf ++ t))) = false := by
          simp only [hend, List.isPrefixOf, List.cons_append]
          simp [Ne.symm hb]
        have hn2 : hend.isPrefixOf (10 :: (b :: T ++ (crlf ++ t))) = false := by simp [hend, List.isPrefixOf]
        show Lib.index (13 :: 10 :: (b :: T ++ (crlf ++ t))) hend = _
        rw [index_cons, hn1, index_cons, hn2, ih]
        have hl : 2 ≤ ((b :: T).length : Int) := by omega
        have g1 : ((((b :: T).length : Int) - 2) == -1) = false := by rw [beq_eq_false_iff_ne]; omega
        have g2 : ((((b :: T).length : Int) - 2 + 1) == -1) = false := by rw [beq_eq_false_iff_ne]; omega
        simp only [g1, g2, Bool.false_eq_true, if_false]
        omega
      rw [show hend = 13 :: [10, 13, 10] from rfl] at e2 ⊢
      rw [index_past 13 _ x _ h2, e2, if_neg (by omega)]
      simp [crlf]
      omega
theorem lines_len {L : List Bs} (h : L ≠ []) : 2 ≤ (lines L).length := by
  cases L with
  | nil => exact absurd rfl h
  | cons x L => rw [lines_cons]; simp [crlf]; omega
theorem cut_lines (L : List Bs) (t : Bs) (hL : ∀ x ∈ L, lineOk x) (h : L ≠ []) : (Lib.cut (lines L ++ (crlf ++ t)) hend).2 = (t, true) := by
  have hi := index_lines L t hL h
  have h2 := lines_len h
  unfold Lib.cut
  rw [hi, if_pos (by omega)]
  have e : ((((lines L).length : Int) - 2).toNat + hend.length) = (lines L ++ crlf).length := by simp [hend, crlf]; omega
  rw [e, ← List.append_assoc, List.drop_left]
theorem head_lines (L : List Bs) (t : Bs) (hL : ∀ x ∈ L, lineOk x) (h : L ≠ []) : headOf (lines L ++ (crlf ++ t)) = lines L ++ crlf := by
  unfold headOf
  rw [cut_lines L t hL h]
  have e : (lines L ++ (crlf ++ t)).length - t.length = (lines L ++ crlf).length := by simp; omega
  rw [show (t, true).1 = t from rfl, e, ← List.append_assoc, List.take_left]
theorem cut_line (x : Bs) (L : List Bs) (t : Bs) (hx : lineOk x) : Lib.cut (lines (x :: L) ++ t) crlf = (x, lines L ++ t, true) := by
  rw [lines_cons, List.append_assoc, List.append_assoc]
  exact cut_at 13 [10] x (lines L ++ t) hx.2
theorem cut_empty (t : Bs) : Lib.cut (crlf ++ t) crlf = ([], t, true) := cut_at 13 [10] [] t (by simp)
/-! ### numbers in digits -/
theorem dec_all (u : Nat) : (Lib.decDigits u).all digB = true ∧ Lib.decDigits u ≠ [] := by
  induction u using Nat.strongRecOn with
  | _ u ih =>
    rw [Lib.decDigits]
    split
    · rename_i h
      refine ⟨?_, by simp⟩
      have e : (UInt8.ofNat (48 + u)).toNat = 48 + u := ofNat8 _ (by omega)
      simp [digB, UInt8.le_iff_toNat_le]
      omega
    · rename_i h
      refine ⟨?_, by simp⟩
      have e : (UInt8.ofNat (48 + u % 10)).toNat = 48 + u % 10 := ofNat8 _ (by omega)
      rw [List.all_append, (ih (u / 10) (by omega)).1]
      simp [digB, UInt8.le_iff_toNat_le]
      omega
theorem dec_head (u : Nat) (h : 1 ≤ u) : (Lib.decDigits u).head? ≠ some 48 := by
  induction u using Nat.strongRecOn with
  | _ u ih =>
    rw [Lib.decDigits]
    split
    · rename_i h1
      intro e
      have e2 : UInt8.ofNat (48 + u) = 48 := by simpa using e
      have := congrArg UInt8.toNat e2
      rw [ofNat8 _ (by omega)] at this
      have h48 : (48 : UInt8).toNat = 48 := rfl
      omega
    · rename_i h1
      have := ih (u / 10) (by omega) (by omega)
      cases hd : Lib.decDigits (u / 10) with
      | nil => exact absurd hd (dec_all _).2
      | cons a l => rw [hd] at this; simpa using this
theorem dec_one (u : Nat) (h : u < 10) : (Lib.decDigits u).length = 1 := by rw [Lib.decDigits, dif_pos h]; rfl
theorem parse_push (b : UInt8) (hb : 48 ≤ b.toNat ∧ b.toNat ≤ 57) : ∀ (l : Bs) (acc v : Nat), Lib.parseUint10 acc l = .ok v → v * 10 + (b.toNat - 48) < 18446744073709551616 → v < 1844674407370955162 → Lib.parseUint10 acc (l ++ [b]) = .ok (v * 10 + (b.toNat - 48))
  | [], acc, v, h, h1, h2 => by
    simp only [Lib.parseUint10] at h
    injection h with h
    subst h
    simp only [List.nil_append, Lib.parseUint10]
    rw [if_pos hb, if_neg (by omega), if_neg (by omega)]
  | c :: l, acc, v, h, h1, h2 => by
    simp only [List.cons_append, Lib.parseUint10] at h ⊢
    split at h
    · rename_i h3
      rw [if_pos h3]
      split at h
      · cases h
      · rename_i h4
        rw [if_neg h4]
        split at h
        · cases h
        · rename_i h5
          rw [if_neg h5]
          exact parse_push b hb l _ v h h1 h2
    · cases h
theorem parse_dec (u : Nat) (hu : u < 1000000000000000000) : Lib.parseUint10 0 (Lib.decDigits u) = .ok u := by
  induction u using Nat.strongRecOn with
  | _ u ih =>
    rw [Lib.decDigits]
    split
    · rename_i h
      have e : (UInt8.ofNat (48 + u)).toNat = 48 + u := ofNat8 _ (by omega)
      have := parse_push (UInt8.ofNat (48 + u)) (by omega) [] 0 0 rfl (by omega) (by omega)
      rw [e] at this
      simpa using this
    · rename_i h
      have e : (UInt8.ofNat (48 + u % 10)).toNat = 48 + u % 10 := ofNat8 _ (by omega)
      have := parse_push (UInt8.ofNat (48 + u % 10)) (by omega) _ 0 _ (ih (u / 10) (by omega) (by omega)) (by omega) (by omega)
      rw [e] at this
      rw [this]
      congr 1
      omega
theorem digB_iff (b : UInt8) : digB b = true ↔ 48 ≤ b.toNat ∧ b.toNat ≤ 57 := by
  simp [digB, UInt8.le_iff_toNat_le]
theorem atoi_dec (u : Nat) (hu : u < 1000000000000000000) : Lib.atoiAll (Lib.decDigits u) = .ok u := by
  have hp := parse_dec u hu
  obtain ⟨ha, hn⟩ := dec_all u
  cases hd : Lib.decDigits u with
  | nil => exact absurd hd hn
  | cons c r =>
    rw [hd] at hp ha
    have hc := (digB_iff c).1 (by simp at ha; exact ha.1)
    unfold Lib.atoiAll
    simp only [show ¬ (c.toNat = 43 ∨ c.toNat = 45) by omega, if_false, Lib.parseMag, List.cons_ne_nil, hp]
    rw [if_neg (by omega), if_neg (by omega), if_neg (by omega)]
theorem length_dec (n : Nat) (h : n ≤ 262144) : lengthOf (Lib.decDigits n) = ((n : Int), 0) := by
  obtain ⟨ha, hn⟩ := dec_all n
  unfold lengthOf
  rw [if_neg (by
    rintro (h1 | h1 | ⟨h1, h2⟩)
    · exact hn h1
    · rw [ha] at h1; cases h1
    · by_cases h10 : n < 10
      · rw [dec_one n h10] at h1; omega
      · exact dec_head n (by omega) h2), atoi_dec n (by omega)]
  show (if (262144 : Int) < n then ((0 : Int), (41 : Int)) else (n, 0)) = _
  rw [if_neg (by omega)]
end Ht
end Go.Proofs.YtihcihpndckfjabGreatDoor
