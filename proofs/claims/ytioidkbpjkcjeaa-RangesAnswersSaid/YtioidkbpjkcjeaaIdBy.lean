/- The bytes of a list of ids, and the list of any bytes, as plain functions: there and back. Plain mathematics, no condition but those that each theorem names. -/
import Derived.Test.YtioidkbpjkcjeaaIdPlain
import Derived.Test.YtioidkbpjkcjeaaNumPlain
namespace Go.Proofs.Ytioidkbpjkcjeaa
namespace Ids
def okB (L : List Int) : Prop := Ris L ∧ ∀ x ∈ L, 1 ≤ x ∧ x ≤ 4503599627370496
def smB (n : Nat) : List UInt8 := if n < 128 then [UInt8.ofNat n] else UInt8.ofNat (128 + n % 128) :: smB (n / 128)
def stepsB (last : Int) : List Int → List UInt8
  | [] => []
  | x :: L => smB (x - last).toNat ++ stepsB x L
def encB (L : List Int) : List UInt8 := fixL 4 L.length ++ stepsB 0 L
/-- The number with whose small bytes a row begins, and how many they are. -/
def smR : Nat → List UInt8 → Option (Nat × Nat)
  | 0, _ => none
  | _ + 1, [] => none
  | f + 1, c :: s => if c.toNat < 128 then (if c.toNat = 0 then none else some (c.toNat, 1)) else (smR f s).map fun p => (c.toNat - 128 + 128 * p.1, p.2 + 1)
def rd (s : List UInt8) (last : Int) : Option (List Int) :=
  match s with
  | [] => some []
  | c :: s => match smR 8 (c :: s) with
    | none => none
    | some (n, k) => if 4503599627370496 - last < n then none else (rd (s.drop (k - 1)) (last + n)).map fun l => (last + n) :: l
termination_by s.length
decreasing_by simp; omega
def decB (s : List UInt8) : Option (List Int) := if s.length < 4 then none else match rd (s.drop 4) 0 with
  | none => none
  | some l => if l.length = unfL (s.take 4) then some l else none
theorem smB_small {n : Nat} (h : n < 128) : smB n = [UInt8.ofNat n] := by rw [smB, if_pos h]
theorem smB_great {n : Nat} (h : ¬ n < 128) : smB n = UInt8.ofNat (128 + n % 128) :: smB (n / 128) := by rw [smB, if_neg h]
theorem smB_length : ∀ n, 1 ≤ (smB n).length := by
  intro n
  rw [smB]
  split <;> simp
theorem smB_bound : ∀ f n, n < 128 ^ f → 1 ≤ f → (smB n).length ≤ f
  | 0, _, _, h => by omega
  | f + 1, n, h, _ => by
    by_cases c : n < 128
    · rw [smB_small c]; simp
    · rw [smB_great c]
      have h2 : n / 128 < 128 ^ f := by rw [Nat.div_lt_iff_lt_mul (by decide)]; rw [Nat.pow_succ] at h; exact h
      have h3 : 1 ≤ f := by
        rcases f with _ | f
        · simp at h2; omega
        · omega
      have := smB_bound f (n / 128) h2 h3
      simp; omega
theorem smR_smB : ∀ f n (r : List UInt8), 1 ≤ n → n < 128 ^ f → smR f (smB n ++ r) = some (n, (smB n).length)
  | 0, n, _, h, h' => by simp at h'; omega
  | f + 1, n, r, h, h' => by
    by_cases c : n < 128
    · rw [smB_small c]
      have e : (UInt8.ofNat n).toNat = n := by rw [UInt8.toNat_ofNat']; omega
      simp only [List.cons_append, List.nil_append, smR, e, if_pos c, List.length_cons, List.length_nil, if_neg (show ¬ n = 0 by omega)]
    · rw [smB_great c]
      have h2 : n / 128 < 128 ^ f := by rw [Nat.div_lt_iff_lt_mul (by decide)]; rw [Nat.pow_succ] at h'; exact h'
      have e : (UInt8.ofNat (128 + n % 128)).toNat = 128 + n % 128 := by rw [UInt8.toNat_ofNat']; omega
      simp only [List.cons_append, smR, e, if_neg (show ¬ 128 + n % 128 < 128 by omega), smR_smB f (n / 128) r (by omega) h2, Option.map_some, List.length_cons]
      congr 2
      omega
theorem smR_is : ∀ f (s : List UInt8) n k, smR f s = some (n, k) → 1 ≤ n ∧ n < 128 ^ f ∧ 1 ≤ k ∧ k ≤ s.length ∧ smB n = s.take k
  | 0, _, _, _, h => by simp [smR] at h
  | _ + 1, [], _, _, h => by simp [smR] at h
  | f + 1, c :: s, n, k, h => by
    rw [smR] at h
    by_cases c1 : c.toNat < 128
    · rw [if_pos c1] at h
      by_cases c2 : c.toNat = 0
      · rw [if_pos c2] at h; cases h
      · rw [if_neg c2] at h
        injection h with h
        injection h with h1 h2
        subst h1 h2
        have hp : 1 ≤ 128 ^ f := Nat.pow_pos (by decide)
        refine ⟨by omega, by rw [Nat.pow_succ]; omega, by omega, by simp, ?_⟩
        rw [smB_small c1]; simp
    · rw [if_neg c1] at h
      cases hr : smR f s with
      | none => rw [hr] at h; cases h
      | some p =>
        obtain ⟨m, j⟩ := p
        rw [hr] at h
        simp only [Option.map_some] at h
        injection h with h
        injection h with h1 h2
        obtain ⟨i1, i2, i3, i4, i5⟩ := smR_is f s m j hr
        have hc := c.toNat_lt
        subst h1 h2
        refine ⟨by omega, by rw [Nat.pow_succ]; omega, by omega, by simp; omega, ?_⟩
        rw [smB_great (by omega), show (c.toNat - 128 + 128 * m) / 128 = m by omega, show 128 + (c.toNat - 128 + 128 * m) % 128 = c.toNat by omega, i5]
        simp
/-! ### a row gone along -/
/-- The lower bits of the first i bytes. -/
def acc (s : List UInt8) : Nat → Nat
  | 0 => 0
  | i + 1 => acc s i + (s[i]?.getD 0).toNat % 128 * 128 ^ i
theorem acc_lt (s : List UInt8) : ∀ i, acc s i < 128 ^ i
  | 0 => by simp [acc]
  | i + 1 => by
    have h1 := acc_lt s i
    have h2 : (s[i]?.getD 0).toNat % 128 < 128 := Nat.mod_lt _ (by decide)
    have h3 : (s[i]?.getD 0).toNat % 128 * 128 ^ i ≤ 127 * 128 ^ i := Nat.mul_le_mul_right _ (by omega)
    rw [acc, Nat.pow_succ]
    omega
theorem acc_cons (c : UInt8) (s : List UInt8) : ∀ i, acc (c :: s) (i + 1) = c.toNat % 128 + 128 * acc s i
  | 0 => by simp [acc]
  | i + 1 => by
    rw [acc, acc_cons c s i, acc]
    simp only [List.getElem?_cons_succ]
    rw [Nat.mul_add, ← Nat.mul_assoc, Nat.mul_comm 128 ((s[i]?.getD 0).toNat % 128), Nat.mul_assoc, Nat.pow_succ, Nat.mul_comm 128 (128 ^ i)]
    omega
theorem smR_at : ∀ i f (s : List UInt8), i ≤ s.length → (∀ j (h : j < s.length), j < i → 128 ≤ (s[j]).toNat) → smR (f + i) s = (smR f (s.drop i)).map fun p => (acc s i + 128 ^ i * p.1, p.2 + i)
  | 0, f, s, _, _ => by
    simp only [Nat.add_zero, List.drop_zero, acc, Nat.pow_zero, Nat.zero_add, Nat.one_mul]
    cases smR f s <;> rfl
  | i + 1, f, [], h, _ => by simp at h
  | i + 1, f, c :: s, h, hb => by
    have hc := hb 0 (by simp) (by omega)
    simp only [List.getElem_cons_zero] at hc
    have ih := smR_at i f s (by simpa using h) (fun j hj hji => by have := hb (j + 1) (by simpa using hj) (by omega); simpa using this)
    rw [show f + (i + 1) = (f + i) + 1 by omega, smR, if_neg (by omega), ih, List.drop_succ_cons, acc_cons]
    have hc2 := c.toNat_lt
    cases smR f (s.drop i) with
    | none => simp only [Option.map_none]
    | some p =>
      simp only [Option.map_some, Option.some.injEq, Prod.mk.injEq]
      refine ⟨?_, by omega⟩
      rw [Nat.mul_add, ← Nat.mul_assoc, Nat.pow_succ, Nat.mul_comm 128 (128 ^ i)]
      omega
/-! ### all steps -/
theorem rd_nil (last : Int) : rd [] last = some [] := by rw [rd]
set_option maxRecDepth 100000 in
theorem rd_no {s : List UInt8} {last : Int} (h0 : s ≠ []) (h : smR 8 s = none) : rd s last = none := by
  match s with
  | [] => exact absurd rfl h0
  | c :: s => rw [rd, h]
set_option maxRecDepth 100000 in
theorem rd_yes {s : List UInt8} {last : Int} {n k : Nat} (h : smR 8 s = some (n, k)) : rd s last = if 4503599627370496 - last < n then none else (rd (s.drop k) (last + n)).map fun l => (last + n) :: l := by
  match s with
  | [] => simp [smR] at h
  | c :: s =>
    have hk := (smR_is _ _ _ _ h).2.2.1
    rw [rd, h]
    obtain ⟨j, rfl⟩ : ∃ j, k = j + 1 := ⟨k - 1, by omega⟩
    rfl
set_option maxRecDepth 100000 in
theorem rd_is : ∀ (m : Nat) (s : List UInt8) (last : Int) (l : List Int), s.length ≤ m → 0 ≤ last → last ≤ 4503599627370496 → rd s last = some l → Ris (last :: l) ∧ (∀ x ∈ l, x ≤ 4503599627370496) ∧ stepsB last l = s := by
  intro m
  induction m with
  | zero =>
    intro s last l hs h0 h1 h
    obtain rfl : s = [] := List.eq_nil_of_length_eq_zero (by omega)
    rw [rd_nil] at h
    injection h with h
    subst h
    exact ⟨List.pairwise_singleton _ _, by simp, rfl⟩
  | succ m ih =>
    intro s last l hs h0 h1 h
    by_cases he : s = []
    · subst he
      rw [rd_nil] at h
      injection h with h
      subst h
      exact ⟨List.pairwise_singleton _ _, by simp, rfl⟩
    · cases hr : smR 8 s with
      | none => rw [rd_no he hr] at h; cases h
      | some p =>
        obtain ⟨n, k⟩ := p
        obtain ⟨i1, _, i3, i4, i5⟩ := smR_is _ _ _ _ hr
        rw [rd_yes hr] at h
        by_cases hg : 4503599627370496 - last < (n : Int)
        · rw [if_pos hg] at h; cases h
        · rw [if_neg hg] at h
          cases hl : rd (s.drop k) (last + n) with
          | none => rw [hl] at h; cases h
          | some l' =>
            rw [hl] at h
            simp only [Option.map_some] at h
            injection h with h
            subst h
            obtain ⟨j1, j2, j3⟩ := ih (s.drop k) (last + n) l' (by simp; omega) (by omega) (by omega) hl
            obtain ⟨j4, j5⟩ := List.pairwise_cons.mp j1
            refine ⟨List.pairwise_cons.mpr ⟨fun x hx => ?_, j1⟩, fun x hx => ?_, ?_⟩
            · rcases List.mem_cons.mp hx with rfl | hx
              · omega
              · have := j4 x hx; omega
            · rcases List.mem_cons.mp hx with rfl | hx
              · omega
              · exact j2 x hx
            · rw [stepsB, j3, show (last + (n : Int) - last).toNat = n by omega, i5, List.take_append_drop]
theorem rd_steps : ∀ (l : List Int) (last : Int), Ris (last :: l) → (∀ x ∈ l, x ≤ 4503599627370496) → 0 ≤ last → rd (stepsB last l) last = some l
  | [], last, _, _, _ => by rw [stepsB, rd_nil]
  | x :: l, last, h, hm, h0 => by
    obtain ⟨h1, h2⟩ := List.pairwise_cons.mp h
    have hx := h1 x (List.mem_cons_self ..)
    have hx2 := hm x (List.mem_cons_self ..)
    have hr : smR 8 (smB (x - last).toNat ++ stepsB x l) = some ((x - last).toNat, (smB (x - last).toNat).length) := smR_smB 8 _ _ (by omega) (by
      have : (128 : Nat) ^ 8 = 72057594037927936 := by decide
      omega)
    rw [stepsB, rd_yes hr, if_neg (by omega), show last + ((x - last).toNat : Int) = x by omega, List.drop_left, rd_steps l x h2 (fun y hy => hm y (List.mem_cons_of_mem _ hy)) (by omega)]
    rfl
theorem fixL_unfL : ∀ (w : Nat) (l : List UInt8), l.length = w → fixL w (unfL l) = l
  | 0, [], _ => by simp [fixL]
  | 0, _ :: _, h => by simp at h
  | w + 1, [], h => by simp at h
  | w + 1, c :: l, h => by
    have hc := c.toNat_lt
    have ih := fixL_unfL w l (by simpa using h)
    simp only [fixL, unfL]
    rw [show (c.toNat + 256 * unfL l) / 256 = unfL l by omega, ih]
    congr 1
    apply UInt8.toNat_inj.mp
    rw [UInt8.toNat_ofNat']
    omega
theorem okB_cons {l : List Int} (h : okB l) : Ris (0 :: l) ∧ ∀ x ∈ l, x ≤ 4503599627370496 :=
  ⟨List.pairwise_cons.mpr ⟨fun x hx => by have := h.2 x hx; omega, h.1⟩, fun x hx => (h.2 x hx).2⟩
theorem decB_is {s : List UInt8} {l : List Int} (h : decB s = some l) : okB l ∧ encB l = s ∧ l.length < 4294967296 := by
  unfold decB at h
  by_cases h4 : s.length < 4
  · rw [if_pos h4] at h; cases h
  · rw [if_neg h4] at h
    cases hr : rd (s.drop 4) 0 with
    | none => rw [hr] at h; cases h
    | some l' =>
      rw [hr] at h
      simp only at h
      by_cases hl : l'.length = unfL (s.take 4)
      · rw [if_pos hl] at h
        injection h with h
        subst h
        obtain ⟨j1, j2, j3⟩ := rd_is _ _ 0 l' (Nat.le_refl _) (by decide) (by decide) hr
        obtain ⟨j4, j5⟩ := List.pairwise_cons.mp j1
        have ht : (s.take 4).length = 4 := by simp; omega
        have hlt := unfL_lt (s.take 4)
        rw [ht] at hlt
        refine ⟨⟨j5, fun x hx => ⟨by have := j4 x hx; omega, j2 x hx⟩⟩, ?_, by rw [hl]; exact hlt⟩
        rw [encB, j3, hl, fixL_unfL 4 _ ht, List.take_append_drop]
      · rw [if_neg hl] at h; cases h
theorem decB_encB {l : List Int} (h : okB l) (hl : l.length < 4294967296) : decB (encB l) = some l := by
  have h4 : (fixL 4 l.length).length = 4 := fixL_length 4 _
  unfold decB encB
  have hlen : ¬ (fixL 4 l.length ++ stepsB 0 l).length < 4 := by rw [List.length_append, h4]; omega
  have hd : (fixL 4 l.length ++ stepsB 0 l).drop 4 = stepsB 0 l := by rw [List.drop_append, List.drop_of_length_le (by omega), h4]; simp
  have ht : (fixL 4 l.length ++ stepsB 0 l).take 4 = fixL 4 l.length := by rw [List.take_append, List.take_of_length_le (by omega), h4]; simp
  rw [if_neg hlen, hd, ht, rd_steps l 0 (okB_cons h).1 (okB_cons h).2 (by decide)]
  simp only
  rw [if_pos (unfL_fixL 4 _ hl).symm]
def ends (s : List UInt8) : Nat := s.countP fun c => decide (c.toNat < 128)
theorem ends_app (s t : List UInt8) : ends (s ++ t) = ends s + ends t := List.countP_append
theorem ends_smB : ∀ n, ends (smB n) = 1 := by
  intro n
  induction n using smB.induct with
  | case1 n h =>
    rw [smB_small h]
    have e : (UInt8.ofNat n).toNat = n := by rw [UInt8.toNat_ofNat']; omega
    simp only [ends, List.countP_singleton, e, decide_eq_true h, if_true]
  | case2 n h ih =>
    rw [smB_great h]
    have e : (UInt8.ofNat (128 + n % 128)).toNat = 128 + n % 128 := by rw [UInt8.toNat_ofNat']; omega
    unfold ends at ih ⊢
    rw [List.countP_cons, ih, e]
    simp
theorem ends_steps : ∀ (l : List Int) (last : Int), ends (stepsB last l) = l.length
  | [], _ => rfl
  | x :: l, last => by rw [stepsB, ends_app, ends_smB, ends_steps l x, List.length_cons]; omega
theorem decB_more {l : List Int} (hl : l.length < 4294967296) : decB (encB l ++ [1]) = none := by
  cases h : decB (encB l ++ [1]) with
  | none => rfl
  | some d =>
    exfalso
    obtain ⟨_, h2, h3⟩ := decB_is h
    unfold encB at h2
    rw [List.append_assoc] at h2
    obtain ⟨e1, e2⟩ := List.append_inj h2 (by rw [fixL_length, fixL_length])
    have e3 := congrArg unfL e1
    rw [unfL_fixL 4 _ h3, unfL_fixL 4 _ hl] at e3
    have e4 := congrArg ends e2
    rw [ends_app, ends_steps, ends_steps] at e4
    have : ends [1] = 1 := by decide
    omega
theorem stepsB_snoc : ∀ (l : List Int) (last x : Int), stepsB last (l ++ [x]) = stepsB last l ++ smB (x - (last :: l).getLast (by simp)).toNat
  | [], last, x => by simp [stepsB]
  | y :: l, last, x => by
    rw [List.cons_append, stepsB, stepsB, stepsB_snoc l y x, List.append_assoc]
    rfl
theorem encB_length {L : List Int} (h : okB L) : (encB L).length ≤ 4 + 8 * L.length := by
  have aux : ∀ (l : List Int) (last : Int), Ris (last :: l) → (∀ x ∈ l, x ≤ 4503599627370496) → 0 ≤ last → (stepsB last l).length ≤ 8 * l.length := by
    intro l
    induction l with
    | nil => intro last _ _ _; simp [stepsB]
    | cons x l ih =>
      intro last h hm h0
      obtain ⟨h1, h2⟩ := List.pairwise_cons.mp h
      have hx := h1 x (List.mem_cons_self ..)
      have hx2 := hm x (List.mem_cons_self ..)
      have := ih x h2 (fun y hy => hm y (List.mem_cons_of_mem _ hy)) (by omega)
      have := smB_bound 8 (x - last).toNat (by
        have : (128 : Nat) ^ 8 = 72057594037927936 := by decide
        omega) (by decide)
      rw [stepsB, List.length_append, List.length_cons]
      omega
  have := aux L 0 (okB_cons h).1 (okB_cons h).2 (by decide)
  rw [encB, List.length_append, fixL_length]
  omega
end Ids
end Go.Proofs.Ytioidkbpjkcjeaa
