/- Plain facts on texts in quotes. Conditions: those that each theorem names. -/
import Derived.Test.YtdooeedemgmpiaaDoorJsEsc
import Derived.Lib.TrimAscii
import Derived.Lib.TrimU
namespace Go.Proofs.YtdooeedemgmpiaaDoor
open Go Go.RowKit Js

theorem runeLen_pos (l : Bs) : 1 ≤ runeLen l := Lib.decodeL_width l
theorem hexOf_ascii {c : UInt8} {d : Nat} (h : hexOf c = some d) : c.toNat < 128 := by
  unfold hexOf at h
  split at h
  · rename_i hd; simp [digB, UInt8.le_iff_toNat_le] at hd; omega
  · split at h
    · rename_i hd; simp [UInt8.le_iff_toNat_le] at hd; omega
    · split at h
      · rename_i hd; simp [UInt8.le_iff_toNat_le] at hd; omega
      · cases h
theorem unit_ascii {l : Bs} {v : Nat} (h : unit l = some v) : 6 ≤ l.length ∧ ∀ c ∈ l.take 6, c.toNat < 128 := by
  refine ⟨(unit_len h).1, ?_⟩
  unfold unit at h
  split at h
  · rename_i l'
    match l', h with
    | a :: b :: c :: d :: r, h =>
      simp only [four] at h
      cases ha : hexOf a <;> cases hb : hexOf b <;> cases hc : hexOf c <;> cases hd : hexOf d <;> rw [ha, hb, hc, hd] at h <;> simp at h
      have := hexOf_ascii ha; have := hexOf_ascii hb; have := hexOf_ascii hc; have := hexOf_ascii hd
      intro x hx
      simp at hx
      rcases hx with rfl | rfl | rfl | rfl | rfl | rfl <;> first | decide | assumption
    | [], h => simp [four] at h
    | [_], h => simp [four] at h
    | [_, _], h => simp [four] at h
    | [_, _, _], h => simp [four] at h
  · cases h
theorem escape_ascii {l : Bs} {v n : Nat} (hb : ∀ c r, l = c :: r → c = 92) (h : escape l = some (v, n)) : 2 ≤ n ∧ n ≤ l.length ∧ (∀ c ∈ l.take n, c.toNat < 128) ∧ v ≤ 1114111 := by
  unfold escape at h
  match l, h with
  | a :: c :: r, h =>
    simp only at h
    have ha : a = 92 := hb _ _ rfl
    cases hm : meant c with
    | some x =>
      rw [hm] at h
      simp only [Option.some.injEq, Prod.mk.injEq] at h
      obtain ⟨rfl, rfl⟩ := h
      have hw := meant_ways hm
      refine ⟨by omega, by simp, fun y hy => ?_, ?_⟩
      · simp at hy
        rcases hy with rfl | rfl
        · rw [ha]; decide
        · rcases hw with ⟨rfl, _⟩ | ⟨rfl, _⟩ | ⟨rfl, _⟩ | ⟨rfl, _⟩ | ⟨rfl, _⟩ | ⟨rfl, _⟩ | ⟨rfl, _⟩ | ⟨rfl, _⟩ <;> decide
      · rcases hw with ⟨_, rfl⟩ | ⟨_, rfl⟩ | ⟨_, rfl⟩ | ⟨_, rfl⟩ | ⟨_, rfl⟩ | ⟨_, rfl⟩ | ⟨_, rfl⟩ | ⟨_, rfl⟩ <;> decide
    | none =>
      rw [hm] at h
      simp only at h
      cases hu : unit (a :: c :: r) with
      | none => rw [hu] at h; cases h
      | some x =>
        have h1 := unit_ascii hu
        have hx := (unit_len hu).2
        rw [hu] at h
        simp only at h
        split at h
        · simp only [Option.some.injEq, Prod.mk.injEq] at h
          obtain ⟨rfl, rfl⟩ := h
          exact ⟨by omega, h1.1, h1.2, by omega⟩
        · cases hu2 : unit ((a :: c :: r).drop 6) with
          | none => rw [hu2] at h; cases h
          | some y =>
            rw [hu2] at h
            simp only at h
            split at h
            · cases h
            · rename_i hn
              simp only [Option.some.injEq, Prod.mk.injEq] at h
              obtain ⟨rfl, rfl⟩ := h
              have h2 := unit_ascii hu2
              have hlen : 12 ≤ (a :: c :: r).length := by have := h2.1; rw [List.length_drop] at this; omega
              refine ⟨by omega, hlen, fun z hz => ?_, by omega⟩
              have e : (a :: c :: r).take 12 = (a :: c :: r).take 6 ++ ((a :: c :: r).drop 6).take 6 := by rw [← List.take_add]
              rw [e] at hz
              rcases List.mem_append.1 hz with hz | hz
              · exact h1.2 z hz
              · exact h2.2 z hz
theorem textF_fuel : ∀ (k : Nat) (out l : Bs), l.length ≤ k → textF k out l = textF l.length out l
  | k, _, [], _ => by cases k <;> simp [textF]
  | 0, _, _ :: _, h => by simp at h
  | k + 1, out, c :: l, h => by
    have hl : l.length ≤ k := by simpa using h
    rw [List.length_cons]
    simp only [textF]
    by_cases h1 : c = 34
    · simp [h1]
    · rw [if_neg h1, if_neg h1]
      by_cases h2 : c = 92
      · rw [if_pos h2, if_pos h2]
        cases he : escape (c :: l) with
        | none => rfl
        | some x =>
          obtain ⟨v, n⟩ := x
          obtain ⟨hn2, hnl, _, _⟩ := escape_ascii (fun a r hr => by injection hr with hr; rw [← hr]; exact h2) he
          simp only
          have hd : ((c :: l).drop n).length ≤ l.length := by rw [List.length_drop, List.length_cons]; omega
          rw [textF_fuel k _ _ (by omega), textF_fuel l.length _ _ hd]
      · rw [if_neg h2, if_neg h2]
        split
        · rfl
        · have hp := runeLen_pos (c :: l)
          have hd : ((c :: l).drop (runeLen (c :: l))).length ≤ l.length := by rw [List.length_drop, List.length_cons]; omega
          rw [textF_fuel k _ _ (by omega), textF_fuel l.length _ _ hd]
/-- A text, so much of which was read. -/
def textOf (out l : Bs) : Js.R ByteArray := textF l.length out l
theorem textOf_nil (out : Bs) : textOf out [] = .no eJson [] := rfl
theorem textOf_quote (out r : Bs) : textOf out (34 :: r) = .ok ⟨out.toArray⟩ r := by simp [textOf, textF]
theorem textOf_bad {out r : Bs} (h : escape (92 :: r) = none) : textOf out (92 :: r) = .no eJson (92 :: r) := by
  unfold textOf; rw [List.length_cons]; simp [textF, h]
theorem textOf_esc {out r : Bs} {v n : Nat} (h : escape (92 :: r) = some (v, n)) : textOf out (92 :: r) = textOf (out ++ enc v) ((92 :: r).drop n) := by
  obtain ⟨hn2, hnl, _, _⟩ := escape_ascii (fun a r hr => by injection hr with hr; exact hr.symm) h
  unfold textOf
  rw [List.length_cons]
  simp only [textF, h]
  rw [if_neg (by decide), if_true, textF_fuel r.length _ _ (by rw [List.length_drop, List.length_cons]; omega)]
theorem textOf_no {out r : Bs} {c : UInt8} (h1 : c ≠ 34) (h2 : c ≠ 92) (h : runeOk (c :: r) = false ∨ runeNo (c :: r) < 32) : textOf out (c :: r) = .no eJson (c :: r) := by
  unfold textOf; rw [List.length_cons]; simp only [textF]
  rw [if_neg h1, if_neg h2, if_pos h]
theorem textOf_rune {out r : Bs} {c : UInt8} (h1 : c ≠ 34) (h2 : c ≠ 92) (h : ¬ (runeOk (c :: r) = false ∨ runeNo (c :: r) < 32)) : textOf out (c :: r) = textOf (out ++ (c :: r).take (runeLen (c :: r))) ((c :: r).drop (runeLen (c :: r))) := by
  have hp := runeLen_pos (c :: r)
  unfold textOf
  rw [List.length_cons]
  simp only [textF]
  rw [if_neg h1, if_neg h2, if_neg h, textF_fuel r.length _ _ (by rw [List.length_drop, List.length_cons]; omega)]
theorem rune_is (l : Bs) (c : UInt8) (r : Bs) (h : c.toNat < 128) : runeNo (c :: r) = c.toNat ∧ runeLen (c :: r) = 1 := by
  unfold runeNo runeLen; rw [Lib.decodeL_ascii c r h]; exact ⟨rfl, rfl⟩
theorem rune_high (c : UInt8) (r : Bs) (h : 128 ≤ c.toNat) : 128 ≤ runeNo (c :: r) := by
  unfold runeNo Lib.decodeL
  refine (decode_high ⟨(c :: r).toArray⟩ 0 (by simp [ByteArray.size]) ?_).1
  exact h
theorem rune_ne (c : UInt8) (r : Bs) (b : UInt8) (hb : b.toNat < 128) (h : c ≠ b) : runeNo (c :: r) ≠ b.toNat := by
  by_cases hc : c.toNat < 128
  · rw [(rune_is [] c r hc).1]; intro e; exact h (UInt8.toNat_inj.1 e)
  · have := rune_high c r (by omega); omega
theorem runeLen_le (c : UInt8) (r : Bs) : runeLen (c :: r) ≤ (c :: r).length := Lib.decodeL_le _ (by simp)
theorem prefix_rune (c : UInt8) (r : Bs) (h : runeNo (c :: r) = 65533) : Lib.hasPrefix (c :: r) [239, 191, 189] = runeOk (c :: r) := by
  have hne : (c :: r) ≠ [] := by simp
  unfold runeNo at h
  unfold runeOk
  rw [h]
  simp only [decide_true, Bool.true_and]
  generalize hl : c :: r = l at *
  rw [Lib.decodeL_N] at h ⊢
  have k0 := (l.getD 0 0).toNat_lt
  have k1 := (l.getD 1 0).toNat_lt
  have k2 := (l.getD 2 0).toNat_lt
  have pre : Lib.hasPrefix l [239, 191, 189] = true ↔ 2 < l.length ∧ l.getD 0 0 = 239 ∧ l.getD 1 0 = 191 ∧ l.getD 2 0 = 189 := by
    unfold Lib.hasPrefix
    match l with
    | [] => simp
    | [_] => simp
    | [_, _] => simp
    | x :: y :: z :: q =>
      simp only [List.isPrefixOf_cons_cons, List.isPrefixOf, Bool.and_true, Bool.and_eq_true, beq_iff_eq, List.getD_cons_zero, List.getD_cons_succ, List.length_cons]
      constructor
      · rintro ⟨rfl, rfl, rfl⟩; exact ⟨by omega, rfl, rfl, rfl⟩
      · rintro ⟨_, rfl, rfl, rfl⟩; exact ⟨rfl, rfl, rfl⟩
  rcases Lib.decodeN_shape l.length (l.getD 0 0).toNat (l.getD 1 0).toNat (l.getD 2 0).toNat (l.getD 3 0).toNat with ⟨c1, e⟩ | ⟨c1, c2, c3, cv, e⟩ | ⟨c1, c2, c3, c4, cv, cs, e⟩ | ⟨c1, c2, c3, c4, c5, cv, cw, e⟩ | e
  · rw [e] at h; simp only at h; omega
  · rw [e] at h; simp only at h; omega
  · rw [e] at h ⊢
    simp only at h ⊢
    rw [Bool.eq_iff_iff, pre]
    have e0 : (l.getD 0 0).toNat = 239 := by omega
    have e1 : (l.getD 1 0).toNat = 191 := by omega
    have e2 : (l.getD 2 0).toNat = 189 := by omega
    constructor
    · intro _; rfl
    · intro _; exact ⟨by omega, UInt8.toNat_inj.1 (by rw [e0]; rfl), UInt8.toNat_inj.1 (by rw [e1]; rfl), UInt8.toNat_inj.1 (by rw [e2]; rfl)⟩
  · rw [e] at h; simp only at h; omega
  · rw [e]
    simp only
    rw [Bool.eq_iff_iff, pre]
    constructor
    · rintro ⟨h0, h1, h2, h3⟩
      rw [h1, h2, h3] at e
      have hn : Lib.decodeN l.length 239 191 189 (l.getD 3 0).toNat = (65533, 3) := by
        unfold Lib.decodeN
        rw [if_neg (by decide), if_neg (fun hx => absurd hx.1 (by decide)), if_pos ⟨by decide, ⟨by omega, by decide⟩, h0, by decide⟩, if_pos (by decide)]
      have e' : Lib.decodeN l.length 239 191 189 (l.getD 3 0).toNat = (65533, 1) := e
      rw [hn] at e'
      cases e'
    · intro hh; simp at hh
end Go.Proofs.YtdooeedemgmpiaaDoor
