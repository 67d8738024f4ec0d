/- What the document reads of a manifest's lines, over plain bytes; one byte of a manifest turned, or one more. No program is named here. Conditions: none but those that each theorem names. -/
import Derived.Test.YtgpedeagaghpfaaGreatDoorMfPlain
namespace Go.Proofs.YtgpedeagaghpfaaGreatDoor
set_option linter.unusedVariables false
open Go
namespace Mf
/-! ### what the document reads -/
/-- The words behind a beginning, up to the line's end, what follows, whether it is one. -/
def wordR (s b : Bs) : Bs × Bs × Bool := if b.isPrefixOf s = true ∧ (10 : UInt8) ∈ s.drop b.length then ((Lib.cut (s.drop b.length) [10]).1, (Lib.cut (s.drop b.length) [10]).2.1, true) else ([], s, false)
theorem wordR_hit (b t r : Bs) (h : (10 : UInt8) ∉ t) : wordR (b ++ (t ++ 10 :: r)) b = (t, r, true) := by
  unfold wordR
  rw [List.drop_left, if_pos ⟨by rw [List.isPrefixOf_iff_prefix]; exact List.prefix_append _ _, by simp⟩, cut_at 10 t r h]
theorem wordR_miss {s b : Bs} (h : b.isPrefixOf s = false) : wordR s b = ([], s, false) := by
  unfold wordR
  rw [if_neg]
  rintro ⟨h1, _⟩
  rw [h] at h1; cases h1
def bLode : Bs := [108, 111, 100, 101, 115, 116, 97, 114, 32, 49]
def bNext : Bs := [110, 101, 120, 116, 32]
def bSeq : Bs := [115, 101, 113, 32]
def bLog : Bs := [108, 111, 103, 32]
def bSeg : Bs := [115, 101, 103, 109, 101, 110, 116, 32]
/-- The segments' names, and whether each line was one; at most n of them. -/
def segsR : Nat → Bs → List ByteArray
  | 0, _ => []
  | n + 1, t => if (wordR t bSeg).2.2 = true then ⟨(wordR t bSeg).1.toArray⟩ :: segsR n (wordR t bSeg).2.1 else []
def t1 (s : Bs) : Bs := (wordR s bLode).2.1
def t2 (s : Bs) : Bs := (wordR (t1 s) bNext).2.1
def t3 (s : Bs) : Bs := (wordR (t2 s) bSeq).2.1
def t4 (s : Bs) : Bs := (wordR (t3 s) bLog).2.1
def rdR (n : Nat) (s : Bs) : Mn := ⟨segsR n (t4 s), ⟨(wordR (t3 s) bLog).1.toArray⟩, numR (wordR (t1 s) bNext).1, numR (wordR (t2 s) bSeq).1⟩
def flR (s : Bs) : Bool := (wordR s bLode).2.2 && ((wordR (t1 s) bNext).2.2 && ((wordR (t2 s) bSeq).2.2 && (wordR (t3 s) bLog).2.2))
theorem wordR_len (s b : Bs) (h : (wordR s b).2.2 = true) : (wordR s b).2.1.length < s.length := by
  unfold wordR at h ⊢
  split
  · rename_i hc
    obtain ⟨x, t, hx, hn⟩ : ∃ x t, s.drop b.length = x ++ 10 :: t ∧ (10 : UInt8) ∉ x := by
      have : ∀ (l : Bs), (10 : UInt8) ∈ l → ∃ x t, l = x ++ 10 :: t ∧ (10 : UInt8) ∉ x := by
        intro l
        induction l with
        | nil => intro h; cases h
        | cons a l ih =>
          intro hm
          by_cases ha : a = 10
          · exact ⟨[], l, by rw [ha]; rfl, by simp⟩
          · rcases List.mem_cons.1 hm with e | e
            · exact absurd e.symm ha
            · obtain ⟨x, t, h1, h2⟩ := ih e
              refine ⟨a :: x, t, by rw [h1]; rfl, ?_⟩
              rw [List.mem_cons, not_or]
              exact ⟨fun e => ha e.symm, h2⟩
      exact this _ hc.2
    rw [hx, cut_at 10 x t hn]
    have h1 := congrArg List.length hx
    simp at h1
    show t.length < s.length
    omega
  · rename_i hc
    rw [if_neg hc] at h
    cases h
theorem segs_tail (n : Nat) (b : Bs) : segsR n (tailB b) = [] := by
  cases n with
  | zero => rfl
  | succ n =>
    have hp : bSeg.isPrefixOf (tailB b) = false := by
      unfold tailB lineB wSum bSeg
      rfl
    rw [segsR, wordR_miss hp]
    rfl
theorem segs_read : ∀ (L : List ByteArray) (n : Nat) (b : Bs), L.length ≤ n → (∀ s ∈ L, (10 : UInt8) ∉ bl s) → segsR n ((L.flatMap fun s => lineB wSeg (bl s)) ++ tailB b) = L
  | [], n, b, _, _ => segs_tail n b
  | s :: L, 0, b, h, _ => by cases h
  | s :: L, n + 1, b, h, hn => by
    have e : ((s :: L).flatMap fun s => lineB wSeg (bl s)) ++ tailB b = bSeg ++ (bl s ++ 10 :: ((L.flatMap fun s => lineB wSeg (bl s)) ++ tailB b)) := by
      rw [List.flatMap_cons]
      unfold lineB wSeg bSeg
      simp
    rw [e, segsR, wordR_hit bSeg (bl s) _ (hn s (by simp))]
    simp only [if_true]
    rw [segs_read L n b (by simp at h; exact h) (fun y hy => hn y (by simp [hy])), mk_bl]
theorem rdR_enc {m : Mn} (h : may m = true) (n : Nat) (hn : m.segs.length ≤ n) : rdR n (encB m) = m ∧ flR (encB m) = true := by
  obtain ⟨h1, h2, h3, h4, h5, h6, h7, _⟩ := (may_iff m).1 h
  obtain ⟨a, ha⟩ := Int.eq_ofNat_of_zero_le (show 0 ≤ m.next by omega)
  obtain ⟨b, hb⟩ := Int.eq_ofNat_of_zero_le h3
  obtain ⟨T, hT⟩ : ∃ T, T = (m.segs.flatMap fun s => lineB wSeg (bl s)) ++ tailB (bodyB m) := ⟨_, rfl⟩
  have e : encB m = bLode ++ (([] : Bs) ++ 10 :: (bNext ++ (Lib.itoa m.next ++ 10 :: (bSeq ++ (Lib.itoa m.seq ++ 10 :: (bLog ++ (bl m.log ++ 10 :: T))))))) := by
    unfold encB
    conv => lhs; arg 1; rw [body_eq]
    rw [hT]
    unfold lineB wLode wNext wSeq wLog bLode bNext bSeq bLog
    simp
  have q1 := wordR_hit bLode [] (bNext ++ (Lib.itoa m.next ++ 10 :: (bSeq ++ (Lib.itoa m.seq ++ 10 :: (bLog ++ (bl m.log ++ 10 :: T)))))) (by simp)
  have q2 := wordR_hit bNext (Lib.itoa m.next) (bSeq ++ (Lib.itoa m.seq ++ 10 :: (bLog ++ (bl m.log ++ 10 :: T)))) (itoa_no (by omega) (by decide))
  have q3 := wordR_hit bSeq (Lib.itoa m.seq) (bLog ++ (bl m.log ++ 10 :: T)) (itoa_no h3 (by decide))
  have q4 := wordR_hit bLog (bl m.log) T (nm_no h6 (by decide) (by decide) (by decide))
  rw [← e] at q1
  have hsg := segs_read m.segs n (bodyB m) hn (fun s hs => nm_no (h7 s hs) (by decide) (by decide) (by decide))
  rw [← hT] at hsg
  refine ⟨?_, ?_⟩
  · unfold rdR t4 t3 t2 t1
    rw [q1, q2, q3, q4, hsg, mk_bl, ha, hb, itoa_nat, itoa_nat, numR_dec a (by omega), numR_dec b (by omega), ← ha, ← hb]
  · unfold flR t3 t2 t1
    rw [q1, q2, q3, q4]
    rfl
/-- What the document's Decode answers. -/
def decR (n : Nat) (s : ByteArray) : Option Mn := if flR (bl s) = true ∧ may (rdR n (bl s)) = true ∧ encB (rdR n (bl s)) = bl s then some (rdR n (bl s)) else none
theorem decR_eq (n : Nat) (s : ByteArray) (hn : s.size ≤ n) : decR n s = dec s := by
  unfold decR
  refine dec_of s _ _ fun m h1 h2 => ?_
  have hl := enc_len m
  have h3 : (linesOf m).length = 4 + m.segs.length := by simp [linesOf, heads]; omega
  have hz : s.size = (encB m).length := by rw [h2]; exact (Array.length_toList).symm
  rw [← h2]
  exact ⟨(rdR_enc h1 n (by omega)).1, (rdR_enc h1 n (by omega)).2⟩
/-! ### one byte turned -/
theorem tail_form (b : Bs) : ∃ D : Bs, tailB b = [115, 117, 109, 32] ++ (D ++ [10]) ∧ D.all digB = true ∧ D ≠ [] ∧ D = Lib.decDigits (Wl.crcL b) :=
  ⟨Lib.decDigits (Wl.crcL b), rfl, (dec_all _).1, (dec_all _).2, rfl⟩
theorem body_end (m : Mn) : ∃ p, bodyB m = p ++ [10] := by
  unfold bodyB
  have : linesOf m ≠ [] := by simp [linesOf, heads]
  obtain ⟨r, c, hr⟩ : ∃ r c, linesOf m = r ++ [c] := by
    rcases List.eq_nil_or_concat (linesOf m) with h | ⟨r, c, h⟩
    · exact absurd h this
    · exact ⟨r, c, by rw [h]; simp⟩
  exact ⟨joinL r ++ c, by rw [hr, joinL_app]; simp [joinL]⟩
theorem dig_at {D : Bs} (h : D.all digB = true) {i : Nat} {c : UInt8} (hc : D[i]? = some c) : 48 ≤ c.toNat ∧ c.toNat ≤ 57 := (digB_iff c).1 (List.all_eq_true.1 h c (List.mem_of_getElem? hc))
/-- Two texts of the form, of which the second one's last line begins further ahead, differ at two places. -/
theorem two_apart (p q D E : Bs) (hD : D.all digB = true) (hE : E.all digB = true) (hD0 : D ≠ []) (hE0 : E ≠ []) (hlen : ((p ++ [10]) ++ ([115, 117, 109, 32] ++ (D ++ [10]))).length = ((q ++ [10]) ++ ([115, 117, 109, 32] ++ (E ++ [10]))).length) (hlt : q.length < p.length)
    (i : Nat) (hsame : ∀ j, j ≠ i → ((p ++ [10]) ++ ([115, 117, 109, 32] ++ (D ++ [10])))[j]? = ((q ++ [10]) ++ ([115, 117, 109, 32] ++ (E ++ [10])))[j]?) : False := by
  have hl : p.length + D.length = q.length + E.length := by simp at hlen; omega
  have hDl : 1 ≤ D.length := by cases D with | nil => exact absurd rfl hD0 | cons a l => simp
  have gp : ∀ k, ((p ++ [10]) ++ ([115, 117, 109, 32] ++ (D ++ [10])))[p.length + k]? = ([10, 115, 117, 109, 32] ++ (D ++ [10]))[k]? := fun k => by
    rw [show (p ++ [10]) ++ ([115, 117, 109, 32] ++ (D ++ [10])) = p ++ ([10, 115, 117, 109, 32] ++ (D ++ [10])) by simp, List.getElem?_append_right (by omega), show p.length + k - p.length = k by omega]
  have gq : ∀ k, ((q ++ [10]) ++ ([115, 117, 109, 32] ++ (E ++ [10])))[q.length + k]? = ([10, 115, 117, 109, 32] ++ (E ++ [10]))[k]? := fun k => by
    rw [show (q ++ [10]) ++ ([115, 117, 109, 32] ++ (E ++ [10])) = q ++ ([10, 115, 117, 109, 32] ++ (E ++ [10])) by simp, List.getElem?_append_right (by omega), show q.length + k - q.length = k by omega]
  obtain ⟨d, hd⟩ : ∃ d, p.length = q.length + (d + 1) := ⟨p.length - q.length - 1, by omega⟩
  have hEl : D.length + (d + 1) = E.length := by omega
  have both : ∀ k, q.length + (d + 1) + k ≠ i → ([10, 115, 117, 109, 32] ++ (D ++ [10]))[k]? = ([10, 115, 117, 109, 32] ++ (E ++ [10]))[d + 1 + k]? := fun k hk => by
    have h1 := gp k
    have h2 := gq (d + 1 + k)
    rw [hd] at h1
    rw [show q.length + (d + 1 + k) = q.length + (d + 1) + k by omega] at h2
    rw [← h1, ← h2]
    exact hsame _ hk
  have digE : ∀ k, 5 ≤ d + 1 + k → k ≤ 4 → ∃ c, ([10, 115, 117, 109, 32] ++ (E ++ [10]))[d + 1 + k]? = some c ∧ 48 ≤ c.toNat ∧ c.toNat ≤ 57 := fun k h5 h4 => by
    rw [List.getElem?_append_right (by simp; omega), List.getElem?_append_left (by simp; omega)]
    have hlt : d + 1 + k - [10, 115, 117, 109, 32].length < E.length := by simp; omega
    refine ⟨E[d + 1 + k - [10, 115, 117, 109, 32].length], List.getElem?_eq_getElem hlt, ?_⟩
    exact dig_at hE (List.getElem?_eq_getElem hlt)
  -- at place k of the first one's line end and word, unlike what the second one has there
  have un : ∀ k, k = 0 ∨ k = 1 → ([10, 115, 117, 109, 32] ++ (D ++ [10]))[k]? ≠ ([10, 115, 117, 109, 32] ++ (E ++ [10]))[d + 1 + k]? := by
    intro k hk
    by_cases h5 : 5 ≤ d + 1 + k
    · obtain ⟨c, hc, h1, h2⟩ := digE k h5 (by omega)
      rw [hc]
      intro e
      rcases hk with rfl | rfl
      · have : c = 10 := by simpa using e.symm
        subst this; exact absurd h1 (by decide)
      · have : c = 115 := by simpa using e.symm
        subst this; exact absurd h2 (by decide)
    · have hd4 : d = 0 ∨ d = 1 ∨ d = 2 ∨ d = 3 := by omega
      rcases hk with rfl | rfl <;> rcases hd4 with rfl | rfl | rfl | rfl <;> simp <;> omega
  rcases Nat.lt_or_ge i (q.length + (d + 1) + 1) with hi | hi
  · exact un 1 (.inr rfl) (both 1 (by omega))
  · exact un 0 (.inl rfl) (both 0 (by omega))
theorem one_turned (m n : Mn) (c : Nat) (x : UInt8) (hc : c < (encB m).length) (hx : (encB m)[c]? ≠ some x) : encB n ≠ (encB m).set c x := by
  intro e
  obtain ⟨p, hp⟩ := body_end m
  obtain ⟨q, hq⟩ := body_end n
  obtain ⟨D, tD, aD, nD, eD⟩ := tail_form (bodyB m)
  obtain ⟨E, tE, aE, nE, eE⟩ := tail_form (bodyB n)
  have hm : encB m = (p ++ [10]) ++ ([115, 117, 109, 32] ++ (D ++ [10])) := by unfold encB; rw [tD, hp]
  have hn : encB n = (q ++ [10]) ++ ([115, 117, 109, 32] ++ (E ++ [10])) := by unfold encB; rw [tE, hq]
  have hlen : (encB n).length = (encB m).length := by rw [e]; simp
  have hsame : ∀ j, j ≠ c → (encB m)[j]? = (encB n)[j]? := fun j hj => by rw [e, List.getElem?_set_ne (Ne.symm hj)]
  rcases Nat.lt_trichotomy q.length p.length with h | h | h
  · exact two_apart p q D E aD aE nD nE (by rw [← hm, ← hn, hlen]) h c (fun j hj => by rw [← hm, ← hn]; exact hsame j hj)
  · have hdl : D.length = E.length := by
      rw [hm, hn] at hlen; simp at hlen; omega
    have hbl : (bodyB m).length = (bodyB n).length := by rw [hp, hq]; simp [h]
    have f1 : encB m = bodyB m ++ tailB (bodyB m) := rfl
    have f2 : encB n = bodyB n ++ tailB (bodyB n) := rfl
    by_cases hcb : c < (bodyB m).length
    · rw [f1, List.set_append_left _ _ hcb, f2] at e
      obtain ⟨e1, e2⟩ := List.append_inj e (by simp [hbl])
      have hne : (bodyB m)[c]? ≠ some x := by rw [f1, List.getElem?_append_left hcb] at hx; exact hx
      have := Wl.crcL_set (bodyB m) c x hcb hne
      rw [← e1] at this
      rw [tE, tD] at e2
      have e3 := List.append_cancel_left e2
      have e4 : E = D := List.append_cancel_right e3
      apply this
      rw [← valD_dec (Wl.crcL (bodyB n)), ← eE, e4, eD, valD_dec]
    · rw [f1, List.set_append_right _ _ (by omega), f2] at e
      obtain ⟨e1, e2⟩ := List.append_inj e hbl.symm
      rw [e1] at e2
      rw [f1, List.getElem?_append_right (by omega)] at hx
      apply hx
      rw [f1] at hc
      rw [e2, List.getElem?_set_self (by rw [List.length_append] at hc; omega)]
  · exact two_apart q p E D aE aD nE nD (by rw [← hm, ← hn, hlen]) h c (fun j hj => by rw [← hm, ← hn]; exact (hsame j hj).symm)
theorem one_more (m n : Mn) : encB n ≠ encB m ++ [10] := by
  intro e
  obtain ⟨D, tD, aD, nD, _⟩ := tail_form (bodyB m)
  obtain ⟨E, tE, aE, nE, _⟩ := tail_form (bodyB n)
  unfold encB at e
  rw [tD, tE, show bodyB n ++ ([115, 117, 109, 32] ++ (E ++ [10])) = (bodyB n ++ ([115, 117, 109, 32] ++ E)) ++ [10] by simp] at e
  have e1 := List.append_cancel_right e
  have hl := congrArg List.getLast? e1
  rw [show bodyB n ++ ([115, 117, 109, 32] ++ E) = (bodyB n ++ [115, 117, 109, 32]) ++ E by simp, show bodyB m ++ ([115, 117, 109, 32] ++ (D ++ [10])) = (bodyB m ++ ([115, 117, 109, 32] ++ D)) ++ [10] by simp] at hl
  have hr : ((bodyB m ++ ([115, 117, 109, 32] ++ D)) ++ [10]).getLast? = some 10 := List.getLast?_concat
  rw [hr, List.getLast?_append] at hl
  cases hE : E.getLast? with
  | none => rw [List.getLast?_eq_none_iff] at hE; exact nE hE
  | some y =>
    rw [hE] at hl
    have hy : y = 10 := by simpa using hl
    have := (digB_iff y).1 (List.all_eq_true.1 aE y (List.mem_of_getLast? hE))
    subst hy
    exact absurd this.1 (by decide)
end Mf
end Go.Proofs.YtgpedeagaghpfaaGreatDoor
