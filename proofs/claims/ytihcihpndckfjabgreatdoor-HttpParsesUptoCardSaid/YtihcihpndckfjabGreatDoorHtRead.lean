/- What Parse reads of lines: the request that Write told, with whatever lines of other names; with another body none. Over plain bytes. Conditions: none. -/
import Derived.Test.YtihcihpndckfjabGreatDoorHtBack
namespace Go.Proofs.YtihcihpndckfjabGreatDoor
namespace Ht
theorem all_not {p : UInt8 → Bool} {l : Bs} (h : l.all p = true) {c : UInt8} (hc : p c = false) : c ∉ l := fun hm => by
  have := List.all_eq_true.1 h c hm
  rw [hc] at this; cases this
theorem method_parts {m : Bs} (h : methodOk m = true) : m ≠ [] ∧ m.length ≤ 16 ∧ m.all capB = true := by
  unfold methodOk at h
  simp only [Bool.and_eq_true, decide_eq_true_eq] at h
  exact ⟨h.1.1, h.1.2, h.2⟩
theorem path_parts {p : Bs} (h : pathOk p = true) : p.head? = some 47 ∧ p.all visB = true := by
  unfold pathOk at h
  simp only [Bool.and_eq_true, decide_eq_true_eq] at h
  exact h
def firstL (m p : Bs) : Bs := m ++ [32] ++ p ++ [32] ++ ver
theorem first_ok {m p : Bs} (hm : methodOk m = true) (hp : pathOk p = true) : lineOk (firstL m p) ∧ cutFirst (firstL m p) = (m, p, true) := by
  obtain ⟨h1, _, h2⟩ := method_parts hm
  obtain ⟨h3, h4⟩ := path_parts hp
  have n1 : (32 : UInt8) ∉ m := all_not h2 (by decide)
  have n2 : (32 : UInt8) ∉ p := all_not h4 (by decide)
  have n3 : (13 : UInt8) ∉ m := all_not h2 (by decide)
  have n4 : (13 : UInt8) ∉ p := all_not h4 (by decide)
  refine ⟨⟨by simp [firstL], ?_⟩, ?_⟩
  · simp only [firstL, List.mem_append, List.mem_singleton, not_or]
    exact ⟨⟨⟨⟨n3, by decide⟩, n4⟩, by decide⟩, by decide⟩
  · have e1 : Lib.cut (firstL m p) [32] = (m, p ++ ([32] ++ ver), true) := by
      have := cut_at 32 [] m (p ++ ([32] ++ ver)) n1
      simpa [firstL] using this
    have e2 : Lib.cut (p ++ ([32] ++ ver)) [32] = (p, ver, true) := by
      have := cut_at 32 [] p ver n2
      simpa using this
    unfold cutFirst
    rw [e1]
    simp only [e2, hm, hp, decide_true, Bool.and_self]
def lenL (n : Nat) : Bs := clen ++ Lib.itoa n
theorem itoa_nat (n : Nat) : Lib.itoa (n : Int) = Lib.decDigits n := by unfold Lib.itoa; rw [if_neg (by omega)]; simp
theorem headW_lines (m p b : Bs) : headW m p b = lines [firstL m p, lenL b.length] ++ crlf := by
  simp [headW, lines, firstL, lenL, hend, crlf]
theorem no13 {l : Bs} (h : l.all digB = true) : (13 : UInt8) ∉ l := all_not h (by decide)
theorem lenL_ok (n : Nat) : lineOk (lenL n) := by
  refine ⟨by simp [lenL, clen], ?_⟩
  rw [lenL, itoa_nat, List.mem_append]
  rintro (h | h)
  · revert h; decide
  · exact no13 (dec_all n).1 h
theorem dropWhile_not {p : UInt8 → Bool} {l : Bs} (h : ∀ b, l.head? = some b → p b = false) : l.dropWhile p = l := by
  cases l with
  | nil => rfl
  | cons b l => simp [List.dropWhile, h b rfl]
theorem trim_dec (n : Nat) : Lib.trimS (32 :: Lib.decDigits n) [32, 9] = Lib.decDigits n := by
  obtain ⟨ha, hn⟩ := dec_all n
  have hmem : ∀ b ∈ Lib.decDigits n, ([32, 9] : Bs).contains b = false := fun b hb => by
    have hd := List.all_eq_true.1 ha b hb
    rw [digB_iff] at hd
    rw [← Bool.not_eq_true, List.contains_iff_mem]
    intro hm
    have : b = 32 ∨ b = 9 := by simpa using hm
    rcases this with rfl | rfl <;> revert hd <;> decide
  have e1 : (Lib.decDigits n).reverse.dropWhile (([32, 9] : Bs).contains ·) = (Lib.decDigits n).reverse := dropWhile_not fun b hb => by
    have : b ∈ (Lib.decDigits n).reverse := List.mem_of_mem_head? hb
    exact hmem b (by simpa using this)
  have hr : Lib.trimRightS (32 :: Lib.decDigits n) [32, 9] = 32 :: Lib.decDigits n := by
    unfold Lib.trimRightS
    rw [List.reverse_cons]
    have hne : (Lib.decDigits n).reverse ≠ [] := by simpa using hn
    have e2 : ((Lib.decDigits n).reverse ++ [32]).dropWhile (([32, 9] : Bs).contains ·) = (Lib.decDigits n).reverse ++ [32] := dropWhile_not fun b hb => by
      cases hq : (Lib.decDigits n).reverse with
      | nil => exact absurd hq hne
      | cons a l =>
        rw [hq] at hb
        have : b = a := by simpa using hb.symm
        subst this
        exact hmem b (by have : b ∈ (Lib.decDigits n).reverse := by rw [hq]; simp
                         simpa using this)
    rw [e2]; simp
  unfold Lib.trimS
  rw [hr]
  unfold Lib.trimLeftS
  rw [List.dropWhile_cons_of_pos (by decide)]
  exact dropWhile_not fun b hb => hmem b (List.mem_of_mem_head? hb)
theorem any_not {l cs : Bs} (h : ∀ b ∈ l, b ∉ cs) : Lib.containsAny l cs = false := by
  have : Lib.indexAny l cs = -1 := by
    induction l with
    | nil => rfl
    | cons b l ih =>
      unfold Lib.indexAny
      have hb : cs.contains b = false := by rw [← Bool.not_eq_true, List.contains_iff_mem]; exact h b (by simp)
      rw [hb, ih fun c hc => h c (by simp [hc])]
      rfl
  unfold Lib.containsAny
  rw [this]; rfl
theorem cut_len_line (n : Nat) : cutLine (lenL n) = (lenName, Lib.decDigits n, true) := by
  have e : Lib.cut (lenL n) [58] = ([67, 111, 110, 116, 101, 110, 116, 45, 76, 101, 110, 103, 116, 104], 32 :: Lib.decDigits n, true) := by
    have := cut_at 58 [] [67, 111, 110, 116, 101, 110, 116, 45, 76, 101, 110, 103, 116, 104] (32 :: Lib.decDigits n) (by decide)
    rw [← this]
    simp [lenL, clen, itoa_nat]
  unfold cutLine
  rw [e]
  have ha := (dec_all n).1
  have hany : Lib.containsAny (32 :: Lib.decDigits n) [10, 13, 0] = false := any_not fun b hb => by
    rcases List.mem_cons.1 hb with rfl | hb
    · decide
    · have hd := (digB_iff b).1 (List.all_eq_true.1 ha b hb)
      intro hm
      have : b = 10 ∨ b = 13 ∨ b = 0 := by simpa using hm
      rcases this with rfl | rfl | rfl <;> revert hd <;> decide
  simp only [trim_dec, hany]
  rfl
theorem size_end (k : Nat) (size : Int) (told : Bool) : sizeF (k + 1) size told crlf = (size, 0) := by
  have := cut_empty []
  rw [List.append_nil] at this
  unfold sizeF
  rw [this]
  rfl
theorem size_len (k n : Nat) (L : List Bs) (h : n ≤ 262144) : sizeF (k + 1) 0 false (lines (lenL n :: L) ++ crlf) = sizeF k n true (lines L ++ crlf) := by
  have hc := cut_line (lenL n) L crlf (lenL_ok n)
  conv => lhs; unfold sizeF
  rw [hc]
  simp only [cut_len_line, length_dec n h]
  rw [if_neg (lenL_ok n).1, if_neg (by rintro (h | h | ⟨-, h⟩) <;> revert h <;> decide), if_pos trivial, if_neg (by simp)]
/-- A line of another name says nothing. -/
def dumb (x : Bs) : Prop := lineOk x ∧ (cutLine x).2.2 = true ∧ (cutLine x).1 ≠ encName ∧ (cutLine x).1 ≠ lenName
theorem size_dumb (k : Nat) (size : Int) (told : Bool) (x : Bs) (L : List Bs) (h : dumb x) : sizeF (k + 1) size told (lines (x :: L) ++ crlf) = sizeF k size told (lines L ++ crlf) := by
  obtain ⟨h1, h2, h3, h4⟩ := h
  have hc := cut_line x L crlf h1
  conv => lhs; unfold sizeF
  rw [hc]
  simp only
  rw [if_neg h1.1, if_neg (by rintro (h | h | ⟨h, -⟩) <;> first | exact h3 h | exact h4 h | (rw [h2] at h; cases h)), if_neg h4]
theorem len2 (x : Bs) (L : List Bs) (h : lineOk x) : (lines L).length + 3 ≤ (lines (x :: L)).length := by
  have := List.length_pos_iff.2 h.1
  rw [lines_cons]; simp [crlf]; omega
theorem body_len (n : Nat) (h : n ≤ 262144) : bodySize (lines [lenL n] ++ crlf) = ((n : Int), 0) := by
  unfold bodySize
  rw [size_len _ n [] h]
  obtain ⟨k, hk⟩ : ∃ k, (lines [lenL n] ++ crlf).length = k + 1 := ⟨(lines [lenL n] ++ crlf).length - 1, by simp [crlf]⟩
  rw [hk]
  exact size_end k n true
theorem body_dumb (n : Nat) (x : Bs) (hx : dumb x) (h : n ≤ 262144) : bodySize (lines [x, lenL n] ++ crlf) = ((n : Int), 0) := by
  unfold bodySize
  rw [size_dumb _ 0 false x _ hx]
  have h3 := len2 x [lenL n] hx.1
  obtain ⟨k, hk⟩ : ∃ k, (lines [x, lenL n] ++ crlf).length = k + 1 + 1 := ⟨(lines [x, lenL n] ++ crlf).length - 2, by simp [crlf] at h3 ⊢⟩
  rw [hk, size_len _ n [] h]
  exact size_end k n true
theorem parse_lines {m p : Bs} (hm : methodOk m = true) (hp : pathOk p = true) (X : List Bs) (hX : ∀ x ∈ X, lineOk x) (n : Nat) (hn : bodySize (lines X ++ crlf) = ((n : Int), 0))
    (hl : (lines (firstL m p :: X) ++ crlf).length ≤ 4096) (t : Bs) :
    parse (lines (firstL m p :: X) ++ (crlf ++ t)) = if t.length = n then ((m, p, t), 0) else (([], [], []), 40) := by
  obtain ⟨h1, h2⟩ := first_ok hm hp
  have hL : ∀ x ∈ firstL m p :: X, lineOk x := fun x hx => by
    rcases List.mem_cons.1 hx with rfl | hx
    · exact h1
    · exact hX x hx
  have hc := cut_lines (firstL m p :: X) t hL (by simp)
  have hh := head_lines (firstL m p :: X) t hL (by simp)
  have hf := cut_line (firstL m p) X crlf h1
  unfold parse
  rw [hh, hc, hf, h2]
  simp only [hn]
  rw [if_neg (by omega), if_neg (by simp), if_neg (by simp), if_neg (by simp)]
  by_cases e : t.length = n
  · rw [if_pos e, if_neg (by omega)]
  · rw [if_neg e, if_pos (by omega)]
theorem parse_write {m p b : Bs} (hm : methodOk m = true) (hp : pathOk p = true) (hb : b.length ≤ 262144) (hl : (headW m p b).length ≤ 4096) (t : Bs) :
    parse (headW m p b ++ t) = if t.length = b.length then ((m, p, t), 0) else (([], [], []), 40) := by
  rw [headW_lines] at hl ⊢
  rw [List.append_assoc]
  exact parse_lines hm hp [lenL b.length] (fun x hx => by rw [List.mem_singleton.1 hx]; exact lenL_ok _) b.length (body_len _ hb) hl t
end Ht
end Go.Proofs.YtihcihpndckfjabGreatDoor
