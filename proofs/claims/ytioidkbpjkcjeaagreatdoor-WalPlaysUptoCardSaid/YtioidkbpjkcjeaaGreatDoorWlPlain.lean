/- A log's records in bytes, one behind the other: which bytes a record has, which records any bytes begin with. No program is named here. Conditions: none but those that each theorem names. -/
import Derived.Test.YtioidkbpjkcjeaaGreatDoorNumPlain
namespace Go.Proofs.YtioidkbpjkcjeaaGreatDoor
set_option linter.unusedVariables false
open Go
namespace Wl
theorem fixL_inj {w a b : Nat} (ha : a < 256 ^ w) (hb : b < 256 ^ w) (h : fixL w a = fixL w b) : a = b := by
  rw [← unfL_fixL w a ha, h, unfL_fixL w b hb]
/-! ### the check sum of a list -/
def crcL (l : List UInt8) : Nat := crcN ⟨l.toArray⟩
theorem crcL_of (s : ByteArray) : crcL s.data.toList = crcN s := rfl
theorem crcL_lt (l : List UInt8) : crcL l < 4294967296 := crcN_lt _
theorem byN_list (l : List UInt8) (i : Nat) : byN ⟨l.toArray⟩ i = (l.getD i 0).toNat := by
  unfold byN
  by_cases h : i < l.length
  · rw [dif_pos (show i < (ByteArray.mk l.toArray).size from (show i < l.toArray.size by simpa using h))]
    rw [List.getD_eq_getElem?_getD, List.getElem?_eq_getElem h]
    rfl
  · rw [dif_neg (show ¬ i < (ByteArray.mk l.toArray).size from (show ¬ i < l.toArray.size by simpa using h))]
    rw [List.getD_eq_getElem?_getD, List.getElem?_eq_none (by omega)]
    rfl
theorem crcL_set (l : List UInt8) (j : Nat) (x : UInt8) (hj : j < l.length) (hx : l[j]? ≠ some x) : crcL (l.set j x) ≠ crcL l := by
  intro e
  unfold crcL crcN at e
  have e2 := xor_cancel e
  have hz : (ByteArray.mk (l.set j x).toArray).size = (ByteArray.mk l.toArray).size := by
    show (l.set j x).toArray.size = l.toArray.size
    simp
  rw [hz] at e2
  refine sumN_other _ _ j ?_ ?_ _ (show j < (ByteArray.mk l.toArray).size from (show j < l.toArray.size by simpa using hj)) e2
  · rw [byN_list, byN_list]
    simp only [List.getD_eq_getElem?_getD, List.getElem?_set_self hj, List.getElem?_eq_getElem hj, Option.getD_some]
    intro c
    apply hx
    rw [List.getElem?_eq_getElem hj]
    exact congrArg some (UInt8.toNat_inj.1 c).symm
  · intro i hi
    rw [byN_list, byN_list]
    simp only [List.getD_eq_getElem?_getD, List.getElem?_set_ne (Ne.symm hi)]
def sum4 (l : List UInt8) : List UInt8 := fixL 4 (crcL l)
theorem sum4_len (l : List UInt8) : (sum4 l).length = 4 := fixL_length _ _
theorem sum4_set (l : List UInt8) (j : Nat) (x : UInt8) (hj : j < l.length) (hx : l[j]? ≠ some x) : sum4 (l.set j x) ≠ sum4 l := fun e =>
  crcL_set l j x hj hx (fixL_inj (w := 4) (crcL_lt _) (crcL_lt _) e)
/-! ### frames -/
def headL (q n : Nat) : List UInt8 := fixL 4 n ++ fixL 8 q
def frameL (q : Nat) (b : List UInt8) : List UInt8 := headL q b.length ++ sum4 (headL q b.length) ++ b ++ sum4 (fixL 8 q ++ b)
theorem headL_len (q n : Nat) : (headL q n).length = 12 := by simp [headL, fixL_length]
theorem frameL_len (q : Nat) (b : List UInt8) : (frameL q b).length = 20 + b.length := by
  simp only [frameL, List.length_append, headL_len, sum4_len]; omega
inductive One where
  | torn
  | bad
  | ok (q : Nat) (b : List UInt8)
def lenOf (s : List UInt8) : Nat := unfL (s.take 4)
def seqOf (s : List UInt8) : Nat := unfL ((s.drop 4).take 8)
def bodyOf (s : List UInt8) : List UInt8 := (s.drop 16).take (lenOf s)
def headOk (s : List UInt8) : Bool := decide (sum4 (s.take 12) = (s.drop 12).take 4) && decide (lenOf s ≤ 16777216) && decide (1 ≤ seqOf s) && decide (seqOf s ≤ 4503599627370496)
def bodyOk (s : List UInt8) : Bool := decide (sum4 ((s.drop 4).take 8 ++ bodyOf s) = (s.drop (16 + lenOf s)).take 4)
def recOf (s : List UInt8) : One :=
  if s.length < 16 then .torn else if headOk s = false then .bad else if s.length < 20 + lenOf s then .torn else if bodyOk s = false then .bad else .ok (seqOf s) (bodyOf s)
theorem one_short {s : List UInt8} (h : s.length < 16) : recOf s = .torn := by unfold recOf; rw [if_pos h]
theorem one_head {s : List UInt8} (h : ¬ s.length < 16) (h1 : headOk s = false) : recOf s = .bad := by unfold recOf; rw [if_neg h, if_pos h1]
theorem one_part {s : List UInt8} (h : ¬ s.length < 16) (h1 : headOk s = true) (h2 : s.length < 20 + lenOf s) : recOf s = .torn := by
  unfold recOf; rw [if_neg h, if_neg (by rw [h1]; simp), if_pos h2]
theorem one_body {s : List UInt8} (h : ¬ s.length < 16) (h1 : headOk s = true) (h2 : ¬ s.length < 20 + lenOf s) (h3 : bodyOk s = false) : recOf s = .bad := by
  unfold recOf; rw [if_neg h, if_neg (by rw [h1]; simp), if_neg h2, if_pos h3]
theorem one_yes {s : List UInt8} (h : ¬ s.length < 16) (h1 : headOk s = true) (h2 : ¬ s.length < 20 + lenOf s) (h3 : bodyOk s = true) : recOf s = .ok (seqOf s) (bodyOf s) := by
  unfold recOf; rw [if_neg h, if_neg (by rw [h1]; simp), if_neg h2, if_neg (by rw [h3]; simp)]
theorem lenOf_lt (s : List UInt8) (h : ¬ s.length < 16) : lenOf s < 4294967296 := by
  have h1 := unfL_lt (s.take 4)
  rw [show (s.take 4).length = 4 by simp; omega] at h1
  exact h1
theorem seqOf_lt (s : List UInt8) (h : ¬ s.length < 16) : seqOf s < 18446744073709551616 := by
  have h1 := unfL_lt ((s.drop 4).take 8)
  rw [show ((s.drop 4).take 8).length = 8 by simp; omega] at h1
  exact h1
theorem bodyOf_len {s : List UInt8} (h : ¬ s.length < 20 + lenOf s) : (bodyOf s).length = lenOf s := by
  simp [bodyOf]; omega
theorem one_ok {s : List UInt8} {q : Nat} {b : List UInt8} (h : recOf s = .ok q b) : 20 + b.length ≤ s.length ∧ 1 ≤ q ∧ q ≤ 4503599627370496 ∧ b.length ≤ 16777216 := by
  by_cases h1 : s.length < 16
  · rw [one_short h1] at h; cases h
  · cases h2 : headOk s with
    | false => rw [one_head h1 h2] at h; cases h
    | true =>
      by_cases h3 : s.length < 20 + lenOf s
      · rw [one_part h1 h2 h3] at h; cases h
      · cases h4 : bodyOk s with
        | false => rw [one_body h1 h2 h3 h4] at h; cases h
        | true =>
          rw [one_yes h1 h2 h3 h4] at h
          injection h with e1 e2
          subst e1 e2
          have hl := bodyOf_len h3
          simp only [headOk, Bool.and_eq_true, decide_eq_true_eq] at h2
          omega
/-! ### the records of any bytes -/
structure Sc where
  recs : List (Nat × List UInt8)
  size : Nat
  err : Nat
def Sc.more (r : Sc) (q : Nat) (b : List UInt8) : Sc := ⟨(q, b) :: r.recs, 20 + b.length + r.size, r.err⟩
/-- The records with which s begins, when p was the number of the one ahead (0: there is none). -/
def scan (p : Nat) (s : List UInt8) : Sc :=
  if he : s = [] then ⟨[], 0, 0⟩ else
  match h : recOf s with
  | .torn => ⟨[], 0, 91⟩
  | .bad => ⟨[], 0, 90⟩
  | .ok q b => if p ≠ 0 ∧ q ≠ p + 1 then ⟨[], 0, 90⟩ else (scan q (s.drop (20 + b.length))).more q b
termination_by s.length
decreasing_by
  have := List.length_pos_iff.2 he
  simp only [List.length_drop]; omega
theorem scan_nil (p : Nat) : scan p [] = ⟨[], 0, 0⟩ := by rw [scan]; simp
theorem scan_torn {p : Nat} {s : List UInt8} (h0 : s ≠ []) (h : recOf s = .torn) : scan p s = ⟨[], 0, 91⟩ := by
  rw [scan, dif_neg h0]
  split
  · rfl
  · rename_i e; rw [h] at e; cases e
  · rename_i e; rw [h] at e; cases e
theorem scan_bad {p : Nat} {s : List UInt8} (h0 : s ≠ []) (h : recOf s = .bad) : scan p s = ⟨[], 0, 90⟩ := by
  rw [scan, dif_neg h0]
  split
  · rename_i e; rw [h] at e; cases e
  · rfl
  · rename_i e; rw [h] at e; cases e
theorem scan_step {p q : Nat} {s b : List UInt8} (h0 : s ≠ []) (h : recOf s = .ok q b) : scan p s = if p ≠ 0 ∧ q ≠ p + 1 then ⟨[], 0, 90⟩ else (scan q (s.drop (20 + b.length))).more q b := by
  rw [scan, dif_neg h0]
  split
  · rename_i e; rw [h] at e; cases e
  · rename_i e; rw [h] at e; cases e
  · rename_i q' b' e; rw [h] at e; injection e with e1 e2; subst e1 e2; rfl
theorem scan_off {p q : Nat} {s b : List UInt8} (h0 : s ≠ []) (h : recOf s = .ok q b) (hp : p ≠ 0 ∧ q ≠ p + 1) : scan p s = ⟨[], 0, 90⟩ := by rw [scan_step h0 h, if_pos hp]
theorem scan_next {p q : Nat} {s b : List UInt8} (h0 : s ≠ []) (h : recOf s = .ok q b) (hp : ¬ (p ≠ 0 ∧ q ≠ p + 1)) : scan p s = (scan q (s.drop (20 + b.length))).more q b := by rw [scan_step h0 h, if_neg hp]
theorem scan_size : ∀ (n p : Nat) (s : List UInt8), s.length ≤ n → (scan p s).size ≤ s.length ∧ (scan p s).recs.length * 20 ≤ (scan p s).size := by
  intro n
  induction n with
  | zero =>
    intro p s hs
    obtain rfl := List.eq_nil_of_length_eq_zero (Nat.le_zero.1 hs)
    rw [scan_nil]; simp
  | succ n ih =>
    intro p s hs
    by_cases h0 : s = []
    · subst h0; rw [scan_nil]; simp
    · cases h : recOf s with
      | torn => rw [scan_torn h0 h]; simp
      | bad => rw [scan_bad h0 h]; simp
      | ok q b =>
        by_cases hp : p ≠ 0 ∧ q ≠ p + 1
        · rw [scan_off h0 h hp]; simp
        · rw [scan_next h0 h hp]
          obtain ⟨h1, _⟩ := one_ok h
          obtain ⟨h2, h3⟩ := ih q (s.drop (20 + b.length)) (by simp; omega)
          simp only [Sc.more, List.length_cons]
          simp only [List.length_drop] at h2
          omega
/-! ### a frame is read as it was -/
theorem take_app {α} {a b : List α} {n : Nat} (h : a.length = n) : (a ++ b).take n = a := by subst h; simp
theorem drop_app {α} {a b : List α} {n : Nat} (h : a.length = n) : (a ++ b).drop n = b := by subst h; simp
/-- The parts of bytes that begin with a head, a sum of it, a body and its sum. -/
theorem parts (l q h b c t : List UInt8) (h1 : l.length = 4) (h2 : q.length = 8) (h3 : h.length = 4) (h4 : c.length = 4) :
    (l ++ q ++ h ++ b ++ c ++ t).take 4 = l ∧ ((l ++ q ++ h ++ b ++ c ++ t).drop 4).take 8 = q ∧ (l ++ q ++ h ++ b ++ c ++ t).take 12 = l ++ q ∧ ((l ++ q ++ h ++ b ++ c ++ t).drop 12).take 4 = h ∧
    ((l ++ q ++ h ++ b ++ c ++ t).drop 16).take b.length = b ∧ ((l ++ q ++ h ++ b ++ c ++ t).drop (16 + b.length)).take 4 = c ∧ (l ++ q ++ h ++ b ++ c ++ t).drop (20 + b.length) = t ∧ (l ++ q ++ h ++ b ++ c ++ t).length = 20 + b.length + t.length := by
  refine ⟨?_, ?_, ?_, ?_, ?_, ?_, ?_, ?_⟩
  · simp only [List.append_assoc]; exact take_app h1
  · simp only [List.append_assoc]; rw [drop_app h1]; exact take_app h2
  · rw [show l ++ q ++ h ++ b ++ c ++ t = (l ++ q) ++ (h ++ (b ++ (c ++ t))) by simp]; exact take_app (by simp [h1, h2])
  · rw [show l ++ q ++ h ++ b ++ c ++ t = (l ++ q) ++ (h ++ (b ++ (c ++ t))) by simp, drop_app (by simp [h1, h2])]; exact take_app h3
  · rw [show l ++ q ++ h ++ b ++ c ++ t = (l ++ q ++ h) ++ (b ++ (c ++ t)) by simp, drop_app (by simp [h1, h2, h3])]; exact take_app rfl
  · rw [show l ++ q ++ h ++ b ++ c ++ t = (l ++ q ++ h ++ b) ++ (c ++ t) by simp, drop_app (by simp [h1, h2, h3]; omega)]; exact take_app h4
  · exact drop_app (by simp [h1, h2, h3, h4]; omega)
  · simp [h1, h2, h3, h4]; omega
theorem one_of_parts (l q h b c t : List UInt8) (h1 : l.length = 4) (h2 : q.length = 8) (h3 : h.length = 4) (h4 : c.length = 4) (hn : unfL l = b.length) (hn' : b.length ≤ 16777216) (hq : 1 ≤ unfL q) (hq' : unfL q ≤ 4503599627370496) :
    recOf (l ++ q ++ h ++ b ++ c ++ t) = if sum4 (l ++ q) ≠ h then .bad else if sum4 (q ++ b) ≠ c then .bad else .ok (unfL q) b := by
  obtain ⟨p1, p2, p3, p4, p5, p6, _, p8⟩ := parts l q h b c t h1 h2 h3 h4
  generalize l ++ q ++ h ++ b ++ c ++ t = s at *
  have el : lenOf s = b.length := by unfold lenOf; rw [p1, hn]
  have eq : seqOf s = unfL q := by unfold seqOf; rw [p2]
  have eb : bodyOf s = b := by unfold bodyOf; rw [el, p5]
  have e16 : ¬ s.length < 16 := by omega
  have hh : headOk s = decide (sum4 (l ++ q) = h) := by
    unfold headOk
    rw [p3, p4, el, eq, decide_eq_true hn', decide_eq_true hq, decide_eq_true hq']
    simp
  have hb : bodyOk s = decide (sum4 (q ++ b) = c) := by
    unfold bodyOk
    rw [p2, eb, el, p6]
  by_cases c1 : sum4 (l ++ q) = h
  · rw [if_neg (by simpa using c1)]
    by_cases c2 : sum4 (q ++ b) = c
    · rw [if_neg (by simpa using c2), one_yes e16 (by rw [hh]; simpa using c1) (by omega) (by rw [hb]; simpa using c2), eq, eb]
    · rw [if_pos c2, one_body e16 (by rw [hh]; simpa using c1) (by omega) (by rw [hb]; simpa using c2)]
  · rw [if_pos c1, one_head e16 (by rw [hh]; simpa using c1)]
theorem one_frame (q : Nat) (b t : List UInt8) (hn : b.length ≤ 16777216) (hq : 1 ≤ q) (hq' : q ≤ 4503599627370496) : recOf (frameL q b ++ t) = .ok q b := by
  have e := one_of_parts (fixL 4 b.length) (fixL 8 q) (sum4 (headL q b.length)) b (sum4 (fixL 8 q ++ b)) t (fixL_length _ _) (fixL_length _ _) (sum4_len _) (sum4_len _) (unfL_fixL 4 _ (by omega)) hn
    (by rw [unfL_fixL 8 q (by omega)]; exact hq) (by rw [unfL_fixL 8 q (by omega)]; exact hq')
  rw [if_neg (by simp [headL]), if_neg (by simp), unfL_fixL 8 q (by omega)] at e
  exact e
theorem frame_drop (q : Nat) (b t : List UInt8) : (frameL q b ++ t).drop (20 + b.length) = t := drop_app (frameL_len q b)
theorem frame_ne (q : Nat) (b t : List UInt8) : frameL q b ++ t ≠ [] := by
  intro e
  have := congrArg List.length e
  simp [frameL_len] at this
/-- Cut off anywhere a frame is torn. -/
theorem one_cut (q : Nat) (b : List UInt8) (hn : b.length ≤ 16777216) (hq : 1 ≤ q) (hq' : q ≤ 4503599627370496) (k : Nat) (hk : k < 20 + b.length) : recOf ((frameL q b).take k) = .torn := by
  have hl : ((frameL q b).take k).length = k := by rw [List.length_take, frameL_len]; omega
  by_cases h16 : k < 16
  · exact one_short (by omega)
  · have hy := one_frame q b [] hn hq hq'
    rw [List.append_nil] at hy
    have e1 : ∀ m, m ≤ k → ((frameL q b).take k).take m = (frameL q b).take m := fun m hm => by rw [List.take_take, Nat.min_eq_left hm]
    have e2 : ∀ i m, i + m ≤ k → (((frameL q b).take k).drop i).take m = ((frameL q b).drop i).take m := fun i m hm => by
      rw [List.drop_take, List.take_take, Nat.min_eq_left (by omega)]
    have a1 : lenOf ((frameL q b).take k) = lenOf (frameL q b) := by unfold lenOf; rw [e1 4 (by omega)]
    have a2 : seqOf ((frameL q b).take k) = seqOf (frameL q b) := by unfold seqOf; rw [e2 4 8 (by omega)]
    have a3 : headOk ((frameL q b).take k) = headOk (frameL q b) := by unfold headOk; rw [a1, a2, e1 12 (by omega), e2 12 4 (by omega)]
    have hf16 : ¬ (frameL q b).length < 16 := by rw [frameL_len]; omega
    have hlen : lenOf (frameL q b) = b.length := by
      obtain ⟨p1, _⟩ := parts (fixL 4 b.length) (fixL 8 q) (sum4 (headL q b.length)) b (sum4 (fixL 8 q ++ b)) [] (fixL_length _ _) (fixL_length _ _) (sum4_len _) (sum4_len _)
      rw [List.append_nil] at p1
      have p1' : (frameL q b).take 4 = fixL 4 b.length := p1
      unfold lenOf
      rw [p1', unfL_fixL 4 _ (by omega)]
    have hh : headOk (frameL q b) = true := by
      cases h : headOk (frameL q b) with
      | true => rfl
      | false => rw [one_head hf16 h] at hy; cases hy
    exact one_part (by omega) (by rw [a3]; exact hh) (by rw [a1, hlen]; omega)
/-- With one byte turned a frame is none, whatever stands behind it. -/
theorem one_spoilt (q : Nat) (b t : List UInt8) (hn : b.length ≤ 16777216) (hq : 1 ≤ q) (hq' : q ≤ 4503599627370496) (j : Nat) (x : UInt8) (hj : j < 20 + b.length) (hx : (frameL q b)[j]? ≠ some x) :
    recOf ((frameL q b).set j x ++ t) = .bad := by
  have hlx : ((frameL q b).set j x ++ t).length = 20 + b.length + t.length := by simp [frameL_len]
  have h16 : ¬ ((frameL q b).set j x ++ t).length < 16 := by omega
  have hF : frameL q b = headL q b.length ++ (sum4 (headL q b.length) ++ (b ++ sum4 (fixL 8 q ++ b))) := by simp [frameL]
  by_cases h12 : j < 12
  · -- in the head
    have e : (frameL q b).set j x ++ t = ((headL q b.length).set j x) ++ (sum4 (headL q b.length) ++ (b ++ sum4 (fixL 8 q ++ b) ++ t)) := by
      rw [hF, List.set_append_left _ _ (by rw [headL_len]; exact h12)]; simp
    have hx' : (headL q b.length)[j]? ≠ some x := by
      rw [hF, List.getElem?_append_left (by rw [headL_len]; exact h12)] at hx; exact hx
    refine one_head h16 ?_
    unfold headOk
    have hl : ((headL q b.length).set j x).length = 12 := by rw [List.length_set, headL_len]
    rw [e, take_app hl, drop_app hl, take_app (sum4_len _), decide_eq_false (sum4_set _ j x (by rw [headL_len]; exact h12) hx')]
    rfl
  · by_cases h12b : j < 16
    · -- in the head's sum
      have e : (frameL q b).set j x ++ t = headL q b.length ++ ((sum4 (headL q b.length)).set (j - 12) x ++ (b ++ sum4 (fixL 8 q ++ b) ++ t)) := by
        rw [hF, List.set_append_right _ _ (by rw [headL_len]; omega), headL_len, List.set_append_left _ _ (by rw [sum4_len]; omega)]; simp
      have hx' : (sum4 (headL q b.length))[j - 12]? ≠ some x := by
        rw [hF, List.getElem?_append_right (by rw [headL_len]; omega), headL_len, List.getElem?_append_left (by rw [sum4_len]; omega)] at hx; exact hx
      refine one_head h16 ?_
      unfold headOk
      have hl : ((sum4 (headL q b.length)).set (j - 12) x).length = 4 := by rw [List.length_set, sum4_len]
      rw [e, take_app (headL_len _ _), drop_app (headL_len _ _), take_app hl, decide_eq_false]
      · rfl
      · intro c
        apply hx'
        rw [c, List.getElem?_set_self (by rw [sum4_len]; omega)]
    · have hbad : ∀ (b' c' : List UInt8), b'.length = b.length → c'.length = 4 → sum4 (fixL 8 q ++ b') ≠ c' → recOf (fixL 4 b.length ++ fixL 8 q ++ sum4 (headL q b.length) ++ b' ++ c' ++ t) = .bad := by
        intro b' c' hb' hc' hs
        rw [one_of_parts _ _ _ b' c' t (fixL_length _ _) (fixL_length _ _) (sum4_len _) hc' (by rw [hb']; exact unfL_fixL 4 _ (by omega)) (by omega) (by rw [unfL_fixL 8 q (by omega)]; exact hq) (by rw [unfL_fixL 8 q (by omega)]; exact hq')]
        rw [if_neg (by simp [headL]), if_pos hs]
      have h1 : ((headL q b.length) ++ sum4 (headL q b.length)).length = 16 := by simp [headL_len, sum4_len]
      have hF2 : frameL q b = (headL q b.length ++ sum4 (headL q b.length)) ++ (b ++ sum4 (fixL 8 q ++ b)) := by simp [frameL]
      by_cases hbd : j < 16 + b.length
      · -- in the body
        have e : (frameL q b).set j x ++ t = fixL 4 b.length ++ fixL 8 q ++ sum4 (headL q b.length) ++ b.set (j - 16) x ++ sum4 (fixL 8 q ++ b) ++ t := by
          rw [hF2, List.set_append_right _ _ (by rw [h1]; omega), h1, List.set_append_left _ _ (by omega)]; simp [headL]
        have hx' : (fixL 8 q ++ b)[8 + (j - 16)]? ≠ some x := by
          rw [hF2, List.getElem?_append_right (by rw [h1]; omega), h1, List.getElem?_append_left (by omega)] at hx
          rw [List.getElem?_append_right (by rw [fixL_length]; omega), fixL_length, Nat.add_sub_cancel_left]
          exact hx
        rw [e]
        refine hbad _ _ (by simp) (sum4_len _) ?_
        have es : fixL 8 q ++ b.set (j - 16) x = (fixL 8 q ++ b).set (8 + (j - 16)) x := by
          rw [List.set_append_right _ _ (by rw [fixL_length]; omega), fixL_length, Nat.add_sub_cancel_left]
        rw [es]
        exact sum4_set _ _ x (by simp [fixL_length]; omega) hx'
      · -- in the body's sum
        have h2 : ((headL q b.length) ++ sum4 (headL q b.length) ++ b).length = 16 + b.length := by simp [headL_len, sum4_len]; omega
        have hF3 : frameL q b = (headL q b.length ++ sum4 (headL q b.length) ++ b) ++ sum4 (fixL 8 q ++ b) := by simp [frameL]
        have e : (frameL q b).set j x ++ t = fixL 4 b.length ++ fixL 8 q ++ sum4 (headL q b.length) ++ b ++ (sum4 (fixL 8 q ++ b)).set (j - (16 + b.length)) x ++ t := by
          rw [hF3, List.set_append_right _ _ (by rw [h2]; omega), h2]; simp [headL]
        have hx' : (sum4 (fixL 8 q ++ b))[j - (16 + b.length)]? ≠ some x := by
          rw [hF3, List.getElem?_append_right (by rw [h2]; omega), h2] at hx; exact hx
        rw [e]
        refine hbad _ _ rfl (by rw [List.length_set, sum4_len]) ?_
        intro c
        apply hx'
        rw [c, List.getElem?_set_self (by rw [sum4_len]; omega)]
/-! ### records one behind the other -/
def frames : Nat → List (List UInt8) → List UInt8
  | _, [] => []
  | q, b :: r => frameL q b ++ frames (q + 1) r
def numbered : Nat → List (List UInt8) → List (Nat × List UInt8)
  | _, [] => []
  | q, b :: r => (q, b) :: numbered (q + 1) r
theorem frames_add (q : Nat) (a c : List (List UInt8)) : frames q (a ++ c) = frames q a ++ frames (q + a.length) c := by
  induction a generalizing q with
  | nil => rfl
  | cons x r ih => simp only [List.cons_append, frames, ih, List.append_assoc, List.length_cons]; rw [show q + 1 + r.length = q + (r.length + 1) by omega]
theorem numbered_len (q : Nat) (l : List (List UInt8)) : (numbered q l).length = l.length := by
  induction l generalizing q with
  | nil => rfl
  | cons x r ih => simp [numbered, ih]
theorem numbered_get (q : Nat) (l : List (List UInt8)) (i : Nat) (h : i < l.length) : (numbered q l)[i]? = some (q + i, l[i]) := by
  induction l generalizing q i with
  | nil => simp at h
  | cons x r ih =>
    cases i with
    | zero => rfl
    | succ i =>
      have := ih (q + 1) i (by simpa using h)
      simp only [numbered, List.getElem?_cons_succ, List.getElem_cons_succ]
      rw [this, show q + 1 + i = q + (i + 1) by omega]
def lastQ (p q : Nat) (n : Nat) : Nat := if n = 0 then p else q + n - 1
/-- Frames in their order, and then anything. -/
theorem scan_frames (bs : List (List UInt8)) (t : List UInt8) (hb : ∀ b ∈ bs, b.length ≤ 16777216) : ∀ (p q : Nat), 1 ≤ q → q + bs.length ≤ 4503599627370497 → (p = 0 ∨ q = p + 1) →
    scan p (frames q bs ++ t) = ⟨numbered q bs ++ (scan (lastQ p q bs.length) t).recs, (frames q bs).length + (scan (lastQ p q bs.length) t).size, (scan (lastQ p q bs.length) t).err⟩ := by
  induction bs with
  | nil => intro p q _ _ _; simp [frames, numbered, lastQ]
  | cons b r ih =>
    intro p q hq hq' hp
    rw [List.length_cons] at hq'
    have hy := one_frame q b (frames (q + 1) r ++ t) (hb b (by simp)) hq (by omega)
    have h2 := ih (fun x hx => hb x (by simp [hx])) q (q + 1) (by omega) (by omega) (.inr rfl)
    have hne := frame_ne q b (frames (q + 1) r ++ t)
    have hl : lastQ q (q + 1) r.length = lastQ p q (r.length + 1) := by
      unfold lastQ
      rw [if_neg (show ¬ r.length + 1 = 0 by omega)]
      split <;> omega
    simp only [frames, List.append_assoc, List.length_cons]
    rw [scan_next hne hy (by omega), frame_drop, h2, hl]
    simp only [Sc.more, numbered, List.cons_append, List.length_append, frameL_len, Nat.add_assoc]
/-- Frames cut off anywhere: all that are whole. -/
theorem scan_cut (bs : List (List UInt8)) (b : List UInt8) (p q k : Nat) (hb : ∀ b ∈ bs, b.length ≤ 16777216) (hb1 : b.length ≤ 16777216) (hq : 1 ≤ q) (hq' : q + bs.length ≤ 4503599627370496) (hp : p = 0 ∨ q = p + 1) (hk : k < 20 + b.length) :
    scan p (frames q bs ++ (frameL (q + bs.length) b).take k) = ⟨numbered q bs, (frames q bs).length, if k = 0 then 0 else 91⟩ := by
  rw [scan_frames bs _ hb p q hq (by omega) hp]
  by_cases h0 : k = 0
  · subst h0
    rw [List.take_zero, scan_nil]; simp
  · have hne : (frameL (q + bs.length) b).take k ≠ [] := by
      intro e
      have := congrArg List.length e
      rw [List.length_take, frameL_len] at this
      simp at this; omega
    rw [scan_torn hne (one_cut _ b hb1 (by omega) hq' k hk), if_neg h0]; simp
end Wl
end Go.Proofs.YtioidkbpjkcjeaaGreatDoor
