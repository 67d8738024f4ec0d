/- The document's own Parse in the words of the plain data: find, bare, number, a line. Conditions: none. -/
import Derived.Test.YtihcihpndckfjabGreatDoorHtRead
namespace Go.Proofs.YtihcihpndckfjabGreatDoor
namespace Ht
theorem occ_of {l sub : Bs} {i : Nat} (h : Lib.index l sub = i) : i ≤ l.length ∧ Lib.occAt l sub i = true ∧ ∀ j, j < i → Lib.occAt l sub j = false := by
  rcases Lib.index_spec l sub with ⟨h1, _⟩ | ⟨k, h1, h2, h3, h4⟩
  · omega
  · obtain rfl : k = i := by omega
    exact ⟨h2, h3, h4⟩
theorem occ_none {l sub : Bs} (h : Lib.index l sub = -1) : ∀ j, j ≤ l.length → Lib.occAt l sub j = false := by
  rcases Lib.index_spec l sub with ⟨_, h2⟩ | ⟨k, h1, _⟩
  · exact h2
  · omega
theorem index_two (l sub : Bs) : Lib.index l sub = -1 ∨ ∃ i : Nat, Lib.index l sub = i := by
  have := Lib.index_ge l sub
  by_cases h : Lib.index l sub = -1
  · exact .inl h
  · exact .inr ⟨(Lib.index l sub).toNat, by omega⟩
theorem cut_hit {l sub : Bs} {i : Nat} (h : Lib.index l sub = i) : Lib.cut l sub = (l.take i, l.drop (i + sub.length), true) := by
  unfold Lib.cut
  rw [h, if_pos (by omega)]
  simp
theorem cut_miss {l sub : Bs} (h : Lib.index l sub = -1) : Lib.cut l sub = (l, [], false) := by
  unfold Lib.cut
  rw [h, if_neg (by omega)]
/-- The place of a text in another one, from a place on. -/
def findF (l sub : Bs) (k : Nat) : Int := if Lib.index (l.drop k) sub = -1 then -1 else k + Lib.index (l.drop k) sub
theorem occ_drop (l sub : Bs) (k j : Nat) : Lib.occAt (l.drop k) sub j = Lib.occAt l sub (k + j) := by unfold Lib.occAt; rw [List.drop_drop]
theorem find_hit {l sub : Bs} {k i : Nat} (hk : k ≤ i) (hi : i ≤ l.length) (h : Lib.occAt l sub i = true) (hn : ∀ j, k ≤ j → j < i → Lib.occAt l sub j = false) : findF l sub k = i := by
  have e : Lib.index (l.drop k) sub = ((i - k : Nat) : Int) := Lib.index_first (by rw [List.length_drop]; omega) (by rw [occ_drop, show k + (i - k) = i by omega]; exact h) (fun j hj => by rw [occ_drop]; exact hn _ (by omega) (by omega))
  unfold findF
  rw [e, if_neg (by omega)]
  omega
theorem find_end {l sub : Bs} {k i : Nat} (hs : sub ≠ []) (hi : l.length < i + sub.length) (hn : ∀ j, k ≤ j → j < i → Lib.occAt l sub j = false) : findF l sub k = -1 := by
  have e : Lib.index (l.drop k) sub = -1 := Lib.index_none (fun j hj => by
    rw [occ_drop]
    by_cases h : k + j < i
    · exact hn _ (by omega) h
    · rw [← Bool.not_eq_true]
      intro h'
      rcases Lib.occAt_room h' with h2 | h2
      · omega
      · exact hs h2)
  unfold findF
  rw [e, if_pos rfl]
theorem find_zero (l sub : Bs) : findF l sub 0 = Lib.index l sub := by
  unfold findF
  rw [List.drop_zero]
  split <;> simp_all
theorem find_cases (l sub : Bs) (k : Nat) : (findF l sub k = -1 ∧ Lib.index (l.drop k) sub = -1) ∨ ∃ i : Nat, findF l sub k = ((k + i : Nat) : Int) ∧ Lib.index (l.drop k) sub = i := by
  unfold findF
  rcases index_two (l.drop k) sub with h | ⟨i, h⟩
  · left; rw [h]; simp
  · right
    refine ⟨i, ?_, h⟩
    rw [h, if_neg (by omega)]
    omega
/-! ### lines -/
theorem pre2 (a b : UInt8) (m : Bs) : [a, b].isPrefixOf m = true ↔ m[0]? = some a ∧ m[1]? = some b := by
  match m with
  | [] => simp
  | [x] => simp [List.isPrefixOf]
  | x :: y :: r =>
    simp only [List.isPrefixOf, Bool.and_eq_true, beq_iff_eq, List.getElem?_cons_zero, List.getElem?_cons_succ, Option.some.injEq, and_true]
    constructor
    · rintro ⟨h1, h2⟩; exact ⟨h1.symm, h2.symm⟩
    · rintro ⟨h1, h2⟩; exact ⟨h1.symm, h2.symm⟩
theorem pre4 (a b c d : UInt8) (m : Bs) : [a, b, c, d].isPrefixOf m = true ↔ m[0]? = some a ∧ m[1]? = some b ∧ m[2]? = some c ∧ m[3]? = some d := by
  match m with
  | [] => simp
  | [x] => simp [List.isPrefixOf]
  | [x, y] => simp [List.isPrefixOf]
  | [x, y, z] => simp [List.isPrefixOf]
  | x :: y :: z :: u :: r =>
    simp only [List.isPrefixOf, Bool.and_eq_true, beq_iff_eq, List.getElem?_cons_zero, List.getElem?_cons_succ, Option.some.injEq, and_true]
    constructor
    · rintro ⟨h1, h2, h3, h4⟩; exact ⟨h1.symm, h2.symm, h3.symm, h4.symm⟩
    · rintro ⟨h1, h2, h3, h4⟩; exact ⟨h1.symm, h2.symm, h3.symm, h4.symm⟩
theorem occ2 (l : Bs) (j : Nat) : Lib.occAt l crlf j = true ↔ l[j]? = some 13 ∧ l[j + 1]? = some 10 := by
  unfold Lib.occAt crlf
  rw [pre2, List.getElem?_drop, List.getElem?_drop]
  simp
theorem occ4 (l : Bs) (j : Nat) : Lib.occAt l hend j = true ↔ l[j]? = some 13 ∧ l[j + 1]? = some 10 ∧ l[j + 2]? = some 13 ∧ l[j + 3]? = some 10 := by
  unfold Lib.occAt hend
  rw [pre4, List.getElem?_drop, List.getElem?_drop, List.getElem?_drop, List.getElem?_drop]
  simp
/-- Between a place ahead of the head's end and that end there is a line's end. -/
theorem line_end {L : Bs} {i k : Nat} (ho : Lib.occAt L hend i = true) (hk : k ≤ i) :
    ∃ b : Nat, findF L crlf k = b ∧ k ≤ b ∧ b ≤ i ∧ Lib.occAt L crlf b = true ∧
      Lib.cut ((L.take (i + 4)).drop k) crlf = ((L.take b).drop k, (L.take (i + 4)).drop (b + 2), true) := by
  have h4 := (occ4 L i).1 ho
  have hlen : i + 4 ≤ L.length := by
    have := Lib.occAt_room ho
    rcases this with h | h
    · exact h
    · cases h
  have h2 : Lib.occAt L crlf i = true := (occ2 L i).2 ⟨h4.1, h4.2.1⟩
  obtain ⟨j, hj⟩ : ∃ j : Nat, Lib.index (L.drop k) crlf = j := by
    rcases index_two (L.drop k) crlf with h | h
    · have := occ_none h (i - k) (by rw [List.length_drop]; omega)
      rw [occ_drop, show k + (i - k) = i by omega, h2] at this
      cases this
    · exact h
  obtain ⟨j1, j2, j3⟩ := occ_of hj
  have hji : k + j ≤ i := by
    rcases Nat.lt_or_ge i (k + j) with h | h
    · have := j3 (i - k) (by omega)
      rw [occ_drop, show k + (i - k) = i by omega, h2] at this
      cases this
    · exact h
  rw [occ_drop] at j2
  refine ⟨k + j, ?_, by omega, hji, j2, ?_⟩
  · unfold findF
    rw [hj, if_neg (by omega)]
    omega
  · have same : ∀ m, m ≤ j → Lib.occAt ((L.take (i + 4)).drop k) crlf m = Lib.occAt L crlf (k + m) := fun m hm => by
      rw [occ_drop, Bool.eq_iff_iff, occ2, occ2, List.getElem?_take_of_lt (by omega), List.getElem?_take_of_lt (by omega)]
    have hx : Lib.index ((L.take (i + 4)).drop k) crlf = (j : Int) := Lib.index_first (by rw [List.length_drop, List.length_take]; omega) (by rw [same j (Nat.le_refl _)]; exact j2)
      (fun m hm => by rw [same m (by omega), ← occ_drop]; exact j3 m hm)
    rw [cut_hit hx, List.drop_drop, List.take_drop, List.take_take, Nat.min_eq_left (by omega), show k + (j + crlf.length) = k + j + 2 by simp [crlf]; omega]
/-- A line ahead of the head's end is not empty. -/
theorem line_some {L : Bs} {i a b : Nat} (hi : Lib.index L hend = i) (ha : a < i) (hoa : Lib.occAt L crlf a = true) (hab : a + 2 ≤ b) (hob : Lib.occAt L crlf b = true) (hb : b ≤ i) : (L.take b).drop (a + 2) ≠ [] := by
  intro h
  have hl := congrArg List.length h
  obtain ⟨i1, i2, i3⟩ := occ_of hi
  rw [List.length_drop, List.length_take] at hl
  simp at hl
  have : b = a + 2 := by omega
  subst this
  have e1 := (occ2 L a).1 hoa
  have e2 := (occ2 L (a + 2)).1 hob
  have := i3 a ha
  rw [(occ4 L a).2 ⟨e1.1, e1.2, e2.1, e2.2⟩] at this
  cases this
theorem room2 {L : Bs} {i a : Nat} (hi : Lib.occAt L hend i = true) (ha : a < i) (hoa : Lib.occAt L crlf a = true) : a + 2 ≤ i := by
  rcases Nat.lt_or_ge a (i - 1) with h | h
  · omega
  · have h0 : i = a + 1 := by omega
    subst h0
    have e1 := (occ2 L a).1 hoa
    have e2 := (occ4 L (a + 1)).1 hi
    rw [e1.2] at e2
    exact absurd e2.1 (by decide)
/-! ### blanks at both ends -/
theorem trimR_cons (cs : Bs) (x : UInt8) (l : Bs) : Lib.trimRightS (x :: l) cs = if Lib.trimRightS l cs = [] then (if cs.contains x = true then [] else [x]) else x :: Lib.trimRightS l cs := by
  unfold Lib.trimRightS
  rw [List.reverse_cons, List.dropWhile_append]
  generalize l.reverse.dropWhile (cs.contains ·) = m
  cases m with
  | nil =>
    show (List.dropWhile (fun x => List.contains cs x) [x]).reverse = if cs.contains x = true then [] else [x]
    by_cases hx : cs.contains x = true
    · rw [if_pos hx, List.dropWhile_cons_of_pos hx]; rfl
    · rw [if_neg hx, List.dropWhile_cons_of_neg hx]; rfl
  | cons y m =>
    rw [if_neg (by simp), if_neg (by simp)]
    simp
theorem trim_comm (cs : Bs) : ∀ l : Bs, Lib.trimLeftS (Lib.trimRightS l cs) cs = Lib.trimRightS (Lib.trimLeftS l cs) cs
  | [] => rfl
  | x :: l => by
    have ih := trim_comm cs l
    rw [trimR_cons]
    by_cases hx : cs.contains x = true
    · have e : Lib.trimLeftS (x :: l) cs = Lib.trimLeftS l cs := by unfold Lib.trimLeftS; rw [List.dropWhile_cons_of_pos (by simpa using hx)]
      rw [e, ← ih, if_pos hx]
      by_cases h : Lib.trimRightS l cs = []
      · rw [if_pos h, h]
      · rw [if_neg h]
        unfold Lib.trimLeftS
        rw [List.dropWhile_cons_of_pos (by simpa using hx)]
    · have e : Lib.trimLeftS (x :: l) cs = x :: l := by unfold Lib.trimLeftS; rw [List.dropWhile_cons_of_neg (by simpa using hx)]
      rw [e, trimR_cons, if_neg hx]
      by_cases h : Lib.trimRightS l cs = []
      · rw [if_pos h]
        unfold Lib.trimLeftS
        rw [List.dropWhile_cons_of_neg (by simpa using hx)]
      · rw [if_neg h]
        unfold Lib.trimLeftS
        rw [List.dropWhile_cons_of_neg (by simpa using hx)]
/-! ### numbers -/
def numF : Nat → Bs → Nat
  | a, [] => a
  | a, c :: l => numF (min (10 * a + (c.toNat - 48)) 262145) l
theorem numF_top : ∀ l : Bs, numF 262145 l = 262145
  | [] => rfl
  | c :: l => by
    unfold numF
    rw [show min (10 * 262145 + (c.toNat - 48)) 262145 = 262145 by omega]
    exact numF_top l
theorem numF_le : ∀ (l : Bs) (a : Nat), a ≤ 262145 → numF a l ≤ 262145
  | [], a, h => h
  | c :: l, a, h => numF_le l _ (Nat.min_le_right _ _)
theorem numF_snoc (c : UInt8) : ∀ (l : Bs) (a : Nat), numF a (l ++ [c]) = min (10 * numF a l + (c.toNat - 48)) 262145
  | [], a => rfl
  | x :: l, a => numF_snoc c l _
theorem numF_parse : ∀ (l : Bs) (acc : Nat), l.all digB = true → (∃ u, Lib.parseUint10 acc l = .ok u ∧ numF (min acc 262145) l = min u 262145) ∨ (Lib.parseUint10 acc l = .range ∧ numF (min acc 262145) l = 262145)
  | [], acc, _ => .inl ⟨acc, rfl, rfl⟩
  | c :: r, acc, h => by
    simp only [List.all_cons, Bool.and_eq_true] at h
    have hc := (digB_iff c).1 h.1
    have e : numF (min acc 262145) (c :: r) = numF (min (acc * 10 + (c.toNat - 48)) 262145) r := by
      conv => lhs; unfold numF
      congr 1
      omega
    rw [e]
    simp only [Lib.parseUint10]
    rw [if_pos hc]
    split
    · right
      refine ⟨rfl, ?_⟩
      rw [show min (acc * 10 + (c.toNat - 48)) 262145 = 262145 by omega]
      exact numF_top r
    · split
      · right
        refine ⟨rfl, ?_⟩
        rw [show min (acc * 10 + (c.toNat - 48)) 262145 = 262145 by omega]
        exact numF_top r
      · exact numF_parse r _ h.2
/-- The document's own number: what it is, and whether it is one. -/
def numOk (v : Bs) : Bool := decide (v ≠ []) && !(decide (1 < v.length) && decide (v.head? = some 48)) && v.all digB
theorem length_num (v : Bs) : lengthOf v = if numOk v = false then (0, 40) else if 262144 < numF 0 v then (0, 41) else ((numF 0 v : Int), 0) := by
  unfold lengthOf
  by_cases hb : v = [] ∨ v.all digB = false ∨ (1 < v.length ∧ v.head? = some 48)
  · rw [if_pos hb, if_pos]
    unfold numOk
    rcases hb with h | h | ⟨h, h'⟩
    · simp [h]
    · simp [h]
    · simp [h, h']
  · rw [if_neg hb]
    have h0 : v ≠ [] := fun h => hb (.inl h)
    have hd : v.all digB = true := by rw [← Bool.not_eq_false]; exact fun h => hb (.inr (.inl h))
    have hok : numOk v = true := by
      unfold numOk
      rw [hd, decide_eq_true h0]
      by_cases h1 : 1 < v.length
      · rw [decide_eq_false (fun h2 => hb (.inr (.inr ⟨h1, h2⟩)))]; simp
      · rw [decide_eq_false h1]; simp
    rw [if_neg (by rw [hok]; simp)]
    cases v with
    | nil => exact absurd rfl h0
    | cons c r =>
      have hc := (digB_iff c).1 (by simp at hd; exact hd.1)
      have hp := numF_parse (c :: r) 0 hd
      rw [show min 0 262145 = 0 from rfl] at hp
      unfold Lib.atoiAll
      have e43 : ¬ c.toNat = 43 := by omega
      have e45 : ¬ c.toNat = 45 := by omega
      simp only [e43, e45, or_self, Lib.parseMag, List.cons_ne_nil, if_false, false_and, not_false_eq_true, true_and]
      rcases hp with ⟨u, hu, hn⟩ | ⟨hu, hn⟩
      · rw [hu, hn]
        simp only
        by_cases hbig : 9223372036854775808 ≤ u
        · rw [if_pos hbig, if_pos (by omega)]
          rfl
        · rw [if_neg hbig]
          show (if (262144 : Int) < (u : Int) then ((0 : Int), (41 : Int)) else ((u : Int), 0)) = _
          by_cases h1 : 262144 < u
          · rw [if_pos (by omega), if_pos (by omega)]
          · rw [if_neg (by omega), if_neg (by omega)]
            congr 1
            omega
      · rw [hu, hn]
        rfl
/-- Another line, as the document's own answer reads it: the length that it says (-1: none); the error. -/
def lineF (x : Bs) (had : Bool) : Int × Int :=
  if (cutLine x).2.2 = false then (-1, 40)
  else if (cutLine x).1 = encName then (-1, 40)
  else if (cutLine x).1 = lenName then
    (if had = true then (-1, 40) else if (lengthOf (cutLine x).2.1).2 = 0 then lengthOf (cutLine x).2.1 else (-1, (lengthOf (cutLine x).2.1).2))
  else (-1, 0)
theorem length_nat (v : Bs) : (lengthOf v).2 = 0 → 0 ≤ (lengthOf v).1 := by
  rw [length_num]
  split
  · intro h; cases h
  · split
    · intro h; cases h
    · intro _; simp
theorem size_step (k : Nat) (z : Int) (t : Bool) (l n r : Bs) (c : Bool) (hc : Lib.cut l crlf = (n, r, c)) (hn : n ≠ []) :
    sizeF (k + 1) z t l = if (lineF n t).2 ≠ 0 then (0, (lineF n t).2) else if 0 ≤ (lineF n t).1 then sizeF k (lineF n t).1 true r else sizeF k z t r := by
  rw [sizeF, hc]
  simp only [if_neg hn]
  unfold lineF
  by_cases h1 : (cutLine n).2.2 = false
  · simp [h1]
  · by_cases h2 : (cutLine n).1 = encName
    · simp [h1, h2]
    · by_cases h3 : (cutLine n).1 = lenName
      · cases t with
        | true => simp [h1, h2, h3]
        | false =>
          by_cases h4 : (lengthOf (cutLine n).2.1).2 = 0
          · have := length_nat _ h4
            have h5 : ¬ lenName = encName := by decide
            simp [h1, h3, h4, h5, this]
          · have h5 : ¬ lenName = encName := by decide
            simp [h1, h3, h4, h5]
      · simp [h1, h2, h3]
/-! ### one byte -/
theorem occ1 (l : Bs) (c : UInt8) (j : Nat) : Lib.occAt l [c] j = true ↔ l[j]? = some c := by
  unfold Lib.occAt
  have e : l[j]? = (l.drop j)[0]? := by rw [List.getElem?_drop]; simp
  rw [e]
  cases l.drop j with
  | nil => simp
  | cons x r =>
    simp only [List.isPrefixOf, Bool.and_true, beq_iff_eq, List.getElem?_cons_zero, Option.some.injEq]
    exact ⟨fun h => h.symm, fun h => h.symm⟩
theorem find_mem (c : UInt8) (l : Bs) : (findF l [c] 0 = -1 ∧ c ∉ l) ∨ (0 ≤ findF l [c] 0 ∧ c ∈ l) := by
  rw [find_zero]
  rcases index_two l [c] with h | ⟨i, h⟩
  · left
    refine ⟨h, fun hm => ?_⟩
    obtain ⟨j, hj, e⟩ := List.mem_iff_getElem.1 hm
    have := occ_none h j (by omega)
    rw [(occ1 l c j).2 (by rw [List.getElem?_eq_getElem hj, e])] at this
    cases this
  · right
    obtain ⟨_, h2, _⟩ := occ_of h
    exact ⟨by omega, List.mem_of_getElem? ((occ1 l c i).1 h2)⟩
theorem any_iff (cs : Bs) : ∀ l : Bs, Lib.containsAny l cs = true ↔ ∃ b ∈ l, b ∈ cs
  | [] => by simp [Lib.containsAny, Lib.indexAny]
  | b :: l => by
    have ih := any_iff cs l
    unfold Lib.containsAny at ih ⊢
    unfold Lib.indexAny
    have hg := Lib.indexAny_ge cs l
    by_cases hb : cs.contains b = true
    · rw [if_pos hb]
      simp only [Int.le_refl, decide_true, true_iff]
      exact ⟨b, by simp, List.contains_iff_mem.1 hb⟩
    · rw [if_neg hb]
      have hb' : b ∉ cs := fun h => hb (List.contains_iff_mem.2 h)
      rw [decide_eq_true_iff] at ih ⊢
      by_cases h1 : Lib.indexAny l cs = -1
      · rw [h1] at ih ⊢
        simp only [beq_self_eq_true, if_true]
        constructor
        · intro h; omega
        · rintro ⟨x, hx, hxc⟩
          rcases List.mem_cons.1 hx with rfl | hx
          · exact absurd hxc hb'
          · exact absurd (ih.2 ⟨x, hx, hxc⟩) (by omega)
      · have h2 : (Lib.indexAny l cs == -1) = false := by simpa using h1
        rw [h2]
        simp only [Bool.false_eq_true, if_false]
        constructor
        · intro _
          obtain ⟨x, hx, hxc⟩ := ih.1 (by omega)
          exact ⟨x, List.mem_cons_of_mem _ hx, hxc⟩
        · intro _; omega
def nameOk (l : Bs) : Bool := decide (l ≠ []) && l.all nameB
theorem first_one {l : Bs} (h : findF l [32] 0 = -1) : (cutFirst l).2.2 = false := by
  rw [find_zero] at h
  unfold cutFirst
  rw [cut_miss h, cut_miss (l := []) (sub := [32]) rfl]
  simp [pathOk]
theorem first_two {l : Bs} {a : Nat} (h : findF l [32] 0 = a) (h2 : findF l [32] (a + 1) = -1) : (cutFirst l).2.2 = false := by
  rw [find_zero] at h
  have h3 : Lib.index (l.drop (a + 1)) [32] = -1 := by
    rcases find_cases l [32] (a + 1) with ⟨_, e⟩ | ⟨i, e, _⟩
    · exact e
    · omega
  unfold cutFirst
  rw [cut_hit h, List.length_singleton]
  simp only
  rw [cut_miss h3]
  simp [ver]
theorem first_three {l : Bs} {a b : Nat} (h : findF l [32] 0 = a) (h2 : findF l [32] (a + 1) = b) : a + 1 ≤ b ∧ b + 1 ≤ l.length ∧
    cutFirst l = (l.take a, (l.take b).drop (a + 1), methodOk (l.take a) && pathOk ((l.take b).drop (a + 1)) && decide (l.drop (b + 1) = ver)) := by
  rw [find_zero] at h
  rcases find_cases l [32] (a + 1) with ⟨e, _⟩ | ⟨i, e, h3⟩
  · omega
  · obtain rfl : b = a + 1 + i := by omega
    have hr := (occ1 _ _ _).1 (occ_of h3).2.1
    rw [List.getElem?_drop] at hr
    have hlt := (List.getElem?_eq_some_iff.1 hr).1
    refine ⟨by omega, by omega, ?_⟩
    unfold cutFirst
    rw [cut_hit h, List.length_singleton]
    simp only
    rw [cut_hit h3, List.length_singleton, List.take_drop, List.drop_drop]
    simp [Nat.add_assoc]
theorem line_none {l : Bs} (h : findF l [58] 0 = -1) (t : Bool) : lineF l t = (-1, 40) := by
  rw [find_zero] at h
  unfold lineF
  rw [if_pos]
  unfold cutLine
  rw [cut_miss h]
  simp
theorem line_parts {l : Bs} {a : Nat} (h : findF l [58] 0 = a) : a + 1 ≤ l.length ∧ cutLine l = (Lib.toLowerA (l.take a), Lib.trimS (l.drop (a + 1)) [32, 9], nameOk (l.take a) && !Lib.containsAny (l.drop (a + 1)) [10, 13, 0]) := by
  rw [find_zero] at h
  have hr := (occ1 _ _ _).1 (occ_of h).2.1
  have hlt := (List.getElem?_eq_some_iff.1 hr).1
  refine ⟨hlt, ?_⟩
  unfold cutLine
  rw [cut_hit h]
  simp [nameOk]
theorem name_free {n : Bs} (h : nameOk n = true) {c : UInt8} (hc : nameB c = false) : c ∉ n := by
  unfold nameOk at h
  simp only [Bool.and_eq_true] at h
  exact all_not h.2 hc
theorem line_spoilt {l : Bs} {a : Nat} (h : findF l [58] 0 = a) {c : UInt8} (hn : nameOk (l.take a) = true) (hc : c ∈ l) (h2 : nameB c = false) (h3 : c ≠ 58) (h4 : c ∈ ([10, 13, 0] : Bs)) (t : Bool) : lineF l t = (-1, 40) := by
  have hr := (occ1 _ _ _).1 (occ_of ((find_zero l [58]).symm.trans h)).2.1
  have hlt := (List.getElem?_eq_some_iff.1 hr).1
  have hs : l = l.take a ++ 58 :: l.drop (a + 1) := by
    have e : l[a] = 58 := by rw [List.getElem?_eq_getElem hlt] at hr; simpa using hr
    rw [← e, ← List.drop_eq_getElem_cons hlt, List.take_append_drop]
  have hm : c ∈ l.drop (a + 1) := by
    rw [hs] at hc
    rcases List.mem_append.1 hc with hc | hc
    · exact absurd hc (name_free hn h2)
    · rcases List.mem_cons.1 hc with hc | hc
      · exact absurd hc h3
      · exact hc
  unfold lineF
  rw [if_pos]
  rw [(line_parts h).2, (any_iff _ _).2 ⟨c, hm, h4⟩]
  simp
theorem line_bad {l : Bs} {a : Nat} (h : findF l [58] 0 = a) (hn : nameOk (l.take a) = false) (t : Bool) : lineF l t = (-1, 40) := by
  unfold lineF
  rw [if_pos]
  rw [(line_parts h).2, hn]
  rfl
theorem line_good {l : Bs} {a : Nat} (h : findF l [58] 0 = a) (hn : nameOk (l.take a) = true) (h10 : (10 : UInt8) ∉ l) (h13 : (13 : UInt8) ∉ l) (h0 : (0 : UInt8) ∉ l) (t : Bool) :
    lineF l t = if Lib.toLowerA (l.take a) = encName then (-1, 40) else if Lib.toLowerA (l.take a) = lenName then
      (if t = true then (-1, 40) else if numOk (Lib.trimS (l.drop (a + 1)) [32, 9]) = false then (-1, 40) else if 262144 < numF 0 (Lib.trimS (l.drop (a + 1)) [32, 9]) then (-1, 41) else ((numF 0 (Lib.trimS (l.drop (a + 1)) [32, 9]) : Int), 0)) else (-1, 0) := by
  have hc : Lib.containsAny (l.drop (a + 1)) [10, 13, 0] = false := by
    rw [← Bool.not_eq_true, any_iff]
    rintro ⟨b, hb, hbc⟩
    have hb' := List.mem_of_mem_drop hb
    have : b = 10 ∨ b = 13 ∨ b = 0 := by simpa using hbc
    rcases this with rfl | rfl | rfl
    · exact h10 hb'
    · exact h13 hb'
    · exact h0 hb'
  unfold lineF
  rw [(line_parts h).2, hc, hn]
  simp only [Bool.not_false, Bool.and_true, Bool.true_eq_false, if_false]
  rw [length_num]
  by_cases e1 : numOk (Lib.trimS (l.drop (a + 1)) [32, 9]) = false
  · simp [e1]
  · by_cases e2 : 262144 < numF 0 (Lib.trimS (l.drop (a + 1)) [32, 9])
    · simp [e1, e2]
    · simp [e1, e2]
/-! ### the whole -/
theorem parse_miss {L : Bs} (h : Lib.index L hend = -1) : parse L = (([], [], []), if 4096 < L.length then 41 else 40) := by
  unfold parse headOf
  rw [cut_miss h]
  simp only [List.length_nil, Nat.sub_zero, List.take_length]
  by_cases h1 : 4096 < L.length
  · simp [h1]
  · simp [h1]
theorem parse_hit {L : Bs} {i a : Nat} (h : Lib.index L hend = i) (ha : findF L crlf 0 = a) : i + 4 ≤ L.length ∧ a ≤ i ∧ Lib.occAt L crlf a = true ∧
    parse L = if 4096 < i + 4 then (([], [], []), 41) else if (cutFirst (L.take a)).2.2 = false then (([], [], []), 40)
      else if (bodySize ((L.take (i + 4)).drop (a + 2))).2 ≠ 0 then (([], [], []), (bodySize ((L.take (i + 4)).drop (a + 2))).2)
      else if ((L.length - (i + 4) : Nat) : Int) ≠ (bodySize ((L.take (i + 4)).drop (a + 2))).1 then (([], [], []), 40)
      else (((cutFirst (L.take a)).1, (cutFirst (L.take a)).2.1, L.drop (i + 4)), 0) := by
  obtain ⟨_, ho, _⟩ := occ_of h
  have hlen : i + 4 ≤ L.length := by
    rcases Lib.occAt_room ho with h' | h'
    · exact h'
    · cases h'
  obtain ⟨b, hb, _, hbi, hob, hcut⟩ := line_end (k := 0) ho (Nat.zero_le _)
  obtain rfl : a = b := by rw [ha] at hb; omega
  rw [List.drop_zero, List.drop_zero] at hcut
  refine ⟨hlen, hbi, hob, ?_⟩
  have hh : headOf L = L.take (i + 4) := by
    unfold headOf
    rw [cut_hit h]
    simp only [List.length_drop, hend, List.length_cons, List.length_nil]
    congr 1
    omega
  unfold parse
  rw [hh, hcut, cut_hit h]
  have h4 : hend.length = 4 := rfl
  have hx : (L.take (i + 4)).length = i + 4 := by rw [List.length_take]; omega
  simp only [h4, hx, List.length_drop, Bool.true_eq_false, if_false]
/-- Where the walk over the lines stands: the line's end at a. -/
def PsR (L : Bs) (i : Nat) (R : Bs) (a : Nat) (z : Int) (t : Bool) : Prop := a ≤ i ∧ Lib.occAt L crlf a = true ∧
  ∃ k, ((L.take (i + 4)).drop (a + 2)).length < k ∧ sizeF k z t ((L.take (i + 4)).drop (a + 2)) = bodySize R
theorem PsR.new {L : Bs} {i a : Nat} (h : a ≤ i) (ho : Lib.occAt L crlf a = true) : PsR L i ((L.take (i + 4)).drop (a + 2)) a 0 false :=
  ⟨h, ho, _, Nat.lt_succ_self _, rfl⟩
theorem PsR.step {L : Bs} {i : Nat} {R : Bs} {a : Nat} {z : Int} {t : Bool} (hi : Lib.index L hend = i) (h : PsR L i R a z t) (hlt : a < i) :
    ∃ b : Nat, findF L crlf (a + 2) = b ∧ a + 2 ≤ b ∧ b ≤ i ∧ ((lineF ((L.take b).drop (a + 2)) t).2 ≠ 0 → bodySize R = (0, (lineF ((L.take b).drop (a + 2)) t).2)) ∧
      ((lineF ((L.take b).drop (a + 2)) t).2 = 0 → 0 ≤ (lineF ((L.take b).drop (a + 2)) t).1 → PsR L i R b (lineF ((L.take b).drop (a + 2)) t).1 true) ∧
      ((lineF ((L.take b).drop (a + 2)) t).2 = 0 → ¬ 0 ≤ (lineF ((L.take b).drop (a + 2)) t).1 → PsR L i R b z t) := by
  obtain ⟨h1, h2, k, hk, hs⟩ := h
  obtain ⟨_, ho, _⟩ := occ_of hi
  obtain ⟨b, hb, hab, hbi, hob, hcut⟩ := line_end ho (room2 ho hlt h2)
  have hne := line_some hi hlt h2 hab hob hbi
  obtain ⟨m, rfl⟩ : ∃ m, k = m + 1 := ⟨k - 1, by omega⟩
  rw [size_step m z t _ _ _ _ hcut hne] at hs
  have hlen : ((L.take (i + 4)).drop (b + 2)).length < m := by
    simp only [List.length_drop] at hk ⊢
    have : (L.take (i + 4)).length = i + 4 := by
      rw [List.length_take]
      rcases Lib.occAt_room ho with h' | h'
      · have : i + 4 ≤ L.length := h'
        omega
      · cases h'
    omega
  refine ⟨b, hb, hab, hbi, fun he => ?_, fun he hn => ?_, fun he hn => ?_⟩
  · rw [if_pos he] at hs; exact hs.symm
  · rw [if_neg (fun h => h he), if_pos hn] at hs
    exact ⟨hbi, hob, m, hlen, hs⟩
  · rw [if_neg (fun h => h he), if_neg hn] at hs
    exact ⟨hbi, hob, m, hlen, hs⟩
theorem PsR.stop {L : Bs} {i : Nat} {R : Bs} {a : Nat} {z : Int} {t : Bool} (hi : Lib.index L hend = i) (h : PsR L i R a z t) (hge : ¬ a < i) : bodySize R = (z, 0) := by
  obtain ⟨h1, h2, k, hk, hs⟩ := h
  obtain rfl : a = i := by omega
  obtain ⟨_, ho, _⟩ := occ_of hi
  have h4 := (occ4 L a).1 ho
  have hlen : a + 4 ≤ L.length := by
    rcases Lib.occAt_room ho with h' | h'
    · exact h'
    · cases h'
  have he : (L.take (a + 4)).drop (a + 2) = crlf := by
    apply List.ext_getElem?
    intro j
    rw [List.getElem?_drop]
    match j with
    | 0 => rw [List.getElem?_take_of_lt (by omega)]; exact h4.2.2.1
    | 1 => rw [List.getElem?_take_of_lt (by omega)]; exact h4.2.2.2
    | j + 2 => rw [List.getElem?_eq_none (by rw [List.length_take]; omega)]; rfl
  obtain ⟨m, rfl⟩ : ∃ m, k = m + 1 := ⟨k - 1, by omega⟩
  rw [he, size_end] at hs
  exact hs.symm
end Ht
end Go.Proofs.YtihcihpndckfjabGreatDoor
