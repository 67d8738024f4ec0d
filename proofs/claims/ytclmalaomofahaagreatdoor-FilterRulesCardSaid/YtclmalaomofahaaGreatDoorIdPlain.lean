/- Rising lists of whole numbers as sets: put, together, in both, in the first alone; two lists gone over together. Plain mathematics, no condition but those that each theorem names. -/
import Derived.Lib.SlicesCompact
namespace Go.Proofs.YtclmalaomofahaaGreatDoor
namespace Ids
def Ris (L : List Int) : Prop := L.Pairwise (· < ·)
theorem ris_ext : ∀ {A B : List Int}, Ris A → Ris B → (∀ n, n ∈ A ↔ n ∈ B) → A = B
  | [], [], _, _, _ => rfl
  | [], b :: B, _, _, h => absurd ((h b).mpr (List.mem_cons_self ..)) (List.not_mem_nil)
  | a :: A, [], _, _, h => absurd ((h a).mp (List.mem_cons_self ..)) (List.not_mem_nil)
  | a :: A, b :: B, ha, hb, h => by
    obtain ⟨ha1, ha2⟩ := List.pairwise_cons.mp ha
    obtain ⟨hb1, hb2⟩ := List.pairwise_cons.mp hb
    have e : a = b := by
      rcases List.mem_cons.mp ((h a).mp (List.mem_cons_self ..)) with c | c
      · exact c
      · rcases List.mem_cons.mp ((h b).mpr (List.mem_cons_self ..)) with d | d
        · exact d.symm
        · have := hb1 a c; have := ha1 b d; omega
    subst e
    congr 1
    refine ris_ext ha2 hb2 fun n => ⟨fun hn => ?_, fun hn => ?_⟩
    · rcases List.mem_cons.mp ((h n).mp (List.mem_cons_of_mem _ hn)) with c | c
      · have := ha1 n hn; omega
      · exact c
    · rcases List.mem_cons.mp ((h n).mpr (List.mem_cons_of_mem _ hn)) with c | c
      · have := hb1 n hn; omega
      · exact c
def put (n : Int) : List Int → List Int
  | [] => [n]
  | x :: L => if n < x then n :: x :: L else if n = x then x :: L else x :: put n L
theorem mem_put (n m : Int) : ∀ L : List Int, m ∈ put n L ↔ m = n ∨ m ∈ L
  | [] => by simp [put]
  | x :: L => by
    unfold put
    split
    · simp
    · split
      · next h => subst h; simp
      · simp [mem_put n m L]
        constructor
        · rintro (h | h | h) <;> simp [h]
        · rintro (h | h | h) <;> simp [h]
theorem ris_put (n : Int) : ∀ L : List Int, Ris L → Ris (put n L)
  | [], _ => List.pairwise_singleton _ _
  | x :: L, h => by
    obtain ⟨h1, h2⟩ := List.pairwise_cons.mp h
    unfold put
    split
    · next hn =>
      refine List.pairwise_cons.mpr ⟨fun m hm => ?_, h⟩
      rcases List.mem_cons.mp hm with c | c
      · omega
      · have := h1 m c; omega
    · split
      · exact h
      · next ha hb =>
        refine List.pairwise_cons.mpr ⟨fun m hm => ?_, ris_put n L h2⟩
        rcases (mem_put n m L).mp hm with c | c
        · omega
        · exact h1 m c
theorem put_length (n : Int) : ∀ L : List Int, L.length ≤ (put n L).length ∧ (put n L).length ≤ L.length + 1
  | [] => by simp [put]
  | x :: L => by
    have := put_length n L
    unfold put
    split
    · simp
    · split
      · simp
      · simp; omega
/-- Where n goes: the numbers below it, then it, then the ones above. -/
theorem put_at (n : Int) : ∀ L : List Int, Ris L → ∀ k, k ≤ L.length → (∀ j (h : j < L.length), j < k → L[j] < n) → (∀ (h : k < L.length), n ≤ L[k]) →
    put n L = if ∃ h : k < L.length, L[k] = n then L else L.take k ++ n :: L.drop k
  | [], _, k, hk, _, _ => by obtain rfl : k = 0 := by simpa using hk
                             simp [put]
  | x :: L, h, 0, _, _, h0 => by
    have hx := h0 (by simp)
    simp only [List.getElem_cons_zero] at hx
    by_cases e : n = x
    · subst e
      simp [put]
    · rw [put, if_pos (by omega), if_neg (by simp; omega)]
      simp
  | x :: L, h, k + 1, hk, hl, h0 => by
    obtain ⟨h1, h2⟩ := List.pairwise_cons.mp h
    have hx := hl 0 (by simp) (by omega)
    simp only [List.getElem_cons_zero] at hx
    have ih := put_at n L h2 k (by simpa using hk) (fun j hj hjk => by have := hl (j + 1) (by simpa using hj) (by omega); simpa using this) (fun hj => by have := h0 (by simpa using hj); simpa using this)
    rw [put, if_neg (by omega), if_neg (by omega), ih]
    simp only [List.length_cons, Nat.add_lt_add_iff_right, List.getElem_cons_succ, List.take_succ_cons, List.drop_succ_cons, List.cons_append]
    split <;> rfl
def putAll (L S : List Int) : List Int := L.foldl (fun s n => put n s) S
def setL (L : List Int) : List Int := putAll L []
def uniL (a b : List Int) : List Int := putAll b (setL a)
def interL (a b : List Int) : List Int := (setL a).filter fun n => decide (n ∈ setL b)
def diffL (a b : List Int) : List Int := (setL a).filter fun n => !decide (n ∈ setL b)
theorem mem_putAll (m : Int) : ∀ (L S : List Int), m ∈ putAll L S ↔ m ∈ S ∨ m ∈ L
  | [], S => by simp [putAll]
  | n :: L, S => by
    have := mem_putAll m L (put n S)
    simp only [putAll, List.foldl_cons] at this ⊢
    rw [this, mem_put]
    simp only [List.mem_cons]
    constructor
    · rintro ((h | h) | h) <;> simp [h]
    · rintro (h | h | h) <;> simp [h]
theorem ris_putAll : ∀ (L S : List Int), Ris S → Ris (putAll L S)
  | [], _, h => h
  | n :: L, S, h => ris_putAll L (put n S) (ris_put n S h)
theorem putAll_length : ∀ (L S : List Int), S.length ≤ (putAll L S).length ∧ (putAll L S).length ≤ S.length + L.length
  | [], S => by simp [putAll]
  | n :: L, S => by
    have h1 := putAll_length L (put n S)
    have h2 := put_length n S
    simp only [putAll, List.foldl_cons, List.length_cons] at h1 ⊢
    omega
theorem putAll_snoc (L S : List Int) (k : Nat) (h : k < L.length) : putAll (L.take (k + 1)) S = put L[k] (putAll (L.take k) S) := by
  have e : L.take (k + 1) = L.take k ++ [L[k]] := by rw [List.take_add_one, List.getElem?_eq_getElem h]; rfl
  unfold putAll
  rw [e, List.foldl_append]
  rfl
theorem ris_nil : Ris [] := List.Pairwise.nil
theorem mem_setL {m : Int} {L : List Int} : m ∈ setL L ↔ m ∈ L := by simp [setL, mem_putAll]
theorem ris_setL (L : List Int) : Ris (setL L) := ris_putAll _ _ ris_nil
theorem setL_length (L : List Int) : (setL L).length ≤ L.length := by have := (putAll_length L []).2; simpa [setL] using this
theorem mem_uniL {m : Int} {a b : List Int} : m ∈ uniL a b ↔ m ∈ a ∨ m ∈ b := by simp [uniL, mem_putAll, mem_setL]
theorem ris_uniL (a b : List Int) : Ris (uniL a b) := ris_putAll _ _ (ris_setL _)
theorem uniL_length (a b : List Int) : (uniL a b).length ≤ a.length + b.length := by have := (putAll_length b (setL a)).2; have := setL_length a; unfold uniL; omega
theorem mem_interL {m : Int} {a b : List Int} : m ∈ interL a b ↔ m ∈ a ∧ m ∈ b := by simp [interL, mem_setL]
theorem ris_interL (a b : List Int) : Ris (interL a b) := List.Pairwise.filter _ (ris_setL a)
theorem interL_length (a b : List Int) : (interL a b).length ≤ a.length := Nat.le_trans (List.length_filter_le ..) (setL_length a)
theorem mem_diffL {m : Int} {a b : List Int} : m ∈ diffL a b ↔ m ∈ a ∧ ¬ m ∈ b := by simp [diffL, mem_setL]
theorem ris_diffL (a b : List Int) : Ris (diffL a b) := List.Pairwise.filter _ (ris_setL a)
theorem diffL_length (a b : List Int) : (diffL a b).length ≤ a.length := Nat.le_trans (List.length_filter_le ..) (setL_length a)
/-! ### sorted and compacted -/
open Go.Lib in
theorem compact_inv (d : Array Int) (hs : ∀ i j, i ≤ j → j < d.size → d[i]! ≤ d[j]!) : ∀ m, m ≤ d.size → Ris (compactUpTo d m) ∧ (∀ x, x ∈ compactUpTo d m ↔ ∃ j, j < m ∧ d[j]! = x)
  | 0, _ => ⟨by simp [compactUpTo, Ris], fun x => by simp [compactUpTo]⟩
  | m + 1, hm => by
    obtain ⟨h1, h2⟩ := compact_inv d hs m (by omega)
    rw [compactUpTo_succ]
    by_cases hk : keeps d m = true
    · rw [if_pos hk]
      refine ⟨List.pairwise_append.mpr ⟨h1, List.pairwise_singleton _ _, fun x hx y hy => ?_⟩, fun x => ?_⟩
      · obtain rfl : y = d[m]! := by simpa using hy
        obtain ⟨j, hj, rfl⟩ := (h2 x).mp hx
        have h3 := hs j (m - 1) (by omega) (by omega)
        have h4 := hs (m - 1) m (by omega) (by omega)
        simp only [keeps, decide_eq_true_eq] at hk
        rcases hk with hk | hk
        · omega
        · omega
      · simp only [List.mem_append, h2, List.mem_singleton]
        constructor
        · rintro (⟨j, hj, e⟩ | e)
          · exact ⟨j, by omega, e⟩
          · exact ⟨m, by omega, e.symm⟩
        · rintro ⟨j, hj, e⟩
          rcases Nat.lt_or_ge j m with c | c
          · exact .inl ⟨j, c, e⟩
          · obtain rfl : j = m := by omega
            exact .inr e.symm
    · rw [if_neg hk, List.append_nil]
      refine ⟨h1, fun x => ?_⟩
      rw [h2]
      have hk' : ¬ (m = 0 ∨ d[m]! ≠ d[m - 1]!) := by simpa [keeps] using hk
      constructor
      · rintro ⟨j, hj, e⟩
        exact ⟨j, by omega, e⟩
      · rintro ⟨j, hj, e⟩
        rcases Nat.lt_or_ge j m with c | c
        · exact ⟨j, c, e⟩
        · obtain rfl : j = m := by omega
          exact ⟨j - 1, by omega, by have : d[j]! = d[j - 1]! := by
                                       rcases Decidable.em (d[j]! = d[j - 1]!) with c | c
                                       · exact c
                                       · exact absurd (.inr c) hk'
                                     rw [← this]; exact e⟩
theorem mem_idx (d : Array Int) (x : Int) : (∃ j, j < d.size ∧ d[j]! = x) ↔ x ∈ d.toList := by
  constructor
  · rintro ⟨j, hj, rfl⟩
    rw [getElem!_pos d j hj]
    exact Array.getElem_mem_toList hj
  · intro h
    obtain ⟨j, hj, e⟩ := List.getElem_of_mem h
    exact ⟨j, by simpa using hj, by rw [getElem!_pos d j (by simpa using hj)]; simpa using e⟩
theorem compact_sort (L : List Int) : Lib.compact (L.mergeSort fun x y => decide (x ≤ y)) = setL L := by
  have hp : (L.mergeSort fun x y => decide (x ≤ y)).Pairwise fun x y => decide (x ≤ y) = true := List.pairwise_mergeSort (fun a b c h1 h2 => by simp at *; omega) (fun a b => by simp; omega) L
  have hm : ∀ x, x ∈ (L.mergeSort fun x y => decide (x ≤ y)) ↔ x ∈ L := fun x => (List.mergeSort_perm L _).mem_iff
  generalize (L.mergeSort fun x y => decide (x ≤ y)) = S at hp hm
  have h := compact_inv S.toArray (fun i j hij hj => by
    have hj' : j < S.length := by simpa using hj
    rw [getElem!_pos S.toArray i (by simp; omega), getElem!_pos S.toArray j hj]
    simp only [List.getElem_toArray]
    rcases Nat.lt_or_ge i j with c | c
    · have := List.pairwise_iff_getElem.mp hp i j (by omega) hj' c
      simpa using this
    · obtain rfl : i = j := by omega
      exact Int.le_refl _) S.length (by simp)
  refine ris_ext h.1 (ris_setL L) fun n => ?_
  have h2 := h.2 n
  have h3 := mem_idx S.toArray n
  simp only [List.size_toArray] at h3
  unfold Lib.compact
  rw [h2, h3, mem_setL, ← hm]
/-! ### two gone over together -/
def walk : List Int → List Int → List (Int × Int)
  | [], [] => []
  | a :: as, [] => (a, 1) :: walk as []
  | [], b :: bs => (b, 2) :: walk [] bs
  | a :: as, b :: bs => if a < b then (a, 1) :: walk as (b :: bs) else if b < a then (b, 2) :: walk (a :: as) bs else (a, 3) :: walk as bs
termination_by a b => a.length + b.length
def wh (A B : List Int) (n : Int) : Int := (if n ∈ A then 1 else 0) + (if n ∈ B then 2 else 0)
theorem walk_all (A B : List Int) : Ris A → Ris B → Ris ((walk A B).map Prod.fst) ∧ (∀ n, n ∈ (walk A B).map Prod.fst ↔ n ∈ A ∨ n ∈ B) ∧ ∀ p ∈ walk A B, p.2 = wh A B p.1 := by
  induction A, B using walk.induct with
  | case1 => intro _ _; simp [walk, Ris]
  | case2 a as ih =>
    intro hA hB
    obtain ⟨h1, h2⟩ := List.pairwise_cons.mp hA
    obtain ⟨i1, i2, i3⟩ := ih h2 hB
    rw [walk]
    refine ⟨List.pairwise_cons.mpr ⟨fun m hm => ?_, i1⟩, fun n => ?_, ?_⟩
    · rcases (i2 m).mp hm with c | c
      · exact h1 m c
      · cases c
    · rw [List.map_cons, List.mem_cons, i2]; simp
    · intro p hp
      rcases List.mem_cons.mp hp with rfl | hp
      · simp [wh]
      · have := (i2 p.1).mp (List.mem_map_of_mem hp)
        rw [i3 p hp]
        simp only [wh, List.not_mem_nil, or_false] at this ⊢
        simp [this]
  | case3 b bs ih =>
    intro hA hB
    obtain ⟨h1, h2⟩ := List.pairwise_cons.mp hB
    obtain ⟨i1, i2, i3⟩ := ih hA h2
    rw [walk]
    refine ⟨List.pairwise_cons.mpr ⟨fun m hm => ?_, i1⟩, fun n => ?_, ?_⟩
    · rcases (i2 m).mp hm with c | c
      · cases c
      · exact h1 m c
    · rw [List.map_cons, List.mem_cons, i2]; simp
    · intro p hp
      rcases List.mem_cons.mp hp with rfl | hp
      · simp [wh]
      · have := (i2 p.1).mp (List.mem_map_of_mem hp)
        rw [i3 p hp]
        simp only [wh, List.not_mem_nil, false_or] at this ⊢
        simp [this]
  | case4 a as b bs hlt ih =>
    intro hA hB
    obtain ⟨h1, h2⟩ := List.pairwise_cons.mp hA
    obtain ⟨h3, h4⟩ := List.pairwise_cons.mp hB
    obtain ⟨i1, i2, i3⟩ := ih h2 hB
    have hab : a ∉ b :: bs := by
      intro hm
      rcases List.mem_cons.mp hm with c | c
      · omega
      · have := h3 _ c; omega
    rw [walk, if_pos hlt]
    have hgt : ∀ m, m ∈ (walk as (b :: bs)).map Prod.fst → a < m := by
      intro m hm
      rcases (i2 m).mp hm with c | c
      · exact h1 m c
      · rcases List.mem_cons.mp c with c | c
        · omega
        · have := h3 _ c; omega
    refine ⟨List.pairwise_cons.mpr ⟨hgt, i1⟩, fun n => ?_, ?_⟩
    · rw [List.map_cons, List.mem_cons, i2]; simp [or_assoc]
    · intro p hp
      rcases List.mem_cons.mp hp with rfl | hp
      · simp only [wh, if_neg hab]; simp
      · have := hgt p.1 (List.mem_map_of_mem hp)
        rw [i3 p hp]
        have hne : p.1 ≠ a := by omega
        simp [wh, hne]
  | case5 a as b bs hlt hgt0 ih =>
    intro hA hB
    obtain ⟨h1, h2⟩ := List.pairwise_cons.mp hA
    obtain ⟨h3, h4⟩ := List.pairwise_cons.mp hB
    obtain ⟨i1, i2, i3⟩ := ih hA h4
    have hab : b ∉ a :: as := by
      intro hm
      rcases List.mem_cons.mp hm with c | c
      · omega
      · have := h1 _ c; omega
    rw [walk, if_neg hlt, if_pos hgt0]
    have hgt : ∀ m, m ∈ (walk (a :: as) bs).map Prod.fst → b < m := by
      intro m hm
      rcases (i2 m).mp hm with c | c
      · rcases List.mem_cons.mp c with c | c
        · omega
        · have := h1 _ c; omega
      · exact h3 m c
    refine ⟨List.pairwise_cons.mpr ⟨hgt, i1⟩, fun n => ?_, ?_⟩
    · rw [List.map_cons, List.mem_cons, i2]
      simp only [List.mem_cons]
      constructor
      · rintro (h | (h | h) | h) <;> simp [h]
      · rintro ((h | h) | h | h) <;> simp [h]
    · intro p hp
      rcases List.mem_cons.mp hp with rfl | hp
      · simp only [wh, if_neg hab]; simp
      · have := hgt p.1 (List.mem_map_of_mem hp)
        rw [i3 p hp]
        have hne : p.1 ≠ b := by omega
        simp [wh, hne]
  | case6 a as b bs hlt hgt0 ih =>
    intro hA hB
    obtain rfl : a = b := by omega
    obtain ⟨h1, h2⟩ := List.pairwise_cons.mp hA
    obtain ⟨h3, h4⟩ := List.pairwise_cons.mp hB
    obtain ⟨i1, i2, i3⟩ := ih h2 h4
    rw [walk, if_neg hlt, if_neg hgt0]
    have hgt : ∀ m, m ∈ (walk as bs).map Prod.fst → a < m := by
      intro m hm
      rcases (i2 m).mp hm with c | c
      · exact h1 m c
      · exact h3 m c
    refine ⟨List.pairwise_cons.mpr ⟨hgt, i1⟩, fun n => ?_, ?_⟩
    · rw [List.map_cons, List.mem_cons, i2]
      simp only [List.mem_cons]
      constructor
      · rintro (h | h | h) <;> simp [h]
      · rintro ((h | h) | h | h) <;> simp [h]
    · intro p hp
      rcases List.mem_cons.mp hp with rfl | hp
      · simp [wh]
      · have := hgt p.1 (List.mem_map_of_mem hp)
        rw [i3 p hp]
        have hne : p.1 ≠ a := by omega
        simp [wh, hne]
theorem wh_set (a b : List Int) (n : Int) : wh (setL a) (setL b) n = wh a b n := by simp [wh, mem_setL]
/-- What the walk over two sets tells. -/
def told (a b : List Int) : List (Int × Int) := walk (setL a) (setL b)
theorem told_fst (a b : List Int) : (told a b).map Prod.fst = uniL a b := by
  obtain ⟨h1, h2, _⟩ := walk_all _ _ (ris_setL a) (ris_setL b)
  exact ris_ext h1 (ris_uniL a b) fun n => by rw [told, h2, mem_uniL, mem_setL, mem_setL]
theorem told_is (a b : List Int) : told a b = (uniL a b).map fun n => (n, wh a b n) := by
  obtain ⟨_, _, h3⟩ := walk_all _ _ (ris_setL a) (ris_setL b)
  rw [← told_fst, List.map_map]
  conv => lhs; rw [← List.map_id (told a b)]
  refine List.map_congr_left fun p hp => ?_
  have := h3 p hp
  rw [wh_set] at this
  simp only [id, Function.comp]
  rw [← this]
theorem told_snd (a b : List Int) : (told a b).map Prod.snd = (uniL a b).map (wh a b) := by
  rw [told_is, List.map_map]; rfl
theorem told_length (a b : List Int) : (told a b).length = (uniL a b).length := by rw [told_is, List.length_map]
/-- What stands in the ways that are wanted. -/
def pickL (ws : List Int) (T : List (Int × Int)) : List Int := (T.filter fun p => ws.contains p.2).map Prod.fst
theorem pick_mem (ws a b : List Int) (n : Int) : n ∈ pickL ws (told a b) ↔ (n ∈ a ∨ n ∈ b) ∧ wh a b n ∈ ws := by
  rw [told_is]
  simp only [pickL, List.mem_map, List.mem_filter]
  constructor
  · rintro ⟨p, ⟨⟨m, hm, rfl⟩, h2⟩, rfl⟩
    exact ⟨mem_uniL.mp hm, by simpa using h2⟩
  · rintro ⟨h1, h2⟩
    exact ⟨_, ⟨⟨n, mem_uniL.mpr h1, rfl⟩, by simpa using h2⟩, rfl⟩
theorem ris_pick (ws a b : List Int) : Ris (pickL ws (told a b)) := by
  have h : (pickL ws (told a b)).Sublist ((told a b).map Prod.fst) := List.Sublist.map _ List.filter_sublist
  rw [told_fst] at h
  exact List.Pairwise.sublist h (ris_uniL a b)
theorem wh_cases (a b : List Int) (n : Int) : (n ∈ a ∧ n ∈ b ∧ wh a b n = 3) ∨ (n ∈ a ∧ n ∉ b ∧ wh a b n = 1) ∨ (n ∉ a ∧ n ∈ b ∧ wh a b n = 2) ∨ (n ∉ a ∧ n ∉ b ∧ wh a b n = 0) := by
  by_cases h1 : n ∈ a <;> by_cases h2 : n ∈ b <;> simp [wh, h1, h2]
theorem pick_union (a b : List Int) : pickL [1, 2, 3] (told a b) = uniL a b := by
  refine ris_ext (ris_pick _ a b) (ris_uniL a b) fun n => ?_
  rw [pick_mem, mem_uniL]
  rcases wh_cases a b n with ⟨h1, h2, h3⟩ | ⟨h1, h2, h3⟩ | ⟨h1, h2, h3⟩ | ⟨h1, h2, h3⟩ <;> simp [h1, h2, h3]
theorem pick_inter (a b : List Int) : pickL [3] (told a b) = interL a b := by
  refine ris_ext (ris_pick _ a b) (ris_interL a b) fun n => ?_
  rw [pick_mem, mem_interL]
  rcases wh_cases a b n with ⟨h1, h2, h3⟩ | ⟨h1, h2, h3⟩ | ⟨h1, h2, h3⟩ | ⟨h1, h2, h3⟩ <;> simp [h1, h2, h3]
theorem pick_diff (a b : List Int) : pickL [1] (told a b) = diffL a b := by
  refine ris_ext (ris_pick _ a b) (ris_diffL a b) fun n => ?_
  rw [pick_mem, mem_diffL]
  rcases wh_cases a b n with ⟨h1, h2, h3⟩ | ⟨h1, h2, h3⟩ | ⟨h1, h2, h3⟩ | ⟨h1, h2, h3⟩ <;> simp [h1, h2, h3]
/-! ### the rules -/
theorem uni_comm (a b : List Int) : uniL a b = uniL b a := ris_ext (ris_uniL _ _) (ris_uniL _ _) fun n => by simp only [mem_uniL]; exact Or.comm
theorem inter_comm (a b : List Int) : interL a b = interL b a := ris_ext (ris_interL _ _) (ris_interL _ _) fun n => by simp only [mem_interL]; exact And.comm
theorem uni_assoc (a b c : List Int) : uniL a (uniL b c) = uniL (uniL a b) c := ris_ext (ris_uniL _ _) (ris_uniL _ _) fun n => by simp only [mem_uniL, or_assoc]
theorem diff_inter (a b : List Int) : interL (diffL a b) (interL a b) = [] := ris_ext (ris_interL _ _) ris_nil fun n => by
  simp only [mem_interL, mem_diffL, List.not_mem_nil, iff_false]
  rintro ⟨⟨_, h⟩, _, h'⟩
  exact h h'
theorem diff_uni (a b : List Int) : uniL (diffL a b) (interL a b) = uniL a [] := ris_ext (ris_uniL _ _) (ris_uniL _ _) fun n => by
  simp only [mem_uniL, mem_interL, mem_diffL, List.not_mem_nil, or_false]
  by_cases h : n ∈ b <;> simp [h]
theorem inter_uni (a b c : List Int) : interL a (uniL b c) = uniL (interL a b) (interL a c) := ris_ext (ris_interL _ _) (ris_uniL _ _) fun n => by
  simp only [mem_uniL, mem_interL, and_or_left]
theorem filter_both {α} (p : α → Bool) : ∀ L : List α, (L.filter p).length + (L.filter fun x => !p x).length = L.length
  | [] => rfl
  | x :: L => by
    have := filter_both p L
    by_cases h : p x = true
    · simp [h]; omega
    · simp [h]; omega
theorem ris_nodup {L : List Int} (h : Ris L) : L.Nodup := h.imp fun h e => by omega
theorem len_ext {A B : List Int} (hA : A.Nodup) (hB : B.Nodup) (h : ∀ n, n ∈ A ↔ n ∈ B) : A.length = B.length :=
  ((List.perm_ext_iff_of_nodup hA hB).mpr h).length_eq
theorem uni_len (a b : List Int) : (uniL a b).length + (interL a b).length = (uniL a []).length + (uniL [] b).length := by
  have h1 : (uniL a b).length = (setL a ++ diffL b a).length := len_ext (ris_nodup (ris_uniL a b)) (by
    refine List.nodup_append.mpr ⟨ris_nodup (ris_setL a), ris_nodup (ris_diffL b a), fun x hx y hy e => ?_⟩
    subst e
    exact (mem_diffL.mp hy).2 (mem_setL.mp hx)) fun n => by
      simp only [mem_uniL, List.mem_append, mem_setL, mem_diffL]
      by_cases h : n ∈ a <;> simp [h]
  have h2 := filter_both (fun n => decide (n ∈ setL a)) (setL b)
  have h3 : uniL a [] = setL a := rfl
  have h4 : uniL [] b = setL b := rfl
  rw [h1, h3, h4, List.length_append, inter_comm a b]
  unfold interL diffL
  omega
end Ids
end Go.Proofs.YtclmalaomofahaaGreatDoor
