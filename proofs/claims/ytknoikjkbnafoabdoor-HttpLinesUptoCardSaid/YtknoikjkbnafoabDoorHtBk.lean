/- What Parse says of what Write told, with more behind it or a byte less: over plain bytes. Conditions: none. -/
import Derived.Test.YtknoikjkbnafoabDoorHtRead
namespace Go.Proofs.YtknoikjkbnafoabDoor
namespace Ht
theorem asc_of {p : UInt8 → Bool} {l : Bs} (hp : ∀ b, p b = true → b.toNat < 128) (h : l.all p = true) : asc l := fun b hb => hp b (List.all_eq_true.1 h b hb)
theorem asc_app {a b : Bs} (ha : asc a) (hb : asc b) : asc (a ++ b) := fun c hc => (List.mem_append.1 hc).elim (ha c) (hb c)
theorem le_of {a b : UInt8} (h : a ≤ b) : a.toNat ≤ b.toNat := UInt8.le_iff_toNat_le.1 h
theorem cap_asc (b : UInt8) (h : capB b = true) : b.toNat < 128 := by
  simp only [capB, Bool.and_eq_true, decide_eq_true_eq] at h
  have := le_of h.2
  have e : (90 : UInt8).toNat = 90 := rfl
  omega
theorem vis_asc (b : UInt8) (h : visB b = true) : b.toNat < 128 := by
  simp only [visB, Bool.and_eq_true, decide_eq_true_eq] at h
  have := le_of h.2
  have e : (126 : UInt8).toNat = 126 := rfl
  omega
theorem dig_asc (b : UInt8) (h : digB b = true) : b.toNat < 128 := by
  have := (digB_iff b).1 h
  omega
theorem asc_lit {l : Bs} (h : l.all (fun b => decide (b.toNat < 128)) = true) : asc l := fun b hb => by simpa using List.all_eq_true.1 h b hb
theorem asc_first {m p : Bs} (hm : methodOk m = true) (hp : pathOk p = true) : asc (firstL m p) := by
  unfold firstL
  exact asc_app (asc_app (asc_app (asc_app (asc_of cap_asc (method_parts hm).2.2) (asc_lit (by decide))) (asc_of vis_asc (path_parts hp).2)) (asc_lit (by decide))) (asc_lit (by decide))
theorem asc_len (n : Nat) : asc (lenL n) := by
  unfold lenL
  rw [itoa_nat]
  exact asc_app (asc_lit (by decide)) (asc_of dig_asc (dec_all n).1)
theorem asc_crlf : asc crlf := asc_lit (by decide)
theorem asc_lines {L : List Bs} (h : ∀ x ∈ L, asc x) : asc (lines L) := by
  induction L with
  | nil => intro b hb; simp [lines] at hb
  | cons x L ih =>
    rw [lines_cons]
    exact asc_app (h x (by simp)) (asc_app asc_crlf (ih fun y hy => h y (by simp [hy])))
theorem asc_head {m p b : Bs} (hm : methodOk m = true) (hp : pathOk p = true) : asc (headW m p b) := by
  rw [headW_lines]
  refine asc_app (asc_lines fun x hx => ?_) asc_crlf
  rcases List.mem_cons.1 hx with rfl | hx
  · exact asc_first hm hp
  · rw [List.mem_singleton.1 hx]; exact asc_len _
theorem lines_ok {m p b : Bs} (hm : methodOk m = true) (hp : pathOk p = true) : ∀ x ∈ [firstL m p, lenL b.length], lineOk x := fun x hx => by
  rcases List.mem_cons.1 hx with rfl | hx
  · exact (first_ok hm hp).1
  · rw [List.mem_singleton.1 hx]; exact lenL_ok _
theorem head_write {m p b : Bs} (hm : methodOk m = true) (hp : pathOk p = true) (t : Bs) : headOf (headW m p b ++ t) = headW m p b := by
  rw [headW_lines, List.append_assoc]
  exact head_lines _ t (lines_ok hm hp) (by simp)
/-- Lines that no empty one ends have no end of a head. -/
theorem index_open : ∀ L : List Bs, (∀ x ∈ L, lineOk x) → Lib.index (lines L ++ [13]) hend = -1
  | [], _ => by decide
  | x :: L, hL => by
    obtain ⟨h1, h2⟩ := hL x (by simp)
    have ih := index_open L (fun z hz => hL z (by simp [hz]))
    have hy := lines_head L (fun z hz => hL z (by simp [hz]))
    rw [lines_cons, List.append_assoc, List.append_assoc, show hend = 13 :: [10, 13, 10] from rfl, index_past 13 _ x _ h2]
    suffices h : Lib.index (crlf ++ (lines L ++ [13])) (13 :: [10, 13, 10]) = -1 by rw [h, if_pos rfl]
    have hn1 : (13 :: [10, 13, 10] : Bs).isPrefixOf (13 :: 10 :: (lines L ++ [13])) = false := by
      cases hT : lines L with
      | nil => decide
      | cons b T =>
        have hb : b ≠ 13 := hy b (by rw [hT]; rfl)
        simp [List.isPrefixOf, Ne.symm hb]
    have hn2 : (13 :: [10, 13, 10] : Bs).isPrefixOf (10 :: (lines L ++ [13])) = false := by simp [List.isPrefixOf]
    show Lib.index (13 :: 10 :: (lines L ++ [13])) (13 :: [10, 13, 10]) = -1
    rw [index_cons, hn1, index_cons, hn2, show (13 :: [10, 13, 10] : Bs) = hend from rfl, ih]
    rfl
theorem cut_open {L : List Bs} (h : ∀ x ∈ L, lineOk x) : Lib.cut (lines L ++ [13]) hend = (lines L ++ [13], [], false) := by
  unfold Lib.cut
  rw [index_open L h, if_neg (by decide)]
theorem parse_open {L : List Bs} (h : ∀ x ∈ L, lineOk x) (hl : (lines L ++ [13]).length ≤ 4096) : parse (lines L ++ [13]) = (([], [], []), 40) := by
  have hh : headOf (lines L ++ [13]) = lines L ++ [13] := by unfold headOf; rw [cut_open h]; exact List.take_of_length_le (by simp)
  unfold parse
  rw [hh, cut_open h, if_neg (by omega), if_pos rfl]
/-- What is told of a text: that the error is 40 or that it is the request; and that its head, where it has one, is ASCII. -/
def readable (s : Bs) : Prop := (Lib.cut s hend).2.2 = true → asc (headOf s)
theorem read_write {m p b : Bs} (hm : methodOk m = true) (hp : pathOk p = true) (t : Bs) : readable (headW m p b ++ t) := fun _ => by
  rw [head_write hm hp]; exact asc_head hm hp
theorem write_ok {m p b : Bs} (h : (write m p b).2 = 0) : methodOk m = true ∧ pathOk p = true ∧ b.length ≤ 262144 ∧ (headW m p b).length ≤ 4096 ∧ (write m p b).1 = headW m p b ++ b := by
  unfold write at h ⊢
  split at h
  · simp at h
  · rename_i h1
    split at h
    · simp at h
    · rename_i h2
      rw [if_neg h1, if_neg h2]
      refine ⟨?_, ?_, by omega, by omega, rfl⟩
      · cases hm : methodOk m
        · exact absurd (.inl hm) h1
        · rfl
      · cases hp : pathOk p
        · exact absurd (.inr hp) h1
        · rfl
theorem write_no {m p b : Bs} (h : (write m p b).2 ≠ 0) : (write m p b).1 = [] ∧ ((write m p b).2 = 40 ∨ (write m p b).2 = 41) := by
  unfold write at h ⊢
  split
  · exact ⟨rfl, .inl rfl⟩
  · split
    · exact ⟨rfl, .inr rfl⟩
    · rename_i h1 h2
      rw [if_neg h1, if_neg h2] at h
      exact absurd rfl h
/-- A byte less. -/
theorem parse_less {m p b : Bs} (h : (write m p b).2 = 0) : (parse (headW m p b ++ b).dropLast).2 = 40 ∧ readable (headW m p b ++ b).dropLast := by
  obtain ⟨hm, hp, hb, hl, -⟩ := write_ok h
  by_cases h0 : b = []
  · subst h0
    have e : (headW m p [] ++ []).dropLast = lines [firstL m p, lenL 0] ++ [13] := by
      rw [List.append_nil, headW_lines, show crlf = [13] ++ [10] from rfl, ← List.append_assoc, List.dropLast_concat]
      rfl
    rw [e]
    have hok : ∀ x ∈ [firstL m p, lenL 0], lineOk x := lines_ok (b := []) hm hp
    have hlen : (lines [firstL m p, lenL 0] ++ [13]).length ≤ 4096 := by
      rw [headW_lines] at hl
      simp [crlf] at hl ⊢
      omega
    rw [parse_open hok hlen]
    refine ⟨rfl, fun hc => ?_⟩
    rw [cut_open hok] at hc
    cases hc
  · have e : (headW m p b ++ b).dropLast = headW m p b ++ b.dropLast := List.dropLast_append_of_ne_nil h0
    rw [e]
    have := List.length_pos_iff.2 h0
    rw [parse_write hm hp hb hl, if_neg (by simp; omega)]
    exact ⟨rfl, read_write hm hp _⟩
end Ht
end Go.Proofs.YtknoikjkbnafoabDoor
