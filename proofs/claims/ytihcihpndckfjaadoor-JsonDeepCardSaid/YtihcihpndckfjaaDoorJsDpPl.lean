/- Values within one another: how they are read. Conditions: none. -/
import Derived.Test.YtihcihpndckfjaaDoorJsTextPl
namespace Go.Proofs.YtihcihpndckfjaaDoor
set_option linter.unusedVariables false
open Go Go.RowKit Js

def opn (ob : Bool) : Bs := if ob = true then [123, 34, 97, 34, 58] else [91]
def cls (ob : Bool) : Bs := if ob = true then [125] else [93]
def deepT (ob : Bool) : Nat → Bs
  | 0 => [49]
  | k + 1 => opn ob ++ deepT ob k ++ cls ob
def nest (ob : Bool) : Nat → J
  | 0 => .mk 3 1 ByteArray.empty [] []
  | k + 1 => if ob = true then .mk 6 0 ByteArray.empty [⟨#[97]⟩] [nest ob k] else .mk 5 0 ByteArray.empty [] [nest ob k]
/-- What may stand behind a value within: nothing, or a bracket. -/
def shutB (l : Bs) : Prop := l = [] ∨ (∃ r, l = 93 :: r) ∨ ∃ r, l = 125 :: r
theorem one_number {l : Bs} (h : shutB l) : number (49 :: l) = .ok (.mk 3 1 ByteArray.empty [] []) l := by
  have hd : l.dropWhile digB = l := by
    rcases h with rfl | ⟨r, rfl⟩ | ⟨r, rfl⟩
    · rfl
    · rw [List.dropWhile_cons_of_neg (by decide)]
    · rw [List.dropWhile_cons_of_neg (by decide)]
  have hw : wholeB (49 :: l) = .ok () l := by
    show (if digB 49 = true then R.ok () (List.dropWhile digB l) else R.no eJson (49 :: l)) = _
    rw [if_pos (by decide), hd]
  have hf : fracB l = .ok () l := by
    unfold fracB
    rcases h with rfl | ⟨r, rfl⟩ | ⟨r, rfl⟩ <;> rfl
  have he : expB l = .ok () l := by
    unfold expB
    rcases h with rfl | ⟨r, rfl⟩ | ⟨r, rfl⟩ <;> rfl
  unfold number
  rw [hw]
  simp only [hf, he]
  have e1 : headIs (· == 45) (49 :: l : Bs) = false := rfl
  rw [e1]
  have e2 : natOf ((49 :: l : Bs).take ((49 :: l : Bs).length - l.length)) = 1 := by
    rw [show (49 :: l : Bs).length - l.length = 1 by simp]
    rfl
  simp only [Bool.false_eq_true, if_false]
  rw [e2, if_neg (by unfold maxWhole; omega)]
  rfl
theorem deepT_head (ob : Bool) (k : Nat) (r : Bs) : ∃ c l, deepT ob k ++ r = c :: l ∧ blankB c = false ∧ firstB c = true ∧ c ≠ 93 ∧ c ≠ 125 := by
  cases k with
  | zero => exact ⟨49, r, rfl, by decide, by decide, by decide, by decide⟩
  | succ k =>
    cases ob with
    | true => exact ⟨123, _, rfl, by decide, by decide, by decide, by decide⟩
    | false => exact ⟨91, _, rfl, by decide, by decide, by decide, by decide⟩
theorem skip_deep (ob : Bool) (k : Nat) (r : Bs) : skipB (deepT ob k ++ r) = deepT ob k ++ r := by
  obtain ⟨c, l, h, hb, -⟩ := deepT_head ob k r
  rw [h]
  unfold skipB
  rw [List.dropWhile_cons_of_neg (by simpa using hb)]
theorem text_a (l : Bs) : text (97 :: 34 :: l) = .ok ⟨#[97]⟩ l := by
  have h1 := rune_is [] 97 (34 :: l) (by decide)
  unfold text
  show textF (l.length + 1 + 1) [] (97 :: 34 :: l) = _
  rw [textF, if_neg (by decide), if_neg (by decide)]
  have hok : runeOk (97 :: 34 :: l) = true := by
    unfold runeOk
    have e : (Lib.decodeL (97 :: 34 :: l)).1 = 97 := h1.1
    rw [e]
    rfl
  rw [hok, h1.1, h1.2, if_neg (by simp)]
  show textF (l.length + 1) ([] ++ [97]) (34 :: l) = _
  rw [textF, if_pos rfl]
  rfl
theorem shut_skip {c : UInt8} (r : Bs) (h : blankB c = false) : skipB (c :: r) = c :: r := by
  unfold skipB
  rw [List.dropWhile_cons_of_neg (by simpa using h)]
theorem parts_one {one : List J → Bs → R J} {close : UInt8} {l r : Bs} {j : J} (hl : skipB l = l) (hh : headIs (· == close) l = false) (ho : one [] l = .ok j (close :: r)) (hc : blankB close = false) : parts one close l = .ok [j] r := by
  unfold parts
  rw [hl, hh, if_neg (by simp)]
  show items one close (l.length + 1) [] l = _
  rw [items, ho]
  simp only [shut_skip r hc, if_true]
  rfl
theorem parts_bad {one : List J → Bs → R J} {close : UInt8} {l r : Bs} {e : Int} (hl : skipB l = l) (hh : headIs (· == close) l = false) (ho : one [] l = .no e r) : parts one close l = .no e r := by
  unfold parts
  rw [hl, hh, if_neg (by simp)]
  show items one close (l.length + 1) [] l = _
  rw [items, ho]
theorem parts_pair {f : Bs → R J} {l r : Bs} {j : J} (ho : f l = .ok j (125 :: r)) (hl : skipB l = l) : parts (pair f) 125 (34 :: 97 :: 34 :: 58 :: l) = .ok [(⟨#[97]⟩, j)] r := by
  have hp : pair f [] (34 :: 97 :: 34 :: 58 :: l) = .ok (⟨#[97]⟩, j) (125 :: r) := by
    unfold pair
    simp only [text_a, List.any_nil, Bool.false_eq_true, if_false, shut_skip (c := 58) l (by decide), hl, ho]
  unfold parts
  rw [shut_skip (c := 34) _ (by decide)]
  show items (pair f) 125 ((34 :: 97 :: 34 :: 58 :: l : Bs).length + 1) [] (34 :: 97 :: 34 :: 58 :: l) = _
  rw [items, hp]
  simp only [shut_skip (c := 125) r (by decide), if_true]
  rfl
theorem parts_pair_bad {f : Bs → R J} {l r : Bs} {e : Int} (ho : f l = .no e r) (hl : skipB l = l) : parts (pair f) 125 (34 :: 97 :: 34 :: 58 :: l) = .no e r := by
  have hp : pair f [] (34 :: 97 :: 34 :: 58 :: l) = .no e r := by
    unfold pair
    simp only [text_a, List.any_nil, Bool.false_eq_true, if_false, shut_skip (c := 58) l (by decide), hl, ho]
  unfold parts
  rw [shut_skip (c := 34) _ (by decide)]
  show items (pair f) 125 ((34 :: 97 :: 34 :: 58 :: l : Bs).length + 1) [] (34 :: 97 :: 34 :: 58 :: l) = _
  rw [items, hp]
theorem deep_open (k : Nat) (rest : Bs) : deepT true (k + 1) ++ rest = 123 :: 34 :: 97 :: 34 :: 58 :: (deepT true k ++ 125 :: rest) := by simp [deepT, opn, cls]
theorem deep_list (k : Nat) (rest : Bs) : deepT false (k + 1) ++ rest = 91 :: (deepT false k ++ 93 :: rest) := by simp [deepT, opn, cls]
theorem head_not (ob : Bool) (k : Nat) (r : Bs) (c : UInt8) (h : c = 93 ∨ c = 125) : headIs (· == c) (deepT ob k ++ r) = false := by
  obtain ⟨d, l, hd, -, -, h1, h2⟩ := deepT_head ob k r
  rw [hd]
  show (d == c) = false
  rw [beq_eq_false_iff_ne]
  rcases h with rfl | rfl
  · exact h1
  · exact h2
theorem value_in (ob : Bool) : ∀ (k d : Nat) (rest : Bs), shutB rest → k < d → value d (deepT ob k ++ rest) = .ok (nest ob k) rest
  | 0, d + 1, rest, hs, _ => by
    show value (d + 1) (49 :: rest) = _
    rw [value]
    simp only [show firstB 49 = true by decide, Bool.true_eq_false, if_false]
    rw [if_neg (by decide), if_neg (by decide), if_neg (by decide), if_neg (by decide), if_neg (by decide), if_neg (by decide)]
    exact one_number hs
  | k + 1, d + 1, rest, hs, hk => by
    cases ob with
    | true =>
      have ih := value_in true k d (125 :: rest) (.inr (.inr ⟨rest, rfl⟩)) (by omega)
      rw [deep_open, value]
      simp only [show firstB 123 = true by decide, Bool.true_eq_false, if_false, if_true, parts_pair ih (skip_deep true k (125 :: rest))]
      rfl
    | false =>
      have ih := value_in false k d (93 :: rest) (.inr (.inl ⟨rest, rfl⟩)) (by omega)
      rw [deep_list, value]
      simp only [show firstB 91 = true by decide, Bool.true_eq_false, if_false]
      rw [if_neg (by decide), if_pos trivial, parts_one (skip_deep false k (93 :: rest)) (head_not false k (93 :: rest) 93 (.inl rfl)) ih (by decide)]
      rfl
/-- Too deep: where. -/
theorem value_over (ob : Bool) : ∀ (k d : Nat) (rest : Bs), d ≤ k → ∃ r, value d (deepT ob k ++ rest) = .no eDeep r ∧ (deepT ob k ++ rest).length = r.length + d * (opn ob).length
  | k, 0, rest, _ => by
    obtain ⟨c, l, h, -, hf, -⟩ := deepT_head ob k rest
    refine ⟨c :: l, ?_, by rw [h]; simp⟩
    rw [h, value]
    simp [hf]
  | k + 1, d + 1, rest, hk => by
    cases ob with
    | true =>
      obtain ⟨r, ih, hr⟩ := value_over true k d (125 :: rest) (by omega)
      refine ⟨r, ?_, ?_⟩
      · rw [deep_open, value]
        simp only [show firstB 123 = true by decide, Bool.true_eq_false, if_false, if_true, parts_pair_bad ih (skip_deep true k (125 :: rest))]
      · rw [deep_open]
        simp only [List.length_cons, hr, opn, if_true, List.length_nil]
        omega
    | false =>
      obtain ⟨r, ih, hr⟩ := value_over false k d (93 :: rest) (by omega)
      refine ⟨r, ?_, ?_⟩
      · rw [deep_list, value]
        simp only [show firstB 91 = true by decide, Bool.true_eq_false, if_false]
        rw [if_neg (by decide), if_pos trivial, parts_bad (skip_deep false k (93 :: rest)) (head_not false k (93 :: rest) 93 (.inl rfl)) ih]
      · rw [deep_list]
        simp only [List.length_cons, hr, opn, Bool.false_eq_true, if_false, List.length_nil]
        omega
theorem parse_deep (ob : Bool) (k : Nat) (h : k < 32) (s : ByteArray) (hs : s.data.toList = deepT ob k) : Js.parse s = (nest ob k, 0, 0) := by
  have hv := value_in ob k 32 [] (.inl rfl) h
  have hk := skip_deep ob k []
  rw [List.append_nil] at hv hk
  have hw : whole s.data.toList = .ok (nest ob k) [] := by
    rw [hs]
    unfold whole
    rw [hk, hv]
    rfl
  unfold Js.parse
  rw [hw]
theorem parse_over (ob : Bool) (k : Nat) (h : 32 ≤ k) (s : ByteArray) (hs : s.data.toList = deepT ob k) : Js.parse s = (Js.zero, ((32 * (opn ob).length : Nat) : Int), 31) := by
  obtain ⟨r, hv, hr⟩ := value_over ob k 32 [] h
  have hk := skip_deep ob k []
  rw [List.append_nil] at hv hk hr
  have hw : whole s.data.toList = .no eDeep r := by
    rw [hs]
    unfold whole
    rw [hk, hv]
  have hz : s.size = (deepT ob k).length := by rw [Lib.size_eq, hs]
  unfold Js.parse
  rw [hw]
  simp only [hz, hr]
  rw [show r.length + 32 * (opn ob).length - r.length = 32 * (opn ob).length by omega]
  rfl
/-! ### the text, bracket by bracket -/
def opens (ob : Bool) (k : Nat) : Bs := (List.replicate k (opn ob)).flatten
def shuts (ob : Bool) (k : Nat) : Bs := (List.replicate k (cls ob)).flatten
theorem opens_next (ob : Bool) (k : Nat) : opens ob (k + 1) = opens ob k ++ opn ob := by unfold opens; rw [List.replicate_succ']; simp
theorem opens_front (ob : Bool) (k : Nat) : opens ob (k + 1) = opn ob ++ opens ob k := by unfold opens; rw [List.replicate_succ]; simp
theorem shuts_next (ob : Bool) (k : Nat) : shuts ob (k + 1) = cls ob ++ shuts ob k := by unfold shuts; rw [List.replicate_succ]; simp
theorem shuts_back (ob : Bool) (k : Nat) : shuts ob (k + 1) = shuts ob k ++ cls ob := by unfold shuts; rw [List.replicate_succ']; simp
theorem deep_is (ob : Bool) : ∀ k, deepT ob k = opens ob k ++ [49] ++ shuts ob k
  | 0 => rfl
  | k + 1 => by rw [deepT, deep_is ob k, opens_front, shuts_back]; simp
theorem opens_len (ob : Bool) (k : Nat) : (opens ob k).length = k * (opn ob).length := by unfold opens; simp
theorem shuts_len (ob : Bool) (k : Nat) : (shuts ob k).length = k * (cls ob).length := by unfold shuts; simp
end Go.Proofs.YtihcihpndckfjaaDoor
