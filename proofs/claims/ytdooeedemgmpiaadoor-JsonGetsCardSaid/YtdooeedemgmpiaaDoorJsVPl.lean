/- Plain facts on readings: errors are none of 0, and no rest is longer than what was read. Conditions: none. -/
import Derived.Test.YtdooeedemgmpiaaDoorJsTextPl
import Derived.Test.YtdooeedemgmpiaaDoorJsNumPl
namespace Go.Proofs.YtdooeedemgmpiaaDoor
open Go Go.RowKit Js

def isErr (e : Int) : Prop := 30 ≤ e ∧ e ≤ 33
/-- A reading that ends well, or with an error, with no more left than there was. -/
structure Sound {α : Type} (l : Bs) (x : Js.R α) : Prop where
  err : ∀ e r, x = .no e r → isErr e
  le : x.rest.length ≤ l.length
theorem err_num : isErr eNumber := by unfold isErr eNumber; omega
theorem err_twice : isErr eTwice := by unfold isErr eTwice; omega
theorem err_deep : isErr eDeep := by unfold isErr eDeep; omega
theorem err_json : isErr eJson := by unfold isErr eJson; omega
theorem Sound.no {α : Type} {l r : Bs} {e : Int} (h : isErr e) (hl : r.length ≤ l.length) : Sound l (.no e r : Js.R α) := ⟨fun e' r' he => by injection he with he; rw [← he]; exact h, hl⟩
theorem Sound.ok {α : Type} {l r : Bs} {a : α} (hl : r.length ≤ l.length) : Sound l (.ok a r) := ⟨fun _ _ he => (nomatch he), hl⟩
theorem Sound.mono {α : Type} {l l' : Bs} {x : Js.R α} (h : Sound l x) (hl : l.length ≤ l'.length) : Sound l' x := ⟨h.err, Nat.le_trans h.le hl⟩
theorem skipB_le (l : Bs) : (skipB l).length ≤ l.length := by
  unfold skipB
  induction l with
  | nil => simp
  | cons c l ih => rw [List.dropWhile_cons]; split <;> simp <;> omega
theorem word_sound : ∀ (w l : Bs), Sound l (word w l)
  | [], l => .ok (Nat.le_refl _)
  | _ :: _, [] => .no err_json (by simp)
  | c :: w, d :: l => by
    unfold word
    split
    · exact (word_sound w l).mono (by simp)
    · exact .no err_json (Nat.le_refl _)
theorem digits_sound (l : Bs) : Sound l (digits l) := by
  rw [digits_eq]
  split
  · have := skips_le digS l
    rw [skips_dig] at this
    exact .ok this
  · exact .no err_json (Nat.le_refl _)
theorem tail_le (l : Bs) : l.tail.length ≤ l.length := by simp
theorem frac_sound (l : Bs) : Sound l (fracB l) := by
  unfold fracB
  split
  · exact (digits_sound _).mono (tail_le l)
  · exact .ok (Nat.le_refl _)
theorem exp_sound (l : Bs) : Sound l (expB l) := by
  unfold expB
  split
  · split
    · exact (digits_sound _).mono (Nat.le_trans (tail_le _) (tail_le l))
    · exact (digits_sound _).mono (tail_le l)
  · exact .ok (Nat.le_refl _)
theorem whole_sound (l : Bs) : Sound l (wholeB l) := by
  unfold wholeB
  have h1 : (if headIs (fun x => x == 45) l = true then l.tail else l).length ≤ l.length := by split; exact tail_le l; exact Nat.le_refl _
  generalize (if headIs (fun x => x == 45) l = true then l.tail else l) = m at h1
  show Sound l (if headIs (fun x => x == 48) m = true then Js.R.ok () m.tail else digits m)
  split
  · exact .ok (Nat.le_trans (tail_le _) h1)
  · exact (digits_sound _).mono h1
theorem number_sound (l : Bs) : Sound l (number l) := by
  unfold number
  have h1 := whole_sound l
  cases hw : wholeB l with
  | no e r => rw [hw] at h1; exact ⟨fun e' r' he => by injection he with he; rw [← he]; exact h1.err e r rfl, h1.le⟩
  | ok _ l2 =>
    rw [hw] at h1
    have h2 := frac_sound l2
    simp only
    cases hf : fracB l2 with
    | no e r => rw [hf] at h2; exact ⟨fun e' r' he => by injection he with he; rw [← he]; exact h2.err e r rfl, Nat.le_trans h2.le h1.le⟩
    | ok _ l3 =>
      rw [hf] at h2
      have h3 := exp_sound l3
      simp only
      cases hx : expB l3 with
      | no e r => rw [hx] at h3; exact ⟨fun e' r' he => by injection he with he; rw [← he]; exact h3.err e r rfl, Nat.le_trans h3.le (Nat.le_trans h2.le h1.le)⟩
      | ok _ l4 =>
        dsimp only
        generalize (if headIs (fun x => x == 45) l = true then -((natOf (List.take ((if headIs (fun x => x == 45) l = true then l.tail else l).length - l2.length) (if headIs (fun x => x == 45) l = true then l.tail else l)) : Nat) : Int) else ((natOf (List.take ((if headIs (fun x => x == 45) l = true then l.tail else l).length - l2.length) (if headIs (fun x => x == 45) l = true then l.tail else l)) : Nat) : Int)) = n
        split
        · exact .no err_num (Nat.le_refl _)
        · exact .ok h1.le
theorem textF_sound : ∀ (k : Nat) (out l : Bs), Sound l (textF k out l)
  | k, _, [] => by cases k <;> exact .no err_json (by simp)
  | 0, _, _ :: _ => .no err_json (Nat.le_refl _)
  | k + 1, out, c :: l => by
    simp only [textF]
    split
    · exact .ok (by simp)
    · split
      · cases he : escape (c :: l) with
        | none => exact .no err_json (Nat.le_refl _)
        | some x => exact (textF_sound k _ _).mono (by simp)
      · split
        · exact .no err_json (Nat.le_refl _)
        · exact (textF_sound k _ _).mono (by simp)
theorem text_sound (l : Bs) : Sound l (textOf [] l) := textF_sound _ _ _
theorem items_sound {α : Type} {one : List α → Bs → Js.R α} (h : ∀ acc l, Sound l (one acc l)) (close : UInt8) : ∀ (k : Nat) (acc : List α) (l : Bs), Sound l (items one close k acc l)
  | 0, _, _ => .no err_json (Nat.le_refl _)
  | k + 1, acc, l => by
    unfold items
    have h1 := h acc l
    cases hx : one acc l with
    | no e r => rw [hx] at h1; exact ⟨fun e' r' he => by injection he with he; rw [← he]; exact h1.err e r rfl, h1.le⟩
    | ok a r =>
      rw [hx] at h1
      have hr : (skipB r).length ≤ l.length := Nat.le_trans (skipB_le r) h1.le
      simp only
      cases hs : skipB r with
      | nil => exact .no err_json (by simp)
      | cons c r' =>
        rw [hs] at hr
        simp only
        split
        · exact .ok (by simp at hr ⊢; omega)
        · split
          · exact (items_sound h close k _ _).mono (by have := skipB_le r'; simp at hr; omega)
          · exact .no err_json hr
theorem parts_sound {α : Type} {one : List α → Bs → Js.R α} (h : ∀ acc l, Sound l (one acc l)) (close : UInt8) (l : Bs) : Sound l (parts one close l) := by
  unfold parts
  split
  · exact .ok (Nat.le_trans (tail_le _) (skipB_le l))
  · exact (items_sound h close _ _ _).mono (skipB_le l)
theorem pair_sound {f : Bs → Js.R J} (h : ∀ l, Sound l (f l)) (acc : List (ByteArray × J)) (l : Bs) : Sound l (pair f acc l) := by
  unfold pair
  split
  · rename_i l1
    have h1 := text_sound l1
    change Sound l1 (text l1) at h1
    cases ht : text l1 with
    | no e r => rw [ht] at h1; exact ⟨fun e' r' he => by injection he with he; rw [← he]; exact h1.err e r rfl, by have := h1.le; simp [Js.R.rest] at this ⊢; omega⟩
    | ok name r =>
      rw [ht] at h1
      have hr : (skipB r).length ≤ l1.length := Nat.le_trans (skipB_le r) h1.le
      simp only
      split
      · exact .no err_twice (Nat.le_refl _)
      · split
        · rename_i r' hs
          rw [hs] at hr
          have h2 := h (skipB r')
          have hb : (skipB r').length ≤ (34 :: l1).length := by have := skipB_le r'; simp at hr ⊢; omega
          cases hf : f (skipB r') with
          | no e q => rw [hf] at h2; exact ⟨fun e' r' he => by injection he with he; rw [← he]; exact h2.err e q rfl, Nat.le_trans h2.le hb⟩
          | ok j q => rw [hf] at h2; exact .ok (Nat.le_trans h2.le hb)
        · exact .no err_json (by simp; omega)
  · exact .no err_json (Nat.le_refl _)
theorem value_sound : ∀ (d : Nat) (l : Bs), Sound l (value d l) := by
  intro d
  induction d with
  | zero =>
    intro l
    unfold value
    split
    · exact .no err_json (by simp)
    · split
      · exact .no err_json (Nat.le_refl _)
      · exact .no err_deep (Nat.le_refl _)
  | succ d ih =>
    intro l
    unfold value
    split
    · exact .no err_json (by simp)
    · rename_i c l1
      split
      · exact .no err_json (Nat.le_refl _)
      · simp only
        split
        · have h1 := parts_sound (fun acc l => pair_sound ih acc l) 125 l1
          cases hp : parts (pair (value d)) 125 l1 with
          | no e r => rw [hp] at h1; exact (show Sound (c :: l1) (Js.R.no e r) from ⟨fun e' r' he => by injection he with he; rw [← he]; exact h1.err e r rfl, by have := h1.le; simp [Js.R.rest] at this ⊢; omega⟩)
          | ok ps r => rw [hp] at h1; exact .ok (by have := h1.le; simp [Js.R.rest] at this ⊢; omega)
        · split
          · have h1 := parts_sound (fun (_ : List J) l => ih l) 93 l1
            cases hp : parts (fun _ => value d) 93 l1 with
            | no e r => rw [hp] at h1; exact (show Sound (c :: l1) (Js.R.no e r) from ⟨fun e' r' he => by injection he with he; rw [← he]; exact h1.err e r rfl, by have := h1.le; simp [Js.R.rest] at this ⊢; omega⟩)
            | ok ps r => rw [hp] at h1; exact .ok (by have := h1.le; simp [Js.R.rest] at this ⊢; omega)
          · split
            · have h1 := text_sound l1
              change Sound l1 (text l1) at h1
              cases hp : text l1 with
              | no e r => rw [hp] at h1; exact (show Sound (c :: l1) (Js.R.no e r) from ⟨fun e' r' he => by injection he with he; rw [← he]; exact h1.err e r rfl, by have := h1.le; simp [Js.R.rest] at this ⊢; omega⟩)
              | ok ps r => rw [hp] at h1; exact .ok (by have := h1.le; simp [Js.R.rest] at this ⊢; omega)
            · split
              · have h1 := word_sound [116, 114, 117, 101] (c :: l1)
                cases hp : word [116, 114, 117, 101] (c :: l1) with
                | no e r => rw [hp] at h1; exact ⟨fun e' r' he => by injection he with he; rw [← he]; exact h1.err e r rfl, h1.le⟩
                | ok ps r => rw [hp] at h1; exact .ok h1.le
              · split
                · have h1 := word_sound [102, 97, 108, 115, 101] (c :: l1)
                  cases hp : word [102, 97, 108, 115, 101] (c :: l1) with
                  | no e r => rw [hp] at h1; exact ⟨fun e' r' he => by injection he with he; rw [← he]; exact h1.err e r rfl, h1.le⟩
                  | ok ps r => rw [hp] at h1; exact .ok h1.le
                · split
                  · have h1 := word_sound [110, 117, 108, 108] (c :: l1)
                    cases hp : word [110, 117, 108, 108] (c :: l1) with
                    | no e r => rw [hp] at h1; exact ⟨fun e' r' he => by injection he with he; rw [← he]; exact h1.err e r rfl, h1.le⟩
                    | ok ps r => rw [hp] at h1; exact .ok h1.le
                  · exact number_sound _
theorem blank_has (c : UInt8) : (⟨#[32, 9, 10, 13]⟩ : ByteArray).data.toList.contains c = blankB c := by
  have h : ∀ n, n < 256 → (⟨#[32, 9, 10, 13]⟩ : ByteArray).data.toList.contains (UInt8.ofNat n) = blankB (UInt8.ofNat n) := by decide +kernel
  have := h c.toNat c.toNat_lt
  simpa using this
theorem skips_blank (l : Bs) : skips ⟨#[32, 9, 10, 13]⟩ l = skipB l := by
  unfold skips skipB
  rw [show (⟨#[32, 9, 10, 13]⟩ : ByteArray).data.toList.contains = blankB from funext blank_has]
theorem head_is (l : Bs) (c : UInt8) (hc : c ≠ 0) : (headZ l == (c.toNat : Int)) = headIs (· == c) l := by
  cases l with
  | nil =>
    have : ¬ c.toNat = 0 := fun e => hc (UInt8.toNat_inj.1 e)
    simp [headZ, headIs]; omega
  | cons d l =>
    rw [Bool.eq_iff_iff]
    simp only [headZ, headIs, beq_iff_eq]
    constructor
    · intro e; exact UInt8.toNat_inj.1 (by omega)
    · intro e; rw [e]
end Go.Proofs.YtdooeedemgmpiaaDoor
