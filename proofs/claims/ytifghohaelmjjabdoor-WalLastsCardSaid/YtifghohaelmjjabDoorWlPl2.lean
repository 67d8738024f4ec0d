/- Records one behind the other that are cut off, or of which one byte is turned. No program is named here. Conditions: none but those that each theorem names. -/
import Derived.Test.YtifghohaelmjjabDoorWlPlain
namespace Go.Proofs.YtifghohaelmjjabDoor
set_option linter.unusedVariables false
open Go
namespace Wl
def lens : List (List UInt8) → Nat
  | [] => 0
  | b :: r => 20 + b.length + lens r
theorem frames_len (q : Nat) (L : List (List UInt8)) : (frames q L).length = lens L := by
  induction L generalizing q with
  | nil => rfl
  | cons b r ih => simp only [frames, lens, List.length_append, frameL_len, ih]
theorem lens_add (a b : List (List UInt8)) : lens (a ++ b) = lens a + lens b := by
  induction a with
  | nil => simp [lens]
  | cons x r ih => simp only [List.cons_append, lens, ih]; omega
theorem lens_take_le (L : List (List UInt8)) (k : Nat) : lens (L.take k) ≤ lens L := by
  have := lens_add (L.take k) (L.drop k)
  rw [List.take_append_drop] at this
  omega
theorem lens_next (L : List (List UInt8)) (k : Nat) (h : k < L.length) : lens (L.take (k + 1)) = lens (L.take k) + (20 + (L[k]).length) := by
  rw [List.take_add_one, List.getElem?_eq_getElem h, lens_add]
  simp [lens]
theorem lens_mono (L : List (List UInt8)) {j k : Nat} (h : j ≤ k) : lens (L.take j) ≤ lens (L.take k) := by
  have : L.take j = (L.take k).take j := by rw [List.take_take, Nat.min_eq_left h]
  rw [this]; exact lens_take_le _ _
theorem frames_split (q : Nat) (L : List (List UInt8)) (K : Nat) (h : K < L.length) : frames q L = frames q (L.take K) ++ (frameL (q + K) (L[K]) ++ frames (q + K + 1) (L.drop (K + 1))) := by
  have e : L = L.take K ++ (L[K] :: L.drop (K + 1)) := by rw [← List.drop_eq_getElem_cons h, List.take_append_drop]
  have hl : (L.take K).length = K := by rw [List.length_take]; omega
  calc frames q L = frames q (L.take K ++ (L[K] :: L.drop (K + 1))) := by rw [← e]
    _ = _ := by rw [frames_add, hl]; rfl
/-- The frame in which a place lies. -/
theorem place_in : ∀ (L : List (List UInt8)) (c : Nat), c < lens L → ∃ K, K < L.length ∧ lens (L.take K) ≤ c ∧ c < lens (L.take (K + 1))
  | [], c, h => by simp [lens] at h
  | b :: r, c, h => by
    by_cases hc : c < 20 + b.length
    · exact ⟨0, by simp, by simp [lens], by simpa [lens] using hc⟩
    · obtain ⟨K, h1, h2, h3⟩ := place_in r (c - (20 + b.length)) (by simp only [lens] at h; omega)
      exact ⟨K + 1, by simpa using h1, by simp only [List.take_succ_cons, lens]; omega, by rw [List.take_succ_cons]; simp only [lens]; omega⟩
/-- Cut off anywhere: all that are whole. -/
theorem scan_part (L : List (List UInt8)) (q c : Nat) (hb : ∀ b ∈ L, b.length ≤ 16777216) (hq : 1 ≤ q) (hq' : q + L.length ≤ 4503599627370496) (hc : c ≤ lens L) :
    ∃ K, K ≤ L.length ∧ lens (L.take K) ≤ c ∧ (K < L.length → c < lens (L.take (K + 1))) ∧ scan 0 ((frames q L).take c) = ⟨numbered q (L.take K), lens (L.take K), if c = lens (L.take K) then 0 else 91⟩ := by
  by_cases he : c = lens L
  · refine ⟨L.length, Nat.le_refl _, by rw [List.take_length]; omega, fun h => absurd h (Nat.lt_irrefl _), ?_⟩
    rw [List.take_of_length_le (by rw [frames_len]; omega), List.take_length, if_pos he]
    have h := scan_frames L [] hb 0 q hq (by omega) (.inl rfl)
    rw [List.append_nil] at h
    rw [h, scan_nil, frames_len]; simp
  · obtain ⟨K, h1, h2, h3⟩ := place_in L c (by omega)
    refine ⟨K, by omega, h2, fun _ => h3, ?_⟩
    have hl : (L.take K).length = K := by rw [List.length_take]; omega
    have hn := lens_next L K h1
    rw [frames_split q L K h1, List.take_append, List.take_of_length_le (by rw [frames_len]; exact h2), frames_len, List.take_append_of_le_length (by rw [frameL_len]; omega)]
    have h := scan_cut (L.take K) (L[K]) 0 q (c - lens (L.take K)) (fun b hb' => hb b (List.mem_of_mem_take hb')) (hb _ (List.getElem_mem _)) hq (by rw [hl]; omega) (.inl rfl) (by omega)
    rw [hl] at h
    rw [h, frames_len]
    by_cases h0 : c = lens (L.take K)
    · rw [if_pos h0, if_pos (by omega)]
    · rw [if_neg h0, if_neg (by omega)]
/-- One byte turned: the records ahead of it. -/
theorem scan_turned (L : List (List UInt8)) (q c : Nat) (x : UInt8) (hb : ∀ b ∈ L, b.length ≤ 16777216) (hq : 1 ≤ q) (hq' : q + L.length ≤ 4503599627370496) (hc : c < lens L) (hx : (frames q L)[c]? ≠ some x) :
    ∃ K, K < L.length ∧ lens (L.take K) ≤ c ∧ c < lens (L.take (K + 1)) ∧ scan 0 ((frames q L).set c x) = ⟨numbered q (L.take K), lens (L.take K), 90⟩ := by
  obtain ⟨K, h1, h2, h3⟩ := place_in L c hc
  refine ⟨K, h1, h2, h3, ?_⟩
  have hl : (L.take K).length = K := by rw [List.length_take]; omega
  have hn := lens_next L K h1
  have hfl : (frames q (L.take K)).length = lens (L.take K) := frames_len _ _
  have hs := frames_split q L K h1
  rw [hs] at hx ⊢
  rw [List.getElem?_append_right (by omega), hfl, List.getElem?_append_left (by rw [frameL_len]; omega)] at hx
  rw [List.set_append_right _ _ (by omega), hfl, List.set_append_left _ _ (by rw [frameL_len]; omega)]
  have h4 := one_spoilt (q + K) (L[K]) (frames (q + K + 1) (L.drop (K + 1))) (hb _ (List.getElem_mem _)) (by omega) (by omega) (c - lens (L.take K)) x (by omega) hx
  have hne : (frameL (q + K) (L[K])).set (c - lens (L.take K)) x ++ frames (q + K + 1) (L.drop (K + 1)) ≠ [] := by
    intro e
    have := congrArg List.length e
    simp [frameL_len] at this
  rw [scan_frames (L.take K) _ (fun b hb' => hb b (List.mem_of_mem_take hb')) 0 q hq (by rw [hl]; omega) (.inl rfl), scan_bad hne h4, hfl]
  simp
/-- Where each record ends. -/
def endsL (L : List (List UInt8)) (k : Nat) : List Int := (List.range (k + 1)).map fun j => (lens (L.take j) : Int)
theorem endsL_len (L : List (List UInt8)) (k : Nat) : (endsL L k).length = k + 1 := by simp [endsL]
theorem endsL_next (L : List (List UInt8)) (k : Nat) : endsL L (k + 1) = endsL L k ++ [(lens (L.take (k + 1)) : Int)] := by
  unfold endsL
  rw [List.range_succ (n := k + 1), List.map_append]
  rfl
theorem endsL_at (L : List (List UInt8)) (k j : Nat) (h : j < (endsL L k).length) : (endsL L k)[j] = (lens (L.take j) : Int) := by simp [endsL]
theorem frames_next (q : Nat) (L : List (List UInt8)) (k : Nat) (h : k < L.length) : frames q (L.take (k + 1)) = frames q (L.take k) ++ frameL (q + k) (L[k]) := by
  have hl : (L.take k).length = k := by rw [List.length_take]; omega
  rw [List.take_add_one, List.getElem?_eq_getElem h, frames_add, hl]
  simp [frames]
end Wl
end Go.Proofs.YtifghohaelmjjabDoor
