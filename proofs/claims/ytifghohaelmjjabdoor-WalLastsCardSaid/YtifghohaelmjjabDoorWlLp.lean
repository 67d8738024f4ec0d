/- What a crash leaves of a log, and what is found of it: plain. Conditions: those that each theorem names. -/
import Derived.Test.YtifghohaelmjjabDoorWlBl
import Derived.Test.YtifghohaelmjjabDoorWlApp
namespace Go.Proofs.YtifghohaelmjjabDoor
set_option linter.unusedVariables false
open Go Go.RowKit Wl Dk
/-- How many bytes are synced behind the k-th record. -/
def syN (L : List (List UInt8)) (synced : Int) (k : Nat) : Nat := if 1 ≤ synced ∧ synced ≤ (k : Int) then lens (L.take synced.toNat) else 0
theorem syN_zero (L : List (List UInt8)) (synced : Int) : syN L synced 0 = 0 := by unfold syN; rw [if_neg (by omega)]
theorem syN_at (L : List (List UInt8)) (k : Nat) : syN L ((k + 1 : Nat) : Int) (k + 1) = lens (L.take (k + 1)) := by unfold syN; rw [if_pos (by omega)]; congr 1
theorem syN_other (L : List (List UInt8)) (synced : Int) (k : Nat) (h : synced ≠ ((k + 1 : Nat) : Int)) : syN L synced (k + 1) = syN L synced k := by
  unfold syN
  by_cases c : 1 ≤ synced ∧ synced ≤ (k : Int)
  · rw [if_pos c, if_pos (by omega)]
  · rw [if_neg c, if_neg (by omega)]
theorem syN_le (L : List (List UInt8)) (synced : Int) (k : Nat) : syN L synced k ≤ lens (L.take k) := by
  unfold syN; split
  · exact lens_mono L (by omega)
  · omega
/-- What a crash leaves of a disk with the log's file alone. -/
theorem st_crash (F : List UInt8) (s : Nat) (k : Int) (kk : Nat) (bs : List Int) (h : s ≤ F.length) : ∃ m, s ≤ m ∧ m ≤ F.length ∧ (st F s k).crash kk bs = st (F.take m) m k := by
  refine ⟨s + min (left bs 0) (F.length - s), by omega, by omega, ?_⟩
  have h1 : (st F s k).undo kk = st F s k := by unfold DSt.undo st; simp
  unfold DSt.crash
  rw [h1]
  obtain ⟨m, hm⟩ : ∃ m, m = s + min (left bs 0) (F.length - s) := ⟨_, rfl⟩
  have hle : m ≤ F.length := by omega
  have h2 : DSt.mk [(nL, 0)] [] [⟨F.take m, (F.take m).length⟩] k [] = st (F.take m) m k := by
    rw [List.length_take, Nat.min_eq_left hle]; rfl
  rw [← hm, ← h2, hm]; rfl
/-- What is found behind it, and behind that. -/
theorem found (L : List (List UInt8)) (s m : Nat) (synced : Int) (hb : ∀ b ∈ L, b.length ≤ 65536) (hL : L.length ≤ 50) (hs : s = syN L synced L.length) (h1 : s ≤ m) (h2 : m ≤ lens L) :
    ∃ K er, K ≤ L.length ∧ scan 0 ((frames 1 L).take m) = ⟨numbered 1 (L.take K), lens (L.take K), er⟩ ∧ ((er = 0 ∧ lens (L.take K) = ((frames 1 L).take m).length) ∨ (er = 91 ∧ lens (L.take K) ≤ ((frames 1 L).take m).length)) ∧
      ((frames 1 L).take m).take (lens (L.take K)) = frames 1 (L.take K) ∧ scan 0 (frames 1 (L.take K)) = ⟨numbered 1 (L.take K), (frames 1 (L.take K)).length, 0⟩ ∧ ((1 ≤ synced ∧ synced ≤ (L.length : Int)) → synced ≤ (K : Int)) := by
  obtain ⟨K, a1, a2, a3, a4⟩ := scan_part L 1 m (fun b hb' => by have := hb b hb'; omega) (by omega) (by omega) h2
  have hml : ((frames 1 L).take m).length = m := by rw [List.length_take, frames_len]; omega
  have hpre : (frames 1 L).take (lens (L.take K)) = frames 1 (L.take K) := by
    have e : frames 1 L = frames 1 (L.take K) ++ frames (1 + (L.take K).length) (L.drop K) := by rw [← frames_add, List.take_append_drop]
    rw [e]
    exact take_app (by rw [frames_len])
  refine ⟨K, _, a1, a4, ?_, ?_, ?_, ?_⟩
  · rw [hml]
    by_cases h : m = lens (L.take K)
    · exact .inl ⟨by rw [if_pos h], h.symm⟩
    · exact .inr ⟨by rw [if_neg h], a2⟩
  · rw [List.take_take, Nat.min_eq_left a2, hpre]
  · have h := scan_frames (L.take K) [] (fun b hb' => by have := hb b (List.mem_of_mem_take hb'); omega) 0 1 (by omega) (by rw [List.length_take]; omega) (.inl rfl)
    rw [List.append_nil, scan_nil] at h
    rw [h]; simp
  · intro hc
    rcases Nat.lt_or_ge K L.length with hlt | hge
    · have h3 := a3 hlt
      by_cases hsy : synced ≤ (K : Int)
      · exact hsy
      · have h4 : lens (L.take (K + 1)) ≤ lens (L.take synced.toNat) := lens_mono L (by omega)
        have h5 : s = lens (L.take synced.toNat) := by rw [hs]; unfold syN; rw [if_pos hc]
        omega
    · omega
theorem syN_part (L : List (List UInt8)) (synced : Int) (k : Nat) (hk : k ≤ L.length) : syN L synced k = syN (L.take k) synced (L.take k).length := by
  have h : (L.take k).length = k := by rw [List.length_take]; omega
  unfold syN
  rw [h]
  by_cases c : 1 ≤ synced ∧ synced ≤ (k : Int)
  · rw [if_pos c, if_pos c, List.take_take, Nat.min_eq_left (by omega)]
  · rw [if_neg c, if_neg c]
theorem lens_small (L : List (List UInt8)) (hb : ∀ b ∈ L, b.length ≤ 65536) : lens L ≤ 65556 * L.length := by
  induction L with
  | nil => simp [lens]
  | cons x r ih =>
    have h1 := ih (fun b hb' => hb b (by simp [hb']))
    have h2 := hb x (by simp)
    simp only [lens, List.length_cons]; omega
end Go.Proofs.YtifghohaelmjjabDoor
