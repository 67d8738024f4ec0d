/- Texts sorted, their runs taken out: as many are left just if no two are the same. No program is named here. Conditions: none. -/
import Derived.Test.YtkbdokakoapooaaGreatDoorGaG
import Derived.Lib.SlicesCompact
namespace Go.Proofs.YtkbdokakoapooaaGreatDoor
set_option linter.unusedVariables false
open Go
namespace Mf
theorem keep_iff (S : List Bs) (j : Nat) (hj : j < S.length) : Lib.keeps S.toArray j = true ↔ (j = 0 ∨ S[j] ≠ S[j - 1]) := by
  unfold Lib.keeps
  rw [decide_eq_true_eq, getElem!_pos S.toArray j (by simpa using hj), getElem!_pos S.toArray (j - 1) (by simp; omega)]
  simp
theorem compact_keeps (S : List Bs) : (Lib.compact S).length = S.length ↔ ∀ j, (hj : j < S.length) → (j = 0 ∨ S[j] ≠ S[j - 1]) := by
  unfold Lib.compact Lib.compactUpTo
  rw [List.length_map]
  have h : ((List.range S.length).filter (Lib.keeps S.toArray)).length = S.length ↔ ∀ a ∈ List.range S.length, Lib.keeps S.toArray a = true := by
    have := List.length_filter_eq_length_iff (p := Lib.keeps S.toArray) (l := List.range S.length)
    rw [List.length_range] at this
    exact this
  rw [h]
  constructor
  · intro h1 j hj
    exact (keep_iff S j hj).1 (h1 j (List.mem_range.2 hj))
  · intro h1 a ha
    exact (keep_iff S a (List.mem_range.1 ha)).2 (h1 a (List.mem_range.1 ha))
theorem sorted_nodup (S : List Bs) (hp : S.Pairwise (· ≤ ·)) : (Lib.compact S).length = S.length ↔ S.Nodup := by
  rw [compact_keeps]
  constructor
  · intro h
    rw [List.nodup_iff_pairwise_ne, List.pairwise_iff_getElem]
    intro i j hi hj hij e
    have h1 := h j hj
    rcases h1 with h1 | h1
    · omega
    · apply h1
      have h2 : S[i] ≤ S[j - 1] := by
        rcases Nat.lt_or_ge i (j - 1) with c | c
        · exact List.pairwise_iff_getElem.mp hp i (j - 1) hi (by omega) c
        · have : i = j - 1 := by omega
          subst this
          exact List.le_refl _
      have h3 : S[j - 1] ≤ S[j] := List.pairwise_iff_getElem.mp hp (j - 1) j (by omega) hj (by omega)
      rw [e] at h2
      exact List.le_antisymm h2 h3
  · intro h j hj
    rcases Nat.eq_zero_or_pos j with c | c
    · exact .inl c
    · refine .inr fun e => ?_
      rw [List.nodup_iff_pairwise_ne, List.pairwise_iff_getElem] at h
      exact h (j - 1) j (by omega) hj (by omega) e.symm
def srtB (L : List Bs) : List Bs := L.mergeSort fun x y => decide (x ≤ y)
theorem compact_len (L : List Bs) : (Lib.compact (srtB L)).length = L.length ↔ L.Nodup := by
  have hm := List.mergeSort_perm L fun x y => decide (x ≤ y)
  have hp : (srtB L).Pairwise fun x y => decide (x ≤ y) = true := List.pairwise_mergeSort (fun a b c h1 h2 => by
    simp only [decide_eq_true_eq] at *; exact List.le_trans h1 h2) (fun a b => by
    simp only [Bool.or_eq_true, decide_eq_true_eq]; exact List.le_total a b) L
  have h2 : (srtB L).Pairwise (· ≤ ·) := hp.imp fun h => by simpa using h
  have h3 := sorted_nodup (srtB L) h2
  rw [← hm.nodup_iff, ← hm.length_eq]
  exact h3
theorem srtB_len (L : List Bs) : (srtB L).length = L.length := (List.mergeSort_perm L _).length_eq
theorem may_eq (m : Mn) : may m = (decide (1 ≤ m.next) && (decide (m.next ≤ 4503599627370496) && (decide (0 ≤ m.seq) && (decide (m.seq ≤ 4503599627370496) && (decide (m.segs.length ≤ 1024) && ((m.segs ++ [m.log]).all (fun s => isNm m.next (bl s)) && decide ((m.segs ++ [m.log]).map bl).Nodup)))))) := by
  rw [Bool.eq_iff_iff, may_iff]
  simp only [Bool.and_eq_true, decide_eq_true_eq, List.all_eq_true]
  have e : ((m.segs ++ [m.log]).map bl).Nodup ↔ bl m.log ∉ m.segs.map bl ∧ (m.segs.map bl).Nodup := by
    rw [List.map_append, List.nodup_append]
    constructor
    · rintro ⟨h1, _, h3⟩
      exact ⟨fun hm => h3 _ hm _ (by simp) rfl, h1⟩
    · rintro ⟨h1, h2⟩
      refine ⟨h2, by simp, fun a ha b hb e => ?_⟩
      have : b = bl m.log := by simpa using hb
      rw [e, this] at ha
      exact h1 ha
  rw [e]
  constructor
  · rintro ⟨h1, h2, h3, h4, h5, h6, h7, h8, h9⟩
    refine ⟨h1, h2, h3, h4, h5, fun x hx => ?_, h8, h9⟩
    rcases List.mem_append.1 hx with h | h
    · exact h7 x h
    · have : x = m.log := by simpa using h
      rw [this]; exact h6
  · rintro ⟨h1, h2, h3, h4, h5, h6, h8, h9⟩
    exact ⟨h1, h2, h3, h4, h5, h6 m.log (by simp), fun s hs => h6 s (by simp [hs]), h8, h9⟩
end Mf
end Go.Proofs.YtkbdokakoapooaaGreatDoor
