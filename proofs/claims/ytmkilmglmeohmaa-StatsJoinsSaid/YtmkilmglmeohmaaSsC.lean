/- The program's bucket of a piece of sorted numbers, and its histogram. Conditions: those that each theorem names. -/
import Derived.Test.YtmkilmglmeohmaaRowS
import Derived.Test.YtmkilmglmeohmaaRkM
import Derived.Test.YtmkilmglmeohmaaSsPl2
namespace Go.Proofs.Ytmkilmglmeohmaa
set_option linter.unusedVariables false
open Go Go.RowKit Go.Sort
namespace Ss
def encB (x : Bk) : List Value := [.int .i64 x.1, .int .i64 x.2.1, .int .i64 x.2.2.1, .int .i64 x.2.2.2]
def encE (x : En) : List Value := [.int .i64 x.1, .int .i64 x.2]
theorem flatB : Rk.Flat Try.prog encB 4 36 24 32 where
  under := Try.underlying24
  info := Rk.info_of (z := .agg #[.int .i64 0, .int .i64 0, .int .i64 0, .int .i64 0]) (by kernel_rfl) rfl
  pos := by decide
  len _ := rfl
  one x u hu := by simp [encB] at hu; rcases hu with rfl | rfl | rfl | rfl <;> rfl
theorem flatE : Rk.Flat Try.prog encE 2 39 25 16 where
  under := Try.underlying25
  info := Rk.info_of (z := .agg #[.int .i64 0, .int .i64 0]) (by kernel_rfl) rfl
  pos := by decide
  len _ := rfl
  one x u hu := by simp [encE] at hu; rcases hu with rfl | rfl <;> rfl
/-- A part of a row of one's own. -/
theorem own_part {w : World} {base g n cap : Nat} {X : List Int} (h : Own w base (.slice (some ⟨g, 0, none⟩) n cap) X) (off m : Nat) (hm : off + m ≤ X.length) : Holds (Value.int .i64) w g off ((X.drop off).take m).toArray := by
  intro j hj
  have hj' : j < m := by simp at hj; omega
  have hx : X[off + j]? = some (X[off + j]'(by omega)) := List.getElem?_eq_getElem (by omega)
  obtain ⟨h1, h2, _⟩ := own_cell h (off + j) _ hx
  refine ⟨?_, h2⟩
  rw [h1]
  have hs : j < ((X.drop off).take m).toArray.size := hj
  rw [getElem!_pos ((X.drop off).take m).toArray j hs]
  simp
/-- A part of a row of one's own, laid over. -/
theorem put_part {w : World} {base g n cap q : Nat} {X ys : List Int} (h : Own w base (.slice (some ⟨g, 0, none⟩) n cap) X) (off : Nat) (hm : off + ys.length ≤ X.length) :
    Own (putRow (Value.int .i64) (Sort.ahead w q) g off ys.toArray) base (.slice (some ⟨g, 0, none⟩) n cap) (X.take off ++ ys ++ X.drop (off + ys.length)) := by
  have hl : (X.take off ++ ys ++ X.drop (off + ys.length)).length = X.length := by simp; omega
  rcases h.2 with ⟨e0, _⟩ | ⟨g', cap', cur, e0, hb, hg, hn, hmx, hs, ht⟩
  · cases e0
  · injection e0 with e1 e2 e3
    injection e1 with e1
    injection e1 with e1
    subst e1; subst e2; subst e3
    unfold Own
    rw [hl]
    refine ⟨by rw [ints_length, hl, Nat.mul_one], .inr ⟨g, cap, putCells (Value.int .i64) off ys.toArray cur, rfl, hb, ?_, hn, hmx, by simpa [putCells] using hs, ?_⟩⟩
    · simp [putRow, mapBlock, Sort.ahead, Array.getElem?_modify, hg, onCells]
    · apply List.ext_getElem?
      intro j
      have hX : (cur.toList.take (X.length * 1))[j]? = (ints X)[j]? := by rw [ht]
      rw [List.getElem?_take, Array.getElem?_toList] at hX ⊢
      by_cases hj : j < X.length * 1
      · have hjc : j < cur.size := by omega
        rw [if_pos hj] at hX ⊢
        rw [Array.getElem?_eq_getElem hjc] at hX
        simp only [ints, List.getElem?_map, putCells, Array.getElem?_mapIdx, Array.getElem?_eq_getElem hjc, Option.map_some] at hX ⊢
        by_cases h1 : j < off
        · rw [if_neg (by omega), List.append_assoc, List.getElem?_append_left (by simp; omega), List.getElem?_take, if_pos h1]
          exact hX
        · by_cases h2 : j < off + ys.length
          · rw [if_pos (by simp; omega), List.append_assoc, List.getElem?_append_right (by simp; omega), List.getElem?_append_left (by simp; omega)]
            have hq : j - off < ys.toArray.size := by simp; omega
            rw [getElem!_pos ys.toArray (j - off) hq]
            have e : j - (X.take off).length = j - off := by simp; omega
            rw [e, List.getElem?_eq_getElem (by omega)]
            simp
          · rw [if_neg (by simp; omega), List.getElem?_append_right (by simp; omega), List.getElem?_drop]
            have e : off + ys.length + (j - (X.take off ++ ys).length) = j := by simp; omega
            rw [e]
            exact hX
      · rw [if_neg hj, List.getElem?_eq_none (by rw [ints_length, hl]; omega)]
theorem grown_put {w : World} {g off q : Nat} {ys : Array Int} : w.grownBy (putRow (Value.int .i64) (Sort.ahead w q) g off ys) (some g) :=
  ⟨rfl, rfl, rfl, by simp [putRow, mapBlock, Sort.ahead], fun k hk hne => by
    have hgk : g ≠ k := fun e => hne (by rw [e])
    simp [putRow, mapBlock, Sort.ahead, Array.getElem?_modify, hgk]⟩
/-- Compact over a part. -/
theorem compact_part (X : List Int) (base g n cap off m : Nat) (w : World) (h : Own w base (.slice (some ⟨g, 0, none⟩) n cap) X) (ho : off + m ≤ X.length) (hX : X.length < 4611686018427387904) :
    Calls Try.prog 33 #[.slice (some ⟨g, off, none⟩) m m] w fun e w' => e = .returned (.slice (some ⟨g, off, none⟩) (Lib.compact ((X.drop off).take m)).length m) ∧ (∃ X', Own w' base (.slice (some ⟨g, 0, none⟩) n cap) X' ∧ X'.length = X.length ∧ X'.drop (off + m) = X.drop (off + m)) ∧ w.grownBy w' (some g) := by
  have hl : ((X.drop off).take m).length = m := by simp; omega
  have hH := own_part h off m ho
  have hC := Try.slices_Compact_int g off m ((X.drop off).take m) w hH (by omega) (by omega)
  rw [hl] at hC
  refine hC.mono ?_
  rintro e w' ⟨rfl, q, rfl⟩
  have hle := Lib.compact_length_le ((X.drop off).take m)
  rw [hl] at hle
  refine ⟨rfl, ⟨_, put_part h off (by simp; omega), by simp; omega, ?_⟩, grown_put⟩
  have e : (Lib.compact ((X.drop off).take m) ++ List.replicate (m - (Lib.compact ((X.drop off).take m)).length) (0 : Int)).length = m := by simp; omega
  rw [e, List.drop_append, List.drop_eq_nil_of_le (by simp; omega), List.nil_append]
  have e2 : (X.take off ++ (Lib.compact ((X.drop off).take m) ++ List.replicate (m - (Lib.compact ((X.drop off).take m)).length) (0 : Int))).length = off + m := by
    rw [List.length_append, e, List.length_take]; omega
  rw [e2, Nat.sub_self, List.drop_zero]
end Ss
end Go.Proofs.Ytmkilmglmeohmaa
