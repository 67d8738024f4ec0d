/- The document's own Put: a number more in a rising row of one's own. Conditions: those that each theorem names. -/
import Derived.Test.YtioidkbpjkcjeaaIdE
import Derived.Laws.CopyOwn
import Derived.StillTailTactics
namespace Go.Proofs.Ytioidkbpjkcjeaa
set_option linter.unusedVariables false
open Go Go.RowKit Ids
/-- A slice of one number, new. -/
theorem one_int (w : World) (x : Int) : IntsAt (w.alloc (.cells #[.int .i64 x] 3)) (.slice (some ⟨w.heap.size, 0, none⟩) 1 1) [x] := new_ints w [x] 1 rfl
/-- An own row laid over from place k + 1 on with what stood from k on. -/
theorem own_splice {w' : World} {base g cap : Nat} {M cs : List Int} {cur : Array Value} (off : Nat) (hg : base ≤ g) (h1 : M.length ≤ cap) (h2 : cap ≤ maxLen) (h3 : cur.size = cap) (h4 : cur.toList.take M.length = ints M)
    (hoff : off + cs.length = M.length) (hw : w'.heap[g]? = some (.cells (splice cur.toList off (ints cs)).toArray 3 (0, 0))) :
    Own w' base (.slice (some ⟨g, 0, none⟩) M.length cap) (M.take off ++ cs) := by
  have hlen : (M.take off ++ cs).length = M.length := by simp; omega
  have hcur : cur.toList.take off = ints (M.take off) := by
    have e : (cur.toList.take M.length).take off = (ints M).take off := by rw [h4]
    rw [List.take_take, Nat.min_eq_left (by omega)] at e
    rw [e]; simp [ints]
  have hl : (ints cs).length = cs.length := ints_length cs
  refine ⟨by rw [ints_length, Nat.mul_one], .inr ⟨g, cap, _, by rw [hlen], hg, hw, by rw [hlen]; exact h1, h2, ?_, ?_⟩⟩
  · have := length_splice cur.toList off (ints cs) (by have e := Array.length_toList (xs := cur); omega)
    simp only [List.size_toArray, this, Array.length_toList, Nat.mul_one]; exact h3
  · rw [hlen, Nat.mul_one]
    have e : (splice cur.toList off (ints cs)).toArray.toList = (cur.toList.take off ++ ints cs) ++ cur.toList.drop (off + (ints cs).length) := by simp [splice]
    rw [e, hcur, List.take_append_of_le_length (by simp [ints]; omega), List.take_of_length_le (by simp [ints]; omega)]
    simp [ints]
theorem put_set (L : List Int) (n : Int) (k : Nat) (hk : k ≤ L.length) : (((L ++ [0]).take (k + 1)) ++ L.drop k).set k n = L.take k ++ n :: L.drop k := by
  have e : (L ++ [0]).take (k + 1) = L.take k ++ [(L ++ [0])[k]'(by simp; omega)] := by
    rw [List.take_succ_eq_append_getElem (by simp; omega), List.take_append_of_le_length hk]
  rw [e, List.append_assoc, List.set_append_right _ _ (by simp; omega)]
  simp [Nat.min_eq_left hk]
theorem put_done {w4 : World} {base g cap lo K : Nat} {L : List Int} {n : Int} {cur : Array Value} (hgb : base ≤ g) (h : (L ++ [0]).length ≤ cap ∧ cap ≤ maxLen ∧ cur.size = cap ∧ cur.toList.take (L ++ [0]).length = ints (L ++ [0])) (hK : K = lo + 1) (hlo : lo ≤ L.length)
    (hg : w4.heap[g]? = some (.cells (splice cur.toList K (ints (L.drop lo))).toArray 3 (0, 0))) :
    ∃ y : Int, w4.cell? ⟨g, lo, none⟩ = some (.int .i64 y) ∧ w4.frozen? ⟨g, lo, none⟩ = false ∧ Own (w4.setCell ⟨g, lo, none⟩ (.int .i64 n)) base (.slice (some ⟨g, 0, none⟩) (L.length + 1) cap) (L.take lo ++ n :: L.drop lo) := by
  obtain ⟨h1, h2, h3, h4⟩ := h
  subst hK
  have O := own_splice (M := L ++ [0]) (cs := L.drop lo) (lo + 1) hgb h1 h2 h3 h4 (by simp; omega) hg
  have hx : ((L ++ [0]).take (lo + 1) ++ L.drop lo)[lo]? = some ((L ++ [0])[lo]'(by simp; omega)) := by
    rw [List.getElem?_append_left (by simp; omega), List.getElem?_take_of_lt (by omega), List.getElem?_eq_getElem]
  obtain ⟨c, f, s⟩ := own_cell O lo _ hx
  have s' := s n
  rw [put_set L n lo hlo] at s'
  rw [List.length_append] at s'
  exact ⟨_, c, f, s'⟩
end Go.Proofs.Ytioidkbpjkcjeaa
