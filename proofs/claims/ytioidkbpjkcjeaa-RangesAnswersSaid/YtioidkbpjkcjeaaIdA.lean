/- The checks of lists of ids, the program's and the document's; whether a number stands in a row; rows compared; copies. Conditions: those that each theorem names. -/
import Derived.Test.YtioidkbpjkcjeaaRowI
import Derived.Test.YtioidkbpjkcjeaaIdBy
namespace Go.Proofs.Ytioidkbpjkcjeaa
set_option linter.unusedVariables false
open Go Go.RowKit Ids
namespace Ids
def lastL (L : List Int) : Int := L.getLast?.getD 0
theorem take_snoc {L : List Int} {k : Nat} {x : Int} (h : L[k]? = some x) : L.take (k + 1) = L.take k ++ [x] := by rw [List.take_add_one, h]; rfl
theorem lastL_take {L : List Int} {k : Nat} {x : Int} (h : L[k]? = some x) : lastL (L.take (k + 1)) = x := by rw [take_snoc h]; simp [lastL]
theorem lastL_mem {L : List Int} (h : L ≠ []) : lastL L ∈ L := by
  unfold lastL
  rw [List.getLast?_eq_some_getLast h]
  exact List.getLast_mem h
theorem ris_lastL : ∀ {L : List Int}, Ris L → ∀ x ∈ L, x ≤ lastL L := by
  intro L h x hx
  obtain ⟨j, hj, rfl⟩ := List.getElem_of_mem hx
  have hne : L ≠ [] := by intro e; subst e; simp at hj
  unfold lastL
  rw [List.getLast?_eq_some_getLast hne, List.getLast_eq_getElem]
  simp only [Option.getD_some]
  rcases Nat.lt_or_ge j (L.length - 1) with c | c
  · have := List.pairwise_iff_getElem.mp h j (L.length - 1) hj (by omega) c
    omega
  · have : j = L.length - 1 := by omega
    subst this
    exact Int.le_refl _
theorem okB_snoc {A : List Int} {x : Int} : okB (A ++ [x]) ↔ okB A ∧ lastL A < x ∧ x ≤ 4503599627370496 := by
  constructor
  · rintro ⟨h1, h2⟩
    obtain ⟨h3, _, h4⟩ := List.pairwise_append.mp h1
    have hx := h2 x (by simp)
    refine ⟨⟨h3, fun y hy => h2 y (by simp [hy])⟩, ?_, hx.2⟩
    by_cases he : A = []
    · subst he; simp [lastL]; omega
    · exact h4 _ (lastL_mem he) x (by simp)
  · rintro ⟨⟨h1, h2⟩, h3, h4⟩
    refine ⟨List.pairwise_append.mpr ⟨h1, List.pairwise_singleton _ _, fun y hy z hz => ?_⟩, fun y hy => ?_⟩
    · obtain rfl : z = x := by simpa using hz
      have := ris_lastL h1 y hy
      omega
    · rcases List.mem_append.mp hy with c | c
      · exact h2 y c
      · obtain rfl : y = x := by simpa using c
        refine ⟨?_, h4⟩
        by_cases he : A = []
        · subst he; simp [lastL] at h3; omega
        · have := (h2 _ (lastL_mem he)).1; omega
theorem okB_take {L : List Int} (k : Nat) (h : okB L) : okB (L.take k) := ⟨h.1.sublist (List.take_sublist _ _), fun x hx => h.2 x (List.mem_of_mem_take hx)⟩
theorem okB_next {L : List Int} {k : Nat} {x : Int} (h : L[k]? = some x) (hk : okB (L.take k)) (h1 : lastL (L.take k) < x) (h2 : x ≤ 4503599627370496) : okB (L.take (k + 1)) := by
  rw [take_snoc h]; exact okB_snoc.mpr ⟨hk, h1, h2⟩
theorem okB_no {L : List Int} {k : Nat} {x : Int} (h : L[k]? = some x) (hx : ¬ (lastL (L.take k) < x ∧ x ≤ 4503599627370496)) : ¬ okB L := fun c => by
  have := okB_take (k + 1) c
  rw [take_snoc h] at this
  exact hx (okB_snoc.mp this).2
open Classical in
noncomputable def chkE (L : List Int) : Int := if okB L then 0 else 80
theorem chkE_yes {L : List Int} (h : okB L) : chkE L = 0 := by unfold chkE; rw [if_pos h]
theorem chkE_no {L : List Int} (h : ¬ okB L) : chkE L = 80 := by unfold chkE; rw [if_neg h]
theorem okB_nil : okB [] := ⟨ris_nil, by simp⟩
end Ids
theorem retI {k : IntKind} {a b : Int} (h : b = a) : Ending.returned (.int k a) = .returned (.int k b) := by rw [h]
theorem retB {a b : Bool} (h : b = a) : Ending.returned (.bool a) = .returned (.bool b) := by rw [h]
def hasB (L : List Int) (n : Int) : Bool := L.contains n
end Go.Proofs.Ytioidkbpjkcjeaa
