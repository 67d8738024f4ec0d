/- The program's Of, the document's Of and All. Conditions: those that each theorem names. -/
import Derived.Test.YtioidkbpjkcjeaaIdG
namespace Go.Proofs.Ytioidkbpjkcjeaa
set_option linter.unusedVariables false
open Go Go.RowKit Ids
namespace Ids
open Classical in
noncomputable def ofL (L : List Int) : List Int := if okB (setL L) then setL L else []
theorem ofL_yes {L : List Int} (h : okB (setL L)) : ofL L = setL L := by unfold ofL; rw [if_pos h]
theorem ofL_no {L : List Int} (h : ¬ okB (setL L)) : ofL L = [] := by unfold ofL; rw [if_neg h]
theorem ofL_length (L : List Int) : (ofL L).length ≤ L.length := by
  by_cases h : okB (setL L)
  · rw [ofL_yes h]; exact setL_length L
  · rw [ofL_no h]; simp
theorem okB_set {L : List Int} : okB (setL L) ↔ ∀ x ∈ L, 1 ≤ x ∧ x ≤ 4503599627370496 := by
  constructor
  · intro h x hx
    exact h.2 x (mem_setL.mpr hx)
  · intro h
    exact ⟨ris_setL L, fun x hx => h x (mem_setL.mp hx)⟩
end Ids
theorem ret2I {x : Value} {k : IntKind} {a b : Int} (h : b = a) : Ending.returned (.tuple #[x, .int k a]) = .returned (.tuple #[x, .int k b]) := by rw [h]
theorem ints_nil (w : World) : IntsAt w (.slice none 0 0) [] := .inl ⟨rfl, none, 0, rfl⟩
theorem wh_is (a b : List Int) (x : Int) : wh a b x = (if hasB (setL a) x then 1 else 0) + (if hasB (setL b) x then 2 else 0) := by simp [wh, hasB, mem_setL]
end Go.Proofs.Ytioidkbpjkcjeaa
