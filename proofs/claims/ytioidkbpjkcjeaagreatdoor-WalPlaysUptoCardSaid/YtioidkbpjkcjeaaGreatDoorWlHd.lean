/- What the variable of package errors holds, out of what a row lists. Conditions: none but those that each theorem names. -/
import Derived.Test.YtioidkbpjkcjeaaGreatDoorCards
import Derived.Test.YtioidkbpjkcjeaaGreatDoorProg
import Derived.WalkKit
import Derived.RowKit
import Derived.RowKitTokens
import Derived.LaidLaws
import Derived.LaidHandle
import Derived.Stop.Joined
import Derived.Below
namespace Go.Proofs.YtioidkbpjkcjeaaGreatDoor
set_option linter.unusedVariables false
open Go Go.RowKit
/-- Where the model's handles of types lie: behind the variables. -/
noncomputable def hG : Nat := Tryz.prog.globals.size
noncomputable def hdV : Value := .iface 180 (.agg #[.pointer (some ⟨hG, 96, none⟩)])
/-- The variable holds what its text lays. -/
def Hd (w : World) : Prop := w.cell? ⟨0, 0, none⟩ = some hdV
theorem Hd.lt {w : World} (h : Hd w) : 0 < w.heap.size := by
  rcases Nat.lt_or_ge 0 w.heap.size with c | c
  · exact c
  · unfold Hd at h; simp [World.cell?, Array.getElem?_eq_none c] at h
theorem Hd.kept {w w' : World} (h : Hd w) (hb : w'.heap[0]? = w.heap[0]?) : Hd w' := by
  unfold Hd at h ⊢
  rw [← h]
  simp [World.cell?, hb]
theorem Hd.below {w w' : World} (h : Hd w) (g : Below w.heap.size w w') : Hd w' := h.kept (g.block _ h.lt)
theorem Tryz.et : Tryz.prog.globalNamed "errors.errorType" = some 0 := by kernel_rfl
theorem Tryz.rt : (Tryz.prog.cutTypes.find? (·.1 == "internal/reflectlite.rtype")).map (·.2) = some 180 := by kernel_rfl
theorem Tryz.oneRow : ((List.range Tryz.prog.types.size).filter fun t => Tryz.prog.rowNamed t [101, 114, 114, 111, 114]) = [96] := by kernel_rfl
/-- What the condition gives a walk: the variable's one cell. -/
theorem hd_of {W : World} (h : laidMetH Tryz.prog [("errors.errorType", Rows.laid_errors_errorType)] W) : Hd W := by
  have h' : laidMet Tryz.prog [] W ∧ handlesMet Tryz.prog [("errors.errorType", Rows.laid_errors_errorType)] W := h
  obtain ⟨name, u, ty, e1, e2, e3, e4, e5⟩ := h'.2 _ (List.mem_singleton.2 rfl)
  have en : name = [101, 114, 114, 111, 114] := (Option.some.inj e1).symm
  subst en
  obtain rfl := Option.some.inj (Tryz.rt.symm.trans e2)
  have hm : ty ∈ (List.range Tryz.prog.types.size).filter fun t => Tryz.prog.rowNamed t [101, 114, 114, 111, 114] := List.mem_filter.2 ⟨List.mem_range.2 e3, e4⟩
  rw [Tryz.oneRow] at hm
  obtain rfl := List.mem_singleton.1 hm
  have hh : typeHandle Tryz.prog 96 = .pointer (some ⟨hG, 96, none⟩) := by kernel_rfl
  rw [hh] at e5
  exact World.var?_cell Tryz.et e5 0
end Go.Proofs.YtioidkbpjkcjeaaGreatDoor
