/- A point in memory, as one predicate; payload's Encode of it. Conditions: those that each theorem names. -/
import Derived.Test.YtfppemgagifmpaaDoorPlAw
namespace Go.Proofs.YtfppemgagifmpaaDoor
set_option linter.unusedVariables false
open Go Go.RowKit Go.Shelf Pl
/-- A point in memory. -/
def PtIn (w : World) (p : Value) (a : Pt) : Prop :=
  ∃ u x, p = .agg #[.int .i64 a.id, u, x] ∧ VecsAt w u a.vecs ∧ FldsAt w x a.flds ∧ VecsOk a.vecs ∧ FldsOk a.flds
theorem PtIn.below {w w' : World} {p : Value} {a : Pt} (h : PtIn w p a) (g : Below w.heap.size w w') : PtIn w' p a := by
  obtain ⟨u, x, rfl, h1, h2, h3, h4⟩ := h
  exact ⟨u, x, rfl, h1.below g, h2.below g, h3, h4⟩
def EncV (a : Pt) : Value := if ptMay a then .tuple #[.string ⟨(bPt a).toArray⟩, .int .i64 0] else notMay
theorem enc_in (W : World) (G : Gp W) (p : Value) (a : Pt) (h : PtIn W p a) :
    Calls Tryd.prog 12 #[p] W fun e w' => e = .returned (EncV a) ∧ Below W.heap.size W w' := by
  obtain ⟨u, x, rfl, h1, h2, h3, h4⟩ := h
  unfold EncV
  cases hm : ptMay a
  · rw [if_neg (by simp)]; exact encode_no a.id u x a.vecs a.flds W G h1 h2 h3 h4 hm
  · rw [if_pos rfl]; exact encode_yes a.id u x a.vecs a.flds W G h1 h2 h3 h4 hm
end Go.Proofs.YtfppemgagifmpaaDoor
