/- The value of a name: the document's own Get. Conditions: those that each theorem names. -/
import Derived.Test.YtfppemgagifmpaaDoorPlAw
namespace Go.Proofs.YtfppemgagifmpaaDoor
set_option linter.unusedVariables false
open Go Go.RowKit Go.Shelf Pl
/-- The first field of a name. -/
def getL (L : List Fld) (s : Nm) : Option Val := (L.find? fun x => x.name.toList == s.toList).map fun x => x.val
theorem getL_hit {L : List Fld} {k : Nat} {x : Fld} {s : Nm} (hx : L[k]? = some x) (e : (x.name.toList == s.toList) = true) : getL (L.drop k) s = some x.val := by
  have hk : k < L.length := (List.getElem?_eq_some_iff.1 hx).1
  have e2 := (List.getElem?_eq_some_iff.1 hx).2
  unfold getL
  rw [List.drop_eq_getElem_cons hk, e2, List.find?_cons_of_pos (p := fun x : Fld => x.name.toList == s.toList) e]
  rfl
theorem getL_miss {L : List Fld} {k : Nat} {x : Fld} {s : Nm} (hx : L[k]? = some x) (e : (x.name.toList == s.toList) = false) : getL (L.drop k) s = getL (L.drop (k + 1)) s := by
  have hk : k < L.length := (List.getElem?_eq_some_iff.1 hx).1
  have e2 := (List.getElem?_eq_some_iff.1 hx).2
  unfold getL
  rw [List.drop_eq_getElem_cons hk, e2, List.find?_cons_of_neg (p := fun x : Fld => x.name.toList == s.toList) (by simp [e])]
def gotV : Option Val → Value
  | none => .tuple #[.agg #[.int .i64 0, .int .i64 0, .string ⟨#[]⟩], .bool false]
  | some v => .tuple #[.agg #[.int .i64 v.kind, .int .i64 v.n, .string v.text], .bool true]
end Go.Proofs.YtfppemgagifmpaaDoor
