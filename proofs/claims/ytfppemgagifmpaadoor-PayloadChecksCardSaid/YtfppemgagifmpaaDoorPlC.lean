/- The order of values: payload's Compare, the document's own. Conditions: those that each theorem names. -/
import Derived.Test.YtfppemgagifmpaaDoorPlAw
namespace Go.Proofs.YtfppemgagifmpaaDoor
set_option linter.unusedVariables false
open Go Go.RowKit Go.Shelf Pl
def lessT (a b : Nm) : Bool := Op.bytesLess a.toList b.toList
def eqT (a b : Nm) : Bool := a.toList == b.toList
def cmpV (a b : Val) : Int := if a.kind < b.kind then -1 else if b.kind < a.kind then 1 else if a.n < b.n then -1 else if b.n < a.n then 1 else if lessT a.text b.text = true then -1 else if eqT a.text b.text = true then 0 else 1
def orL : List Int → Int
  | [] => 0
  | x :: r => if x = 0 then orL r else x
theorem orL_at {L : List Int} {k : Nat} {n : Int} (h : L[k]? = some n) : orL (L.drop k) = if n = 0 then orL (L.drop (k + 1)) else n := by
  have hk : k < L.length := (List.getElem?_eq_some_iff.1 h).1
  have e := (List.getElem?_eq_some_iff.1 h).2
  rw [List.drop_eq_getElem_cons hk, e]
  rfl
end Go.Proofs.YtfppemgagifmpaaDoor
