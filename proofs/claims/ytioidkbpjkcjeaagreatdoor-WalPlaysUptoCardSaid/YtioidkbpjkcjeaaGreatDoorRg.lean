/- A region that draws its order, whose own operations only read, and whose callees keep a class of worlds: walked once, in the order of the text. Conditions: those that each theorem names. -/
import Derived.BigQuiet
namespace Go.Proofs.YtioidkbpjkcjeaaGreatDoor
open Go
theorem wp_region_kept {P : Program} {C : World → Prop} {id : Nat} {Q : Exit → Act → World → Prop} {a : Act} {w : World} {l : List Oper} (hm : P.follows .mixedOrders = true) (hB : Region.lexB .any l.toArray = true) (hC : C w.drew)
    (h : wpQuiet P l.toArray C (fun a' => ∀ w', C w' → Q .normal a' w') l a) : (Code.region id l.toArray true).wp P Q a w :=
  wp_region_quiet (C := C) hm hB hC (by simpa using h)
end Go.Proofs.YtioidkbpjkcjeaaGreatDoor
