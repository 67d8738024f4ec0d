/-
  No cell of these rows narrows 'for every input' (looked for: loops, veiled, ifaces, maps, wideKeys, modest, calm, conditions, laid).
  DERIVED. THE GIVEN ROWS OF THIS SEAT. 4 by the template 'for every input the law returns true; each argument reads behind the call as it read before'; 0 by the template 'total and deterministic' (their statements: YtfgmkdghpdpdkaaTotals.lean).
  GIVEN WITH THE SEED: the statements are not yours to turn. If you find one false, say at which input.
  Laid BY PROGRAM, IN A SANDBOX (cutbox-rows.mjs): the forced cells as the released guide's own fill.sh prints them over the translation fdff4087871dd30e… (all of the seat's roots in one cut). By AI agents, Wed Nov 11 2026. No macro, syntax, notation, axiom, sorry.
-/
import Derived.Test.YtfgmkdghpdpdkaaChecked
import GoSem.Claim
import GoSem.ClaimJoined
import GoSem.ClaimMapViews
import Derived.JoinedTies
import Derived.KernelRfl
namespace Go.Proofs.Ytfgmkdghpdpdkaa
/- THE CELL 'sum', in the pinned program and in every row, IS THE sha256 OF THE DUMP (.gsa) THAT YtfgmkdghpdpdkaaProg.lean LOADS. Nothing in Lean hashes anything: it is a label: what it is worth is what the hold of that sum in a sandbox is worth. -/
noncomputable def Try.pinned : Pinned := { name := "ytfgmkdghpdpdkaa", sum := "fdff4087871dd30e9b4d4a1cf32edf0d1c04a46e47da8d579d13573fc31762ac", checked := Try.checked }
namespace Rows
def none {H : Type} : Left H := { results := [], args := [] }

/-- 'lodestarlaw17.ScalarTrains': WHATEVER THE INPUT: true; the input reads as it did. -/
def scalarTrainsSpec : ChangeSpec := { name := "scalarTrains", fn := fun _ => fun
  | [d] => { results := [.lit (.bool true)], args := [d] }
  | _ => none }
def scalarTrainsRow : OpenClaim := { program := "ytfgmkdghpdpdkaa", sum := "fdff4087871dd30e9b4d4a1cf32edf0d1c04a46e47da8d579d13573fc31762ac", func := "lodestar/lodestarlaw17.ScalarTrains", spec := "scalarTrains", unfollowed := true, recurses := true, apart := false }
def ScalarTrainsSaid : Prop := scalarTrainsRow.holds Try.pinned (OpenSpec.ofChange scalarTrainsSpec)

/-- ITS FALSE NEIGHBOUR: 'it returns false'. Refute it at one input. -/
def scalarTrainsWrong : ChangeSpec := { name := "scalarTrains", fn := fun _ => fun
  | [d] => { results := [.lit (.bool false)], args := [d] }
  | _ => none }
def ScalarTrainsWrongFalsely : Prop := scalarTrainsRow.holds Try.pinned (OpenSpec.ofChange scalarTrainsWrong)

/-- 'lodestarlaw17.ScalarCodes': WHATEVER THE INPUT: true; the input reads as it did. -/
def scalarCodesSpec : ChangeSpec := { name := "scalarCodes", fn := fun _ => fun
  | [d1, d2, d3] => { results := [.lit (.bool true)], args := [d1, d2, d3] }
  | _ => none }
def scalarCodesRow : OpenClaim := { program := "ytfgmkdghpdpdkaa", sum := "fdff4087871dd30e9b4d4a1cf32edf0d1c04a46e47da8d579d13573fc31762ac", func := "lodestar/lodestarlaw17.ScalarCodes", spec := "scalarCodes", unfollowed := true, recurses := true, apart := false }
def ScalarCodesSaid : Prop := scalarCodesRow.holds Try.pinned (OpenSpec.ofChange scalarCodesSpec)

/-- ITS FALSE NEIGHBOUR: 'it returns false'. Refute it at one input. -/
def scalarCodesWrong : ChangeSpec := { name := "scalarCodes", fn := fun _ => fun
  | [d1, d2, d3] => { results := [.lit (.bool false)], args := [d1, d2, d3] }
  | _ => none }
def ScalarCodesWrongFalsely : Prop := scalarCodesRow.holds Try.pinned (OpenSpec.ofChange scalarCodesWrong)

/-- 'lodestarlaw17.ScalarNear': WHATEVER THE INPUT: true; the input reads as it did. -/
def scalarNearSpec : ChangeSpec := { name := "scalarNear", fn := fun _ => fun
  | [d] => { results := [.lit (.bool true)], args := [d] }
  | _ => none }
def scalarNearRow : OpenClaim := { program := "ytfgmkdghpdpdkaa", sum := "fdff4087871dd30e9b4d4a1cf32edf0d1c04a46e47da8d579d13573fc31762ac", func := "lodestar/lodestarlaw17.ScalarNear", spec := "scalarNear", unfollowed := true, recurses := true, apart := false }
def ScalarNearSaid : Prop := scalarNearRow.holds Try.pinned (OpenSpec.ofChange scalarNearSpec)

/-- ITS FALSE NEIGHBOUR: 'it returns false'. Refute it at one input. -/
def scalarNearWrong : ChangeSpec := { name := "scalarNear", fn := fun _ => fun
  | [d] => { results := [.lit (.bool false)], args := [d] }
  | _ => none }
def ScalarNearWrongFalsely : Prop := scalarNearRow.holds Try.pinned (OpenSpec.ofChange scalarNearWrong)

/-- 'lodestarlaw17.ScalarFull': WHATEVER THE INPUT: true; the input reads as it did. -/
def scalarFullSpec : ChangeSpec := { name := "scalarFull", fn := fun _ => fun
  | [d1, d2, d3] => { results := [.lit (.bool true)], args := [d1, d2, d3] }
  | _ => none }
def scalarFullRow : OpenClaim := { program := "ytfgmkdghpdpdkaa", sum := "fdff4087871dd30e9b4d4a1cf32edf0d1c04a46e47da8d579d13573fc31762ac", func := "lodestar/lodestarlaw17.ScalarFull", spec := "scalarFull", unfollowed := true, recurses := true, apart := false }
def ScalarFullSaid : Prop := scalarFullRow.holds Try.pinned (OpenSpec.ofChange scalarFullSpec)

/-- ITS FALSE NEIGHBOUR: 'it returns false'. Refute it at one input. -/
def scalarFullWrong : ChangeSpec := { name := "scalarFull", fn := fun _ => fun
  | [d1, d2, d3] => { results := [.lit (.bool false)], args := [d1, d2, d3] }
  | _ => none }
def ScalarFullWrongFalsely : Prop := scalarFullRow.holds Try.pinned (OpenSpec.ofChange scalarFullWrong)

/- THE SECOND FORM. 'bulk': how many values and letters a reading holds, each counted each time it is reached (what is shared counts as often as it is met; a slice's spare places count too). A statement '..UptoSaid' is the law's where the arguments, and the package variables that the reading takes, are together of bulk at most 1048576: NARROWER than '..Said'. Prove '..Said' where nothing that the law and all that it calls make is longer than what came in: it says more and counts as full. Else prove '..UptoSaid'. A law counts once. -/
mutual
def uptoBulk {H : Type} : DataW H → Nat
  | .lit (.string bytes) => bytes.length + 1
  | .lit _ => 1
  | .nil => 1
  | .ptr d => uptoBulk d + 1
  | .slice elems spare => uptoBulkAll elems + uptoBulkAll spare + 1
  | .agg parts => uptoBulkAll parts + 1
  | .iface _ d => uptoBulk d + 1
  | .map entries => uptoBulkEntries entries + 1
  | .held _ => 1
def uptoBulkAll {H : Type} : List (DataW H) → Nat
  | [] => 0
  | d :: r => uptoBulk d + uptoBulkAll r
def uptoBulkEntries {H : Type} : List (Lit × DataW H) → Nat
  | [] => 0
  | x :: r => uptoBulkEntry x + uptoBulkEntries r
def uptoBulkEntry {H : Type} : Lit × DataW H → Nat
  | (.string bytes, d) => bytes.length + uptoBulk d + 1
  | (_, d) => uptoBulk d + 1
 end
def uptoSmall : (H : Type) → List (DataW H) → Bool := fun _ ds => decide (uptoBulkAll ds ≤ 1048576)
def OpenSpec.upto (s : _root_.Go.ChangeSpec) : _root_.Go.OpenSpec := { _root_.Go.OpenSpec.ofChange s with cond := some uptoSmall }

/-- 'lodestarlaw17.ScalarTrains', WHERE WHAT IT READS IS OF BULK AT MOST 1048576: true; the input reads as it did. -/
def scalarTrainsUptoRow : OpenClaim := { program := "ytfgmkdghpdpdkaa", sum := "fdff4087871dd30e9b4d4a1cf32edf0d1c04a46e47da8d579d13573fc31762ac", func := "lodestar/lodestarlaw17.ScalarTrains", spec := "scalarTrains", unfollowed := true, recurses := true, apart := false, narrowed := true }
def ScalarTrainsUptoSaid : Prop := scalarTrainsUptoRow.holds Try.pinned (OpenSpec.upto scalarTrainsSpec)

/-- 'lodestarlaw17.ScalarCodes', WHERE WHAT IT READS IS OF BULK AT MOST 1048576: true; the input reads as it did. -/
def scalarCodesUptoRow : OpenClaim := { program := "ytfgmkdghpdpdkaa", sum := "fdff4087871dd30e9b4d4a1cf32edf0d1c04a46e47da8d579d13573fc31762ac", func := "lodestar/lodestarlaw17.ScalarCodes", spec := "scalarCodes", unfollowed := true, recurses := true, apart := false, narrowed := true }
def ScalarCodesUptoSaid : Prop := scalarCodesUptoRow.holds Try.pinned (OpenSpec.upto scalarCodesSpec)

/-- 'lodestarlaw17.ScalarNear', WHERE WHAT IT READS IS OF BULK AT MOST 1048576: true; the input reads as it did. -/
def scalarNearUptoRow : OpenClaim := { program := "ytfgmkdghpdpdkaa", sum := "fdff4087871dd30e9b4d4a1cf32edf0d1c04a46e47da8d579d13573fc31762ac", func := "lodestar/lodestarlaw17.ScalarNear", spec := "scalarNear", unfollowed := true, recurses := true, apart := false, narrowed := true }
def ScalarNearUptoSaid : Prop := scalarNearUptoRow.holds Try.pinned (OpenSpec.upto scalarNearSpec)

/-- 'lodestarlaw17.ScalarFull', WHERE WHAT IT READS IS OF BULK AT MOST 1048576: true; the input reads as it did. -/
def scalarFullUptoRow : OpenClaim := { program := "ytfgmkdghpdpdkaa", sum := "fdff4087871dd30e9b4d4a1cf32edf0d1c04a46e47da8d579d13573fc31762ac", func := "lodestar/lodestarlaw17.ScalarFull", spec := "scalarFull", unfollowed := true, recurses := true, apart := false, narrowed := true }
def ScalarFullUptoSaid : Prop := scalarFullUptoRow.holds Try.pinned (OpenSpec.upto scalarFullSpec)

end Rows
end Go.Proofs.Ytfgmkdghpdpdkaa
