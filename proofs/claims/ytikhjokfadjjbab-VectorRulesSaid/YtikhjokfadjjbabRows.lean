/-
  No cell of these rows narrows 'for every input' (looked for: loops, veiled, ifaces, maps, wideKeys, modest, calm, conditions, laid).
  DERIVED. THE GIVEN ROWS OF THIS SEAT. 4 by the template 'for every input the law returns true; each argument reads behind the call as it read before'; 0 by the template 'total and deterministic' (their statements: YtikhjokfadjjbabTotals.lean).
  GIVEN WITH THE SEED: the statements are not yours to turn. If you find one false, say at which input.
  Laid BY PROGRAM, IN A SANDBOX (cutbox-rows.mjs): the forced cells as the released guide's own fill.sh prints them over the translation f215ba44d7366dcb… (all of the seat's roots in one cut). By AI agents, Wed Nov 11 2026. No macro, syntax, notation, axiom, sorry.
-/
import Derived.Test.YtikhjokfadjjbabChecked
import GoSem.Claim
import GoSem.ClaimJoined
import GoSem.ClaimMapViews
import Derived.JoinedTies
import Derived.KernelRfl
namespace Go.Proofs.Ytikhjokfadjjbab
/- THE CELL 'sum', in the pinned program and in every row, IS THE sha256 OF THE DUMP (.gsa) THAT YtikhjokfadjjbabProg.lean LOADS. Nothing in Lean hashes anything: it is a label: what it is worth is what the hold of that sum in a sandbox is worth. -/
noncomputable def Try.pinned : Pinned := { name := "ytikhjokfadjjbab", sum := "f215ba44d7366dcbf3561e910f2c39ef5005f559dca43571dd7ff2b59a754d15", checked := Try.checked }
namespace Rows
def none {H : Type} : Left H := { results := [], args := [] }

/-- 'lodestarlaw06.VectorChecks': WHATEVER THE INPUT: true; the input reads as it did. -/
def vectorChecksSpec : ChangeSpec := { name := "vectorChecks", fn := fun _ => fun
  | [d1, d2, d3] => { results := [.lit (.bool true)], args := [d1, d2, d3] }
  | _ => none }
def vectorChecksRow : OpenClaim := { program := "ytikhjokfadjjbab", sum := "f215ba44d7366dcbf3561e910f2c39ef5005f559dca43571dd7ff2b59a754d15", func := "lodestar/lodestarlaw06.VectorChecks", spec := "vectorChecks", apart := false }
def VectorChecksSaid : Prop := vectorChecksRow.holds Try.pinned (OpenSpec.ofChange vectorChecksSpec)

/-- ITS FALSE NEIGHBOUR: 'it returns false'. Refute it at one input. -/
def vectorChecksWrong : ChangeSpec := { name := "vectorChecks", fn := fun _ => fun
  | [d1, d2, d3] => { results := [.lit (.bool false)], args := [d1, d2, d3] }
  | _ => none }
def VectorChecksWrongFalsely : Prop := vectorChecksRow.holds Try.pinned (OpenSpec.ofChange vectorChecksWrong)

/-- 'lodestarlaw06.VectorScores': WHATEVER THE INPUT: true; the input reads as it did. -/
def vectorScoresSpec : ChangeSpec := { name := "vectorScores", fn := fun _ => fun
  | [d1, d2, d3] => { results := [.lit (.bool true)], args := [d1, d2, d3] }
  | _ => none }
def vectorScoresRow : OpenClaim := { program := "ytikhjokfadjjbab", sum := "f215ba44d7366dcbf3561e910f2c39ef5005f559dca43571dd7ff2b59a754d15", func := "lodestar/lodestarlaw06.VectorScores", spec := "vectorScores", apart := false }
def VectorScoresSaid : Prop := vectorScoresRow.holds Try.pinned (OpenSpec.ofChange vectorScoresSpec)

/-- ITS FALSE NEIGHBOUR: 'it returns false'. Refute it at one input. -/
def vectorScoresWrong : ChangeSpec := { name := "vectorScores", fn := fun _ => fun
  | [d1, d2, d3] => { results := [.lit (.bool false)], args := [d1, d2, d3] }
  | _ => none }
def VectorScoresWrongFalsely : Prop := vectorScoresRow.holds Try.pinned (OpenSpec.ofChange vectorScoresWrong)

/-- 'lodestarlaw06.VectorRules': WHATEVER THE INPUT: true; the input reads as it did. -/
def vectorRulesSpec : ChangeSpec := { name := "vectorRules", fn := fun _ => fun
  | [d1, d2, d3] => { results := [.lit (.bool true)], args := [d1, d2, d3] }
  | _ => none }
def vectorRulesRow : OpenClaim := { program := "ytikhjokfadjjbab", sum := "f215ba44d7366dcbf3561e910f2c39ef5005f559dca43571dd7ff2b59a754d15", func := "lodestar/lodestarlaw06.VectorRules", spec := "vectorRules", apart := false }
def VectorRulesSaid : Prop := vectorRulesRow.holds Try.pinned (OpenSpec.ofChange vectorRulesSpec)

/-- ITS FALSE NEIGHBOUR: 'it returns false'. Refute it at one input. -/
def vectorRulesWrong : ChangeSpec := { name := "vectorRules", fn := fun _ => fun
  | [d1, d2, d3] => { results := [.lit (.bool false)], args := [d1, d2, d3] }
  | _ => none }
def VectorRulesWrongFalsely : Prop := vectorRulesRow.holds Try.pinned (OpenSpec.ofChange vectorRulesWrong)

/-- 'lodestarlaw06.VectorTriangle': WHATEVER THE INPUT: true; the input reads as it did. -/
def vectorTriangleSpec : ChangeSpec := { name := "vectorTriangle", fn := fun _ => fun
  | [d1, d2, d3] => { results := [.lit (.bool true)], args := [d1, d2, d3] }
  | _ => none }
def vectorTriangleRow : OpenClaim := { program := "ytikhjokfadjjbab", sum := "f215ba44d7366dcbf3561e910f2c39ef5005f559dca43571dd7ff2b59a754d15", func := "lodestar/lodestarlaw06.VectorTriangle", spec := "vectorTriangle", apart := false }
def VectorTriangleSaid : Prop := vectorTriangleRow.holds Try.pinned (OpenSpec.ofChange vectorTriangleSpec)

/-- ITS FALSE NEIGHBOUR: 'it returns false'. Refute it at one input. -/
def vectorTriangleWrong : ChangeSpec := { name := "vectorTriangle", fn := fun _ => fun
  | [d1, d2, d3] => { results := [.lit (.bool false)], args := [d1, d2, d3] }
  | _ => none }
def VectorTriangleWrongFalsely : Prop := vectorTriangleRow.holds Try.pinned (OpenSpec.ofChange vectorTriangleWrong)

/- THE SECOND FORM. 'bulk': how many values and letters a reading holds, each counted each time it is reached (what is shared counts as often as it is met; a slice's spare places count too). A statement '..UptoSaid' is the law's where the arguments, and the package variables that the reading takes, are together of bulk at most 1048576: NARROWER than '..Said'. Prove '..Said' where nothing that the law and all that it calls make is longer than what came in: it says more and counts as full. Else prove '..UptoSaid'. A law counts once. -/
mutual
def uptoBulk {H : Type} : DataW H → Nat
  | .lit (.string bytes) => bytes.length + 1
  | .lit _ => 1
  | .nil => 1
  | .ptr d => uptoBulk d + 1
  | .slice elems spare => uptoBulkAll elems + uptoBulkAll spare + 1
  | .agg parts => uptoBulkAll parts + 1
  | .iface _ d => uptoBulk d + 1
  | .map entries => uptoBulkEntries entries + 1
  | .held _ => 1
def uptoBulkAll {H : Type} : List (DataW H) → Nat
  | [] => 0
  | d :: r => uptoBulk d + uptoBulkAll r
def uptoBulkEntries {H : Type} : List (Lit × DataW H) → Nat
  | [] => 0
  | x :: r => uptoBulkEntry x + uptoBulkEntries r
def uptoBulkEntry {H : Type} : Lit × DataW H → Nat
  | (.string bytes, d) => bytes.length + uptoBulk d + 1
  | (_, d) => uptoBulk d + 1
 end
def uptoSmall : (H : Type) → List (DataW H) → Bool := fun _ ds => decide (uptoBulkAll ds ≤ 1048576)
def OpenSpec.upto (s : _root_.Go.ChangeSpec) : _root_.Go.OpenSpec := { _root_.Go.OpenSpec.ofChange s with cond := some uptoSmall }

/-- 'lodestarlaw06.VectorChecks', WHERE WHAT IT READS IS OF BULK AT MOST 1048576: true; the input reads as it did. -/
def vectorChecksUptoRow : OpenClaim := { program := "ytikhjokfadjjbab", sum := "f215ba44d7366dcbf3561e910f2c39ef5005f559dca43571dd7ff2b59a754d15", func := "lodestar/lodestarlaw06.VectorChecks", spec := "vectorChecks", apart := false, narrowed := true }
def VectorChecksUptoSaid : Prop := vectorChecksUptoRow.holds Try.pinned (OpenSpec.upto vectorChecksSpec)

/-- 'lodestarlaw06.VectorScores', WHERE WHAT IT READS IS OF BULK AT MOST 1048576: true; the input reads as it did. -/
def vectorScoresUptoRow : OpenClaim := { program := "ytikhjokfadjjbab", sum := "f215ba44d7366dcbf3561e910f2c39ef5005f559dca43571dd7ff2b59a754d15", func := "lodestar/lodestarlaw06.VectorScores", spec := "vectorScores", apart := false, narrowed := true }
def VectorScoresUptoSaid : Prop := vectorScoresUptoRow.holds Try.pinned (OpenSpec.upto vectorScoresSpec)

/-- 'lodestarlaw06.VectorRules', WHERE WHAT IT READS IS OF BULK AT MOST 1048576: true; the input reads as it did. -/
def vectorRulesUptoRow : OpenClaim := { program := "ytikhjokfadjjbab", sum := "f215ba44d7366dcbf3561e910f2c39ef5005f559dca43571dd7ff2b59a754d15", func := "lodestar/lodestarlaw06.VectorRules", spec := "vectorRules", apart := false, narrowed := true }
def VectorRulesUptoSaid : Prop := vectorRulesUptoRow.holds Try.pinned (OpenSpec.upto vectorRulesSpec)

/-- 'lodestarlaw06.VectorTriangle', WHERE WHAT IT READS IS OF BULK AT MOST 1048576: true; the input reads as it did. -/
def vectorTriangleUptoRow : OpenClaim := { program := "ytikhjokfadjjbab", sum := "f215ba44d7366dcbf3561e910f2c39ef5005f559dca43571dd7ff2b59a754d15", func := "lodestar/lodestarlaw06.VectorTriangle", spec := "vectorTriangle", apart := false, narrowed := true }
def VectorTriangleUptoSaid : Prop := vectorTriangleUptoRow.holds Try.pinned (OpenSpec.upto vectorTriangleSpec)

end Rows
end Go.Proofs.Ytikhjokfadjjbab
