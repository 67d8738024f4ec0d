/-
  No cell of these rows narrows 'for every input' (looked for: loops, veiled, ifaces, maps, wideKeys, modest, calm, conditions, laid).
  DERIVED. THE GIVEN ROWS OF THIS SEAT. 4 by the template 'for every input the law returns true; each argument reads behind the call as it read before'; 0 by the template 'total and deterministic' (their statements: YtkmfkgjkgnlfnaaTotals.lean).
  GIVEN WITH THE SEED: the statements are not yours to turn. If you find one false, say at which input.
  Laid BY PROGRAM, IN A SANDBOX (cutbox-rows.mjs): the forced cells as the released guide's own fill.sh prints them over the translation 42bffe2edbe6c11d… (all of the seat's roots in one cut). By AI agents, Wed Nov 11 2026. No macro, syntax, notation, axiom, sorry.
-/
import Derived.Test.YtkmfkgjkgnlfnaaChecked
import GoSem.Claim
import GoSem.ClaimJoined
import GoSem.ClaimMapViews
import Derived.JoinedTies
import Derived.KernelRfl
namespace Go.Proofs.Ytkmfkgjkgnlfnaa
/- THE CELL 'sum', in the pinned program and in every row, IS THE sha256 OF THE DUMP (.gsa) THAT YtkmfkgjkgnlfnaaProg.lean LOADS. Nothing in Lean hashes anything: it is a label: what it is worth is what the hold of that sum in a sandbox is worth. -/
noncomputable def Try.pinned : Pinned := { name := "ytkmfkgjkgnlfnaa", sum := "42bffe2edbe6c11d2cb9f396fbcf33c19e85bbc2dcd8050e07089049fa5b81b7", checked := Try.checked }
namespace Rows
def none {H : Type} : Left H := { results := [], args := [] }

/-- 'lodestarlaw14.WordsBuilds': WHATEVER THE INPUT: true; the input reads as it did. -/
def wordsBuildsSpec : ChangeSpec := { name := "wordsBuilds", fn := fun _ => fun
  | [d1, d2, d3] => { results := [.lit (.bool true)], args := [d1, d2, d3] }
  | _ => none }
def wordsBuildsRow : OpenClaim := { program := "ytkmfkgjkgnlfnaa", sum := "42bffe2edbe6c11d2cb9f396fbcf33c19e85bbc2dcd8050e07089049fa5b81b7", func := "lodestar/lodestarlaw14.WordsBuilds", spec := "wordsBuilds", inPlace := ["internal/bytealg.abigen_runtime_cmpstring"], unfollowed := true, recurses := true, plainKeys := false, apart := false }
def WordsBuildsSaid : Prop := wordsBuildsRow.holds Try.pinned (OpenSpec.ofChange wordsBuildsSpec)

/-- ITS FALSE NEIGHBOUR: 'it returns false'. Refute it at one input. -/
def wordsBuildsWrong : ChangeSpec := { name := "wordsBuilds", fn := fun _ => fun
  | [d1, d2, d3] => { results := [.lit (.bool false)], args := [d1, d2, d3] }
  | _ => none }
def WordsBuildsWrongFalsely : Prop := wordsBuildsRow.holds Try.pinned (OpenSpec.ofChange wordsBuildsWrong)

/-- 'lodestarlaw14.WordsNobody': WHATEVER THE INPUT: true; the input reads as it did. -/
def wordsNobodySpec : ChangeSpec := { name := "wordsNobody", fn := fun _ => fun
  | [d] => { results := [.lit (.bool true)], args := [d] }
  | _ => none }
def wordsNobodyRow : OpenClaim := { program := "ytkmfkgjkgnlfnaa", sum := "42bffe2edbe6c11d2cb9f396fbcf33c19e85bbc2dcd8050e07089049fa5b81b7", func := "lodestar/lodestarlaw14.WordsNobody", spec := "wordsNobody", inPlace := ["internal/bytealg.abigen_runtime_cmpstring"], unfollowed := true, recurses := true, plainKeys := false, apart := false }
def WordsNobodySaid : Prop := wordsNobodyRow.holds Try.pinned (OpenSpec.ofChange wordsNobodySpec)

/-- ITS FALSE NEIGHBOUR: 'it returns false'. Refute it at one input. -/
def wordsNobodyWrong : ChangeSpec := { name := "wordsNobody", fn := fun _ => fun
  | [d] => { results := [.lit (.bool false)], args := [d] }
  | _ => none }
def WordsNobodyWrongFalsely : Prop := wordsNobodyRow.holds Try.pinned (OpenSpec.ofChange wordsNobodyWrong)

/-- 'lodestarlaw14.WordsParts': WHATEVER THE INPUT: true; the input reads as it did. -/
def wordsPartsSpec : ChangeSpec := { name := "wordsParts", fn := fun _ => fun
  | [d1, d2] => { results := [.lit (.bool true)], args := [d1, d2] }
  | _ => none }
def wordsPartsRow : OpenClaim := { program := "ytkmfkgjkgnlfnaa", sum := "42bffe2edbe6c11d2cb9f396fbcf33c19e85bbc2dcd8050e07089049fa5b81b7", func := "lodestar/lodestarlaw14.WordsParts", spec := "wordsParts", inPlace := ["internal/bytealg.abigen_runtime_cmpstring"], unfollowed := true, recurses := true, plainKeys := false, apart := false }
def WordsPartsSaid : Prop := wordsPartsRow.holds Try.pinned (OpenSpec.ofChange wordsPartsSpec)

/-- ITS FALSE NEIGHBOUR: 'it returns false'. Refute it at one input. -/
def wordsPartsWrong : ChangeSpec := { name := "wordsParts", fn := fun _ => fun
  | [d1, d2] => { results := [.lit (.bool false)], args := [d1, d2] }
  | _ => none }
def WordsPartsWrongFalsely : Prop := wordsPartsRow.holds Try.pinned (OpenSpec.ofChange wordsPartsWrong)

/-- 'lodestarlaw14.WordsOrder': WHATEVER THE INPUT: true; the input reads as it did. -/
def wordsOrderSpec : ChangeSpec := { name := "wordsOrder", fn := fun _ => fun
  | [d1, d2] => { results := [.lit (.bool true)], args := [d1, d2] }
  | _ => none }
def wordsOrderRow : OpenClaim := { program := "ytkmfkgjkgnlfnaa", sum := "42bffe2edbe6c11d2cb9f396fbcf33c19e85bbc2dcd8050e07089049fa5b81b7", func := "lodestar/lodestarlaw14.WordsOrder", spec := "wordsOrder", inPlace := ["internal/bytealg.abigen_runtime_cmpstring"], unfollowed := true, recurses := true, plainKeys := false, apart := false }
def WordsOrderSaid : Prop := wordsOrderRow.holds Try.pinned (OpenSpec.ofChange wordsOrderSpec)

/-- ITS FALSE NEIGHBOUR: 'it returns false'. Refute it at one input. -/
def wordsOrderWrong : ChangeSpec := { name := "wordsOrder", fn := fun _ => fun
  | [d1, d2] => { results := [.lit (.bool false)], args := [d1, d2] }
  | _ => none }
def WordsOrderWrongFalsely : Prop := wordsOrderRow.holds Try.pinned (OpenSpec.ofChange wordsOrderWrong)

/- THE SECOND FORM. 'bulk': how many values and letters a reading holds, each counted each time it is reached (what is shared counts as often as it is met; a slice's spare places count too). A statement '..UptoSaid' is the law's where the arguments, and the package variables that the reading takes, are together of bulk at most 1048576: NARROWER than '..Said'. Prove '..Said' where nothing that the law and all that it calls make is longer than what came in: it says more and counts as full. Else prove '..UptoSaid'. A law counts once. -/
mutual
def uptoBulk {H : Type} : DataW H → Nat
  | .lit (.string bytes) => bytes.length + 1
  | .lit _ => 1
  | .nil => 1
  | .ptr d => uptoBulk d + 1
  | .slice elems spare => uptoBulkAll elems + uptoBulkAll spare + 1
  | .agg parts => uptoBulkAll parts + 1
  | .iface _ d => uptoBulk d + 1
  | .map entries => uptoBulkEntries entries + 1
  | .held _ => 1
def uptoBulkAll {H : Type} : List (DataW H) → Nat
  | [] => 0
  | d :: r => uptoBulk d + uptoBulkAll r
def uptoBulkEntries {H : Type} : List (Lit × DataW H) → Nat
  | [] => 0
  | x :: r => uptoBulkEntry x + uptoBulkEntries r
def uptoBulkEntry {H : Type} : Lit × DataW H → Nat
  | (.string bytes, d) => bytes.length + uptoBulk d + 1
  | (_, d) => uptoBulk d + 1
 end
def uptoSmall : (H : Type) → List (DataW H) → Bool := fun _ ds => decide (uptoBulkAll ds ≤ 1048576)
def OpenSpec.upto (s : _root_.Go.ChangeSpec) : _root_.Go.OpenSpec := { _root_.Go.OpenSpec.ofChange s with cond := some uptoSmall }

/-- 'lodestarlaw14.WordsBuilds', WHERE WHAT IT READS IS OF BULK AT MOST 1048576: true; the input reads as it did. -/
def wordsBuildsUptoRow : OpenClaim := { program := "ytkmfkgjkgnlfnaa", sum := "42bffe2edbe6c11d2cb9f396fbcf33c19e85bbc2dcd8050e07089049fa5b81b7", func := "lodestar/lodestarlaw14.WordsBuilds", spec := "wordsBuilds", inPlace := ["internal/bytealg.abigen_runtime_cmpstring"], unfollowed := true, recurses := true, plainKeys := false, apart := false, narrowed := true }
def WordsBuildsUptoSaid : Prop := wordsBuildsUptoRow.holds Try.pinned (OpenSpec.upto wordsBuildsSpec)

/-- 'lodestarlaw14.WordsNobody', WHERE WHAT IT READS IS OF BULK AT MOST 1048576: true; the input reads as it did. -/
def wordsNobodyUptoRow : OpenClaim := { program := "ytkmfkgjkgnlfnaa", sum := "42bffe2edbe6c11d2cb9f396fbcf33c19e85bbc2dcd8050e07089049fa5b81b7", func := "lodestar/lodestarlaw14.WordsNobody", spec := "wordsNobody", inPlace := ["internal/bytealg.abigen_runtime_cmpstring"], unfollowed := true, recurses := true, plainKeys := false, apart := false, narrowed := true }
def WordsNobodyUptoSaid : Prop := wordsNobodyUptoRow.holds Try.pinned (OpenSpec.upto wordsNobodySpec)

/-- 'lodestarlaw14.WordsParts', WHERE WHAT IT READS IS OF BULK AT MOST 1048576: true; the input reads as it did. -/
def wordsPartsUptoRow : OpenClaim := { program := "ytkmfkgjkgnlfnaa", sum := "42bffe2edbe6c11d2cb9f396fbcf33c19e85bbc2dcd8050e07089049fa5b81b7", func := "lodestar/lodestarlaw14.WordsParts", spec := "wordsParts", inPlace := ["internal/bytealg.abigen_runtime_cmpstring"], unfollowed := true, recurses := true, plainKeys := false, apart := false, narrowed := true }
def WordsPartsUptoSaid : Prop := wordsPartsUptoRow.holds Try.pinned (OpenSpec.upto wordsPartsSpec)

/-- 'lodestarlaw14.WordsOrder', WHERE WHAT IT READS IS OF BULK AT MOST 1048576: true; the input reads as it did. -/
def wordsOrderUptoRow : OpenClaim := { program := "ytkmfkgjkgnlfnaa", sum := "42bffe2edbe6c11d2cb9f396fbcf33c19e85bbc2dcd8050e07089049fa5b81b7", func := "lodestar/lodestarlaw14.WordsOrder", spec := "wordsOrder", inPlace := ["internal/bytealg.abigen_runtime_cmpstring"], unfollowed := true, recurses := true, plainKeys := false, apart := false, narrowed := true }
def WordsOrderUptoSaid : Prop := wordsOrderUptoRow.holds Try.pinned (OpenSpec.upto wordsOrderSpec)

end Rows
end Go.Proofs.Ytkmfkgjkgnlfnaa
