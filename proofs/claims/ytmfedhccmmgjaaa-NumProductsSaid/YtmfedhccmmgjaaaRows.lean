/-
  No cell of these rows narrows 'for every input' (looked for: loops, veiled, ifaces, maps, wideKeys, modest, calm, conditions, laid).
  DERIVED. THE GIVEN ROWS OF THIS SEAT. 7 by the template 'for every input the law returns true; each argument reads behind the call as it read before'; 0 by the template 'total and deterministic' (their statements: YtmfedhccmmgjaaaTotals.lean).
  GIVEN WITH THE SEED: the statements are not yours to turn. If you find one false, say at which input.
  Laid BY PROGRAM, IN A SANDBOX (cutbox-rows.mjs): the forced cells as the released guide's own fill.sh prints them over the translation 221492b75205b3af… (all of the seat's roots in one cut). By AI agents, Wed Nov 11 2026. No macro, syntax, notation, axiom, sorry.
-/
import Derived.Test.YtmfedhccmmgjaaaChecked
import GoSem.Claim
import GoSem.ClaimJoined
import GoSem.ClaimMapViews
import Derived.JoinedTies
import Derived.KernelRfl
namespace Go.Proofs.Ytmfedhccmmgjaaa
/- THE CELL 'sum', in the pinned program and in every row, IS THE sha256 OF THE DUMP (.gsa) THAT YtmfedhccmmgjaaaProg.lean LOADS. Nothing in Lean hashes anything: it is a label: what it is worth is what the hold of that sum in a sandbox is worth. -/
noncomputable def Try.pinned : Pinned := { name := "ytmfedhccmmgjaaa", sum := "221492b75205b3afa18f4f408320bd23226240b48bc07132ffa191e01a5c0f9d", checked := Try.checked }
namespace Rows
def none {H : Type} : Left H := { results := [], args := [] }

/-- 'lodestarlaw01.NumRoots': WHATEVER THE INPUT: true; the input reads as it did. -/
def numRootsSpec : ChangeSpec := { name := "numRoots", fn := fun _ => fun
  | [d] => { results := [.lit (.bool true)], args := [d] }
  | _ => none }
def numRootsRow : OpenClaim := { program := "ytmfedhccmmgjaaa", sum := "221492b75205b3afa18f4f408320bd23226240b48bc07132ffa191e01a5c0f9d", func := "lodestar/lodestarlaw01.NumRoots", spec := "numRoots", apart := false }
def NumRootsSaid : Prop := numRootsRow.holds Try.pinned (OpenSpec.ofChange numRootsSpec)

/-- ITS FALSE NEIGHBOUR: 'it returns false'. Refute it at one input. -/
def numRootsWrong : ChangeSpec := { name := "numRoots", fn := fun _ => fun
  | [d] => { results := [.lit (.bool false)], args := [d] }
  | _ => none }
def NumRootsWrongFalsely : Prop := numRootsRow.holds Try.pinned (OpenSpec.ofChange numRootsWrong)

/-- 'lodestarlaw01.NumProducts': WHATEVER THE INPUT: true; the input reads as it did. -/
def numProductsSpec : ChangeSpec := { name := "numProducts", fn := fun _ => fun
  | [d1, d2] => { results := [.lit (.bool true)], args := [d1, d2] }
  | _ => none }
def numProductsRow : OpenClaim := { program := "ytmfedhccmmgjaaa", sum := "221492b75205b3afa18f4f408320bd23226240b48bc07132ffa191e01a5c0f9d", func := "lodestar/lodestarlaw01.NumProducts", spec := "numProducts", apart := false }
def NumProductsSaid : Prop := numProductsRow.holds Try.pinned (OpenSpec.ofChange numProductsSpec)

/-- ITS FALSE NEIGHBOUR: 'it returns false'. Refute it at one input. -/
def numProductsWrong : ChangeSpec := { name := "numProducts", fn := fun _ => fun
  | [d1, d2] => { results := [.lit (.bool false)], args := [d1, d2] }
  | _ => none }
def NumProductsWrongFalsely : Prop := numProductsRow.holds Try.pinned (OpenSpec.ofChange numProductsWrong)

/-- 'lodestarlaw01.NumLeft': WHATEVER THE INPUT: true; the input reads as it did. -/
def numLeftSpec : ChangeSpec := { name := "numLeft", fn := fun _ => fun
  | [d1, d2] => { results := [.lit (.bool true)], args := [d1, d2] }
  | _ => none }
def numLeftRow : OpenClaim := { program := "ytmfedhccmmgjaaa", sum := "221492b75205b3afa18f4f408320bd23226240b48bc07132ffa191e01a5c0f9d", func := "lodestar/lodestarlaw01.NumLeft", spec := "numLeft", apart := false }
def NumLeftSaid : Prop := numLeftRow.holds Try.pinned (OpenSpec.ofChange numLeftSpec)

/-- ITS FALSE NEIGHBOUR: 'it returns false'. Refute it at one input. -/
def numLeftWrong : ChangeSpec := { name := "numLeft", fn := fun _ => fun
  | [d1, d2] => { results := [.lit (.bool false)], args := [d1, d2] }
  | _ => none }
def NumLeftWrongFalsely : Prop := numLeftRow.holds Try.pinned (OpenSpec.ofChange numLeftWrong)

/-- 'lodestarlaw01.NumBytes': WHATEVER THE INPUT: true; the input reads as it did. -/
def numBytesSpec : ChangeSpec := { name := "numBytes", fn := fun _ => fun
  | [d1, d2, d3] => { results := [.lit (.bool true)], args := [d1, d2, d3] }
  | _ => none }
def numBytesRow : OpenClaim := { program := "ytmfedhccmmgjaaa", sum := "221492b75205b3afa18f4f408320bd23226240b48bc07132ffa191e01a5c0f9d", func := "lodestar/lodestarlaw01.NumBytes", spec := "numBytes", apart := false }
def NumBytesSaid : Prop := numBytesRow.holds Try.pinned (OpenSpec.ofChange numBytesSpec)

/-- ITS FALSE NEIGHBOUR: 'it returns false'. Refute it at one input. -/
def numBytesWrong : ChangeSpec := { name := "numBytes", fn := fun _ => fun
  | [d1, d2, d3] => { results := [.lit (.bool false)], args := [d1, d2, d3] }
  | _ => none }
def NumBytesWrongFalsely : Prop := numBytesRow.holds Try.pinned (OpenSpec.ofChange numBytesWrong)

/-- 'lodestarlaw01.NumSums': WHATEVER THE INPUT: true; the input reads as it did. -/
def numSumsSpec : ChangeSpec := { name := "numSums", fn := fun _ => fun
  | [d1, d2, d3] => { results := [.lit (.bool true)], args := [d1, d2, d3] }
  | _ => none }
def numSumsRow : OpenClaim := { program := "ytmfedhccmmgjaaa", sum := "221492b75205b3afa18f4f408320bd23226240b48bc07132ffa191e01a5c0f9d", func := "lodestar/lodestarlaw01.NumSums", spec := "numSums", apart := false }
def NumSumsSaid : Prop := numSumsRow.holds Try.pinned (OpenSpec.ofChange numSumsSpec)

/-- ITS FALSE NEIGHBOUR: 'it returns false'. Refute it at one input. -/
def numSumsWrong : ChangeSpec := { name := "numSums", fn := fun _ => fun
  | [d1, d2, d3] => { results := [.lit (.bool false)], args := [d1, d2, d3] }
  | _ => none }
def NumSumsWrongFalsely : Prop := numSumsRow.holds Try.pinned (OpenSpec.ofChange numSumsWrong)

/-- 'lodestarlaw01.NumDraws': WHATEVER THE INPUT: true; the input reads as it did. -/
def numDrawsSpec : ChangeSpec := { name := "numDraws", fn := fun _ => fun
  | [d1, d2, d3] => { results := [.lit (.bool true)], args := [d1, d2, d3] }
  | _ => none }
def numDrawsRow : OpenClaim := { program := "ytmfedhccmmgjaaa", sum := "221492b75205b3afa18f4f408320bd23226240b48bc07132ffa191e01a5c0f9d", func := "lodestar/lodestarlaw01.NumDraws", spec := "numDraws", apart := false }
def NumDrawsSaid : Prop := numDrawsRow.holds Try.pinned (OpenSpec.ofChange numDrawsSpec)

/-- ITS FALSE NEIGHBOUR: 'it returns false'. Refute it at one input. -/
def numDrawsWrong : ChangeSpec := { name := "numDraws", fn := fun _ => fun
  | [d1, d2, d3] => { results := [.lit (.bool false)], args := [d1, d2, d3] }
  | _ => none }
def NumDrawsWrongFalsely : Prop := numDrawsRow.holds Try.pinned (OpenSpec.ofChange numDrawsWrong)

/-- 'lodestarlaw01.NumUnlike': WHATEVER THE INPUT: true; the input reads as it did. -/
def numUnlikeSpec : ChangeSpec := { name := "numUnlike", fn := fun _ => fun
  | [d1, d2] => { results := [.lit (.bool true)], args := [d1, d2] }
  | _ => none }
def numUnlikeRow : OpenClaim := { program := "ytmfedhccmmgjaaa", sum := "221492b75205b3afa18f4f408320bd23226240b48bc07132ffa191e01a5c0f9d", func := "lodestar/lodestarlaw01.NumUnlike", spec := "numUnlike", apart := false }
def NumUnlikeSaid : Prop := numUnlikeRow.holds Try.pinned (OpenSpec.ofChange numUnlikeSpec)

/-- ITS FALSE NEIGHBOUR: 'it returns false'. Refute it at one input. -/
def numUnlikeWrong : ChangeSpec := { name := "numUnlike", fn := fun _ => fun
  | [d1, d2] => { results := [.lit (.bool false)], args := [d1, d2] }
  | _ => none }
def NumUnlikeWrongFalsely : Prop := numUnlikeRow.holds Try.pinned (OpenSpec.ofChange numUnlikeWrong)

/- THE SECOND FORM. 'bulk': how many values and letters a reading holds, each counted each time it is reached (what is shared counts as often as it is met; a slice's spare places count too). A statement '..UptoSaid' is the law's where the arguments, and the package variables that the reading takes, are together of bulk at most 1048576: NARROWER than '..Said'. Prove '..Said' where nothing that the law and all that it calls make is longer than what came in: it says more and counts as full. Else prove '..UptoSaid'. A law counts once. -/
mutual
def uptoBulk {H : Type} : DataW H → Nat
  | .lit (.string bytes) => bytes.length + 1
  | .lit _ => 1
  | .nil => 1
  | .ptr d => uptoBulk d + 1
  | .slice elems spare => uptoBulkAll elems + uptoBulkAll spare + 1
  | .agg parts => uptoBulkAll parts + 1
  | .iface _ d => uptoBulk d + 1
  | .map entries => uptoBulkEntries entries + 1
  | .held _ => 1
def uptoBulkAll {H : Type} : List (DataW H) → Nat
  | [] => 0
  | d :: r => uptoBulk d + uptoBulkAll r
def uptoBulkEntries {H : Type} : List (Lit × DataW H) → Nat
  | [] => 0
  | x :: r => uptoBulkEntry x + uptoBulkEntries r
def uptoBulkEntry {H : Type} : Lit × DataW H → Nat
  | (.string bytes, d) => bytes.length + uptoBulk d + 1
  | (_, d) => uptoBulk d + 1
 end
def uptoSmall : (H : Type) → List (DataW H) → Bool := fun _ ds => decide (uptoBulkAll ds ≤ 1048576)
def OpenSpec.upto (s : _root_.Go.ChangeSpec) : _root_.Go.OpenSpec := { _root_.Go.OpenSpec.ofChange s with cond := some uptoSmall }

/-- 'lodestarlaw01.NumRoots', WHERE WHAT IT READS IS OF BULK AT MOST 1048576: true; the input reads as it did. -/
def numRootsUptoRow : OpenClaim := { program := "ytmfedhccmmgjaaa", sum := "221492b75205b3afa18f4f408320bd23226240b48bc07132ffa191e01a5c0f9d", func := "lodestar/lodestarlaw01.NumRoots", spec := "numRoots", apart := false, narrowed := true }
def NumRootsUptoSaid : Prop := numRootsUptoRow.holds Try.pinned (OpenSpec.upto numRootsSpec)

/-- 'lodestarlaw01.NumProducts', WHERE WHAT IT READS IS OF BULK AT MOST 1048576: true; the input reads as it did. -/
def numProductsUptoRow : OpenClaim := { program := "ytmfedhccmmgjaaa", sum := "221492b75205b3afa18f4f408320bd23226240b48bc07132ffa191e01a5c0f9d", func := "lodestar/lodestarlaw01.NumProducts", spec := "numProducts", apart := false, narrowed := true }
def NumProductsUptoSaid : Prop := numProductsUptoRow.holds Try.pinned (OpenSpec.upto numProductsSpec)

/-- 'lodestarlaw01.NumLeft', WHERE WHAT IT READS IS OF BULK AT MOST 1048576: true; the input reads as it did. -/
def numLeftUptoRow : OpenClaim := { program := "ytmfedhccmmgjaaa", sum := "221492b75205b3afa18f4f408320bd23226240b48bc07132ffa191e01a5c0f9d", func := "lodestar/lodestarlaw01.NumLeft", spec := "numLeft", apart := false, narrowed := true }
def NumLeftUptoSaid : Prop := numLeftUptoRow.holds Try.pinned (OpenSpec.upto numLeftSpec)

/-- 'lodestarlaw01.NumBytes', WHERE WHAT IT READS IS OF BULK AT MOST 1048576: true; the input reads as it did. -/
def numBytesUptoRow : OpenClaim := { program := "ytmfedhccmmgjaaa", sum := "221492b75205b3afa18f4f408320bd23226240b48bc07132ffa191e01a5c0f9d", func := "lodestar/lodestarlaw01.NumBytes", spec := "numBytes", apart := false, narrowed := true }
def NumBytesUptoSaid : Prop := numBytesUptoRow.holds Try.pinned (OpenSpec.upto numBytesSpec)

/-- 'lodestarlaw01.NumSums', WHERE WHAT IT READS IS OF BULK AT MOST 1048576: true; the input reads as it did. -/
def numSumsUptoRow : OpenClaim := { program := "ytmfedhccmmgjaaa", sum := "221492b75205b3afa18f4f408320bd23226240b48bc07132ffa191e01a5c0f9d", func := "lodestar/lodestarlaw01.NumSums", spec := "numSums", apart := false, narrowed := true }
def NumSumsUptoSaid : Prop := numSumsUptoRow.holds Try.pinned (OpenSpec.upto numSumsSpec)

/-- 'lodestarlaw01.NumDraws', WHERE WHAT IT READS IS OF BULK AT MOST 1048576: true; the input reads as it did. -/
def numDrawsUptoRow : OpenClaim := { program := "ytmfedhccmmgjaaa", sum := "221492b75205b3afa18f4f408320bd23226240b48bc07132ffa191e01a5c0f9d", func := "lodestar/lodestarlaw01.NumDraws", spec := "numDraws", apart := false, narrowed := true }
def NumDrawsUptoSaid : Prop := numDrawsUptoRow.holds Try.pinned (OpenSpec.upto numDrawsSpec)

/-- 'lodestarlaw01.NumUnlike', WHERE WHAT IT READS IS OF BULK AT MOST 1048576: true; the input reads as it did. -/
def numUnlikeUptoRow : OpenClaim := { program := "ytmfedhccmmgjaaa", sum := "221492b75205b3afa18f4f408320bd23226240b48bc07132ffa191e01a5c0f9d", func := "lodestar/lodestarlaw01.NumUnlike", spec := "numUnlike", apart := false, narrowed := true }
def NumUnlikeUptoSaid : Prop := numUnlikeUptoRow.holds Try.pinned (OpenSpec.upto numUnlikeSpec)

end Rows
end Go.Proofs.Ytmfedhccmmgjaaa
