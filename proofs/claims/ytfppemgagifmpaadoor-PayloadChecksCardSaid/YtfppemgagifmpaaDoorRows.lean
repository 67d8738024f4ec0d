/-
  NARROWER THAN 'FOR EVERY INPUT', by the rows' own cells (each row's printed sentence says how): PayloadChecks: laid · PayloadFits: laid.
  DERIVED. THE GIVEN ROWS OF THIS SEAT. 2 by the template 'for every input the law returns true; each argument reads behind the call as it read before'; 0 by the template 'total and deterministic' (their statements: YtfppemgagifmpaaDoorTotals.lean).
  GIVEN WITH THE SEED: the statements are not yours to turn. If you find one false, say at which input.
  Laid BY PROGRAM, IN A SANDBOX (cutbox-rows.mjs): the forced cells as the released guide's own fill.sh prints them over the translation 2ba573cd6da3fa2e… (all of the seat's roots in one cut). By AI agents, Wed Nov 11 2026. No macro, syntax, notation, axiom, sorry.
-/
import Derived.Test.YtfppemgagifmpaaDoorChecked
import GoSem.PinnedTables
import GoSem.Claim
import GoSem.ClaimJoined
import GoSem.ClaimMapViews
import Derived.JoinedTies
import Derived.KernelRfl
namespace Go.Proofs.YtfppemgagifmpaaDoor
/- THE CELL 'sum', in the pinned program and in every row, IS THE sha256 OF THE DUMP (.gsa) THAT YtfppemgagifmpaaDoorProg.lean LOADS. Nothing in Lean hashes anything: it is a label: what it is worth is what the hold of that sum in a sandbox is worth. -/
noncomputable def Tryd.pinned : Pinned := { name := "ytfppemgagifmpaadoor", sum := "2ba573cd6da3fa2eea8ef54407d2562d71197336cc3eda8a6ba3cb63e4c76460", checked := Tryd.checked }
namespace Rows
def none {H : Type} : Left H := { results := [], args := [] }

/- WHAT THE LISTED PACKAGE-LEVEL VARIABLES READ AS WHEN THE CALL BEGINS. Each datum BY PROGRAM (the guide's laid-datum.mjs) off the statement by which the dump's own 'gosem.cut.vars' lays the variable. In a bare row this is a premise. The card (YtfppemgagifmpaaDoorCards.lean) ties it to the program's text. -/
def laid_unicode_utf8_acceptRanges {H : Type} : DataW H := .agg [.agg [.lit (.int .u8 128), .lit (.int .u8 191)], .agg [.lit (.int .u8 160), .lit (.int .u8 191)], .agg [.lit (.int .u8 128), .lit (.int .u8 159)], .agg [.lit (.int .u8 144), .lit (.int .u8 191)], .agg [.lit (.int .u8 128), .lit (.int .u8 143)], .agg [.lit (.int .u8 0), .lit (.int .u8 0)], .agg [.lit (.int .u8 0), .lit (.int .u8 0)], .agg [.lit (.int .u8 0), .lit (.int .u8 0)], .agg [.lit (.int .u8 0), .lit (.int .u8 0)], .agg [.lit (.int .u8 0), .lit (.int .u8 0)], .agg [.lit (.int .u8 0), .lit (.int .u8 0)], .agg [.lit (.int .u8 0), .lit (.int .u8 0)], .agg [.lit (.int .u8 0), .lit (.int .u8 0)], .agg [.lit (.int .u8 0), .lit (.int .u8 0)], .agg [.lit (.int .u8 0), .lit (.int .u8 0)], .agg [.lit (.int .u8 0), .lit (.int .u8 0)]]
def laid_lodestar_payload_sizes {H : Type} : DataW H := .agg [.agg [.lit (.int .i64 0), .lit (.int .i64 0), .lit (.int .i64 0), .lit (.int .i64 0)], .agg [.lit (.int .i64 8), .lit (.int .i64 (-4503599627370496)), .lit (.int .i64 4503599627370496), .lit (.int .i64 0)], .agg [.lit (.int .i64 2), .lit (.int .i64 0), .lit (.int .i64 0), .lit (.int .i64 256)], .agg [.lit (.int .i64 1), .lit (.int .i64 0), .lit (.int .i64 1), .lit (.int .i64 0)]]
/-- One of Go's own tables, pinned by name: the form's constant. -/
def laid_unicode_utf8_first : DataW Unit := Go.Pinned.utf8First

/-- 'lodestarlaw05.PayloadChecks': WHATEVER THE INPUT: true; the input reads as it did. -/
def payloadChecksSpec : ChangeSpec := { name := "payloadChecks", fn := fun _ => fun
  | [d1, d2] => { results := [.lit (.bool true)], args := [d1, d2] }
  | _ => none }
def payloadChecksRow : OpenClaim := { program := "ytfppemgagifmpaadoor", sum := "2ba573cd6da3fa2eea8ef54407d2562d71197336cc3eda8a6ba3cb63e4c76460", func := "lodestar/lodestarlaw05.PayloadChecks", spec := "payloadChecks", inPlace := ["internal/abi.NoEscape"], unfollowed := true, recurses := true, named := ["lodestar/payload.sizes", "unicode/utf8.first", "unicode/utf8.acceptRanges"], apart := false, laid := [("unicode/utf8.acceptRanges", laid_unicode_utf8_acceptRanges), ("lodestar/payload.sizes", laid_lodestar_payload_sizes), ("unicode/utf8.first", laid_unicode_utf8_first)] }
def PayloadChecksSaid : Prop := payloadChecksRow.holds Tryd.pinned (OpenSpec.ofChange payloadChecksSpec)

/-- ITS FALSE NEIGHBOUR: 'it returns false'. Refute it at one input. -/
def payloadChecksWrong : ChangeSpec := { name := "payloadChecks", fn := fun _ => fun
  | [d1, d2] => { results := [.lit (.bool false)], args := [d1, d2] }
  | _ => none }
def PayloadChecksWrongFalsely : Prop := payloadChecksRow.holds Tryd.pinned (OpenSpec.ofChange payloadChecksWrong)

/-- 'lodestarlaw05.PayloadFits': WHATEVER THE INPUT: true; the input reads as it did. -/
def payloadFitsSpec : ChangeSpec := { name := "payloadFits", fn := fun _ => fun
  | [d1, d2] => { results := [.lit (.bool true)], args := [d1, d2] }
  | _ => none }
def payloadFitsRow : OpenClaim := { program := "ytfppemgagifmpaadoor", sum := "2ba573cd6da3fa2eea8ef54407d2562d71197336cc3eda8a6ba3cb63e4c76460", func := "lodestar/lodestarlaw05.PayloadFits", spec := "payloadFits", inPlace := ["internal/abi.NoEscape"], unfollowed := true, recurses := true, named := ["lodestar/payload.sizes", "unicode/utf8.first", "unicode/utf8.acceptRanges"], apart := false, laid := [("unicode/utf8.acceptRanges", laid_unicode_utf8_acceptRanges), ("lodestar/payload.sizes", laid_lodestar_payload_sizes), ("unicode/utf8.first", laid_unicode_utf8_first)] }
def PayloadFitsSaid : Prop := payloadFitsRow.holds Tryd.pinned (OpenSpec.ofChange payloadFitsSpec)

/-- ITS FALSE NEIGHBOUR: 'it returns false'. Refute it at one input. -/
def payloadFitsWrong : ChangeSpec := { name := "payloadFits", fn := fun _ => fun
  | [d1, d2] => { results := [.lit (.bool false)], args := [d1, d2] }
  | _ => none }
def PayloadFitsWrongFalsely : Prop := payloadFitsRow.holds Tryd.pinned (OpenSpec.ofChange payloadFitsWrong)

/- THE SECOND FORM. 'bulk': how many values and letters a reading holds, each counted each time it is reached (what is shared counts as often as it is met; a slice's spare places count too). A statement '..UptoSaid' is the law's where the arguments, and the package variables that the reading takes, are together of bulk at most 1048576: NARROWER than '..Said'. Prove '..Said' where nothing that the law and all that it calls make is longer than what came in: it says more and counts as full. Else prove '..UptoSaid'. A law counts once. -/
mutual
def uptoBulk {H : Type} : DataW H → Nat
  | .lit (.string bytes) => bytes.length + 1
  | .lit _ => 1
  | .nil => 1
  | .ptr d => uptoBulk d + 1
  | .slice elems spare => uptoBulkAll elems + uptoBulkAll spare + 1
  | .agg parts => uptoBulkAll parts + 1
  | .iface _ d => uptoBulk d + 1
  | .map entries => uptoBulkEntries entries + 1
  | .held _ => 1
def uptoBulkAll {H : Type} : List (DataW H) → Nat
  | [] => 0
  | d :: r => uptoBulk d + uptoBulkAll r
def uptoBulkEntries {H : Type} : List (Lit × DataW H) → Nat
  | [] => 0
  | x :: r => uptoBulkEntry x + uptoBulkEntries r
def uptoBulkEntry {H : Type} : Lit × DataW H → Nat
  | (.string bytes, d) => bytes.length + uptoBulk d + 1
  | (_, d) => uptoBulk d + 1
 end
def uptoSmall : (H : Type) → List (DataW H) → Bool := fun _ ds => decide (uptoBulkAll ds ≤ 1048576)
def OpenSpec.upto (s : _root_.Go.ChangeSpec) : _root_.Go.OpenSpec := { _root_.Go.OpenSpec.ofChange s with cond := some uptoSmall }

/-- 'lodestarlaw05.PayloadChecks', WHERE WHAT IT READS IS OF BULK AT MOST 1048576: true; the input reads as it did. -/
def payloadChecksUptoRow : OpenClaim := { program := "ytfppemgagifmpaadoor", sum := "2ba573cd6da3fa2eea8ef54407d2562d71197336cc3eda8a6ba3cb63e4c76460", func := "lodestar/lodestarlaw05.PayloadChecks", spec := "payloadChecks", inPlace := ["internal/abi.NoEscape"], unfollowed := true, recurses := true, named := ["lodestar/payload.sizes", "unicode/utf8.first", "unicode/utf8.acceptRanges"], apart := false, laid := [("unicode/utf8.acceptRanges", laid_unicode_utf8_acceptRanges), ("lodestar/payload.sizes", laid_lodestar_payload_sizes), ("unicode/utf8.first", laid_unicode_utf8_first)], narrowed := true }
def PayloadChecksUptoSaid : Prop := payloadChecksUptoRow.holds Tryd.pinned (OpenSpec.upto payloadChecksSpec)

/-- 'lodestarlaw05.PayloadFits', WHERE WHAT IT READS IS OF BULK AT MOST 1048576: true; the input reads as it did. -/
def payloadFitsUptoRow : OpenClaim := { program := "ytfppemgagifmpaadoor", sum := "2ba573cd6da3fa2eea8ef54407d2562d71197336cc3eda8a6ba3cb63e4c76460", func := "lodestar/lodestarlaw05.PayloadFits", spec := "payloadFits", inPlace := ["internal/abi.NoEscape"], unfollowed := true, recurses := true, named := ["lodestar/payload.sizes", "unicode/utf8.first", "unicode/utf8.acceptRanges"], apart := false, laid := [("unicode/utf8.acceptRanges", laid_unicode_utf8_acceptRanges), ("lodestar/payload.sizes", laid_lodestar_payload_sizes), ("unicode/utf8.first", laid_unicode_utf8_first)], narrowed := true }
def PayloadFitsUptoSaid : Prop := payloadFitsUptoRow.holds Tryd.pinned (OpenSpec.upto payloadFitsSpec)

end Rows
end Go.Proofs.YtfppemgagifmpaaDoor
