/-
  NARROWER THAN 'FOR EVERY INPUT', by the rows' own cells (each row's printed sentence says how): FilterPasses: loops, laid · FilterIds: loops, laid · FilterRules: loops, laid · FilterParts: loops, laid.
  DERIVED. THE GIVEN ROWS OF THIS SEAT. 4 by the template 'for every input the law returns true; each argument reads behind the call as it read before'; 0 by the template 'total and deterministic' (their statements: YtclmalaomofahaaGreatDoorTotals.lean).
  GIVEN WITH THE SEED: the statements are not yours to turn. If you find one false, say at which input.
  Laid BY PROGRAM, IN A SANDBOX (cutbox-rows.mjs): the forced cells as the released guide's own fill.sh prints them over the translation a5b310a130319b31… (all of the seat's roots in one cut). By AI agents, Wed Nov 11 2026. No macro, syntax, notation, axiom, sorry.
-/
import Derived.Test.YtclmalaomofahaaGreatDoorChecked
import GoSem.PinnedTables
import GoSem.Claim
import GoSem.ClaimJoined
import GoSem.ClaimMapViews
import Derived.JoinedTies
import Derived.KernelRfl
namespace Go.Proofs.YtclmalaomofahaaGreatDoor
/- THE CELL 'sum', in the pinned program and in every row, IS THE sha256 OF THE DUMP (.gsa) THAT YtclmalaomofahaaGreatDoorProg.lean LOADS. Nothing in Lean hashes anything: it is a label: what it is worth is what the hold of that sum in a sandbox is worth. -/
noncomputable def Tryz.pinned : Pinned := { name := "ytclmalaomofahaagreatdoor", sum := "a5b310a130319b3106033bfb1246635adc47307dcd6c526dd897ed91e33851fd", checked := Tryz.checked }
namespace Rows
def none {H : Type} : Left H := { results := [], args := [] }

/- WHAT THE LISTED PACKAGE-LEVEL VARIABLES READ AS WHEN THE CALL BEGINS. Each datum BY PROGRAM (the guide's laid-datum.mjs) off the statement by which the dump's own 'gosem.cut.vars' lays the variable. In a bare row this is a premise. The card (YtclmalaomofahaaGreatDoorCards.lean) ties it to the program's text. -/
def laid_unicode_utf8_acceptRanges {H : Type} : DataW H := .agg [.agg [.lit (.int .u8 128), .lit (.int .u8 191)], .agg [.lit (.int .u8 160), .lit (.int .u8 191)], .agg [.lit (.int .u8 128), .lit (.int .u8 159)], .agg [.lit (.int .u8 144), .lit (.int .u8 191)], .agg [.lit (.int .u8 128), .lit (.int .u8 143)], .agg [.lit (.int .u8 0), .lit (.int .u8 0)], .agg [.lit (.int .u8 0), .lit (.int .u8 0)], .agg [.lit (.int .u8 0), .lit (.int .u8 0)], .agg [.lit (.int .u8 0), .lit (.int .u8 0)], .agg [.lit (.int .u8 0), .lit (.int .u8 0)], .agg [.lit (.int .u8 0), .lit (.int .u8 0)], .agg [.lit (.int .u8 0), .lit (.int .u8 0)], .agg [.lit (.int .u8 0), .lit (.int .u8 0)], .agg [.lit (.int .u8 0), .lit (.int .u8 0)], .agg [.lit (.int .u8 0), .lit (.int .u8 0)], .agg [.lit (.int .u8 0), .lit (.int .u8 0)]]
def laid_lodestar_payload_sizes {H : Type} : DataW H := .agg [.agg [.lit (.int .i64 0), .lit (.int .i64 0), .lit (.int .i64 0), .lit (.int .i64 0)], .agg [.lit (.int .i64 8), .lit (.int .i64 (-4503599627370496)), .lit (.int .i64 4503599627370496), .lit (.int .i64 0)], .agg [.lit (.int .i64 2), .lit (.int .i64 0), .lit (.int .i64 0), .lit (.int .i64 256)], .agg [.lit (.int .i64 1), .lit (.int .i64 0), .lit (.int .i64 1), .lit (.int .i64 0)]]
/-- One of Go's own tables, pinned by name: the form's constant. -/
def laid_unicode_utf8_first : DataW Unit := Go.Pinned.utf8First

/-- 'lodestarlaw16.FilterPasses': WHATEVER THE INPUT: true; the input reads as it did. -/
def filterPassesSpec : ChangeSpec := { name := "filterPasses", fn := fun _ => fun
  | [d1, d2] => { results := [.lit (.bool true)], args := [d1, d2] }
  | _ => none }
def filterPassesRow : OpenClaim := { program := "ytclmalaomofahaagreatdoor", sum := "a5b310a130319b3106033bfb1246635adc47307dcd6c526dd897ed91e33851fd", func := "lodestar/lodestarlaw16.FilterPasses", spec := "filterPasses", inPlace := ["internal/bytealg.abigen_runtime_cmpstring"], unfollowed := true, recurses := true, named := ["lodestar/payload.sizes", "unicode/utf8.first", "unicode/utf8.acceptRanges"], loops := true, apart := false, laid := [("unicode/utf8.acceptRanges", laid_unicode_utf8_acceptRanges), ("lodestar/payload.sizes", laid_lodestar_payload_sizes), ("unicode/utf8.first", laid_unicode_utf8_first)] }
def FilterPassesSaid : Prop := filterPassesRow.holds Tryz.pinned (OpenSpec.ofChange filterPassesSpec)

/-- ITS FALSE NEIGHBOUR: 'it returns false'. Refute it at one input. -/
def filterPassesWrong : ChangeSpec := { name := "filterPasses", fn := fun _ => fun
  | [d1, d2] => { results := [.lit (.bool false)], args := [d1, d2] }
  | _ => none }
def FilterPassesWrongFalsely : Prop := filterPassesRow.holds Tryz.pinned (OpenSpec.ofChange filterPassesWrong)

/-- 'lodestarlaw16.FilterIds': WHATEVER THE INPUT: true; the input reads as it did. -/
def filterIdsSpec : ChangeSpec := { name := "filterIds", fn := fun _ => fun
  | [d1, d2] => { results := [.lit (.bool true)], args := [d1, d2] }
  | _ => none }
def filterIdsRow : OpenClaim := { program := "ytclmalaomofahaagreatdoor", sum := "a5b310a130319b3106033bfb1246635adc47307dcd6c526dd897ed91e33851fd", func := "lodestar/lodestarlaw16.FilterIds", spec := "filterIds", inPlace := ["internal/bytealg.abigen_runtime_cmpstring"], unfollowed := true, recurses := true, named := ["lodestar/payload.sizes", "unicode/utf8.first", "unicode/utf8.acceptRanges"], loops := true, apart := false, laid := [("unicode/utf8.acceptRanges", laid_unicode_utf8_acceptRanges), ("lodestar/payload.sizes", laid_lodestar_payload_sizes), ("unicode/utf8.first", laid_unicode_utf8_first)] }
def FilterIdsSaid : Prop := filterIdsRow.holds Tryz.pinned (OpenSpec.ofChange filterIdsSpec)

/-- ITS FALSE NEIGHBOUR: 'it returns false'. Refute it at one input. -/
def filterIdsWrong : ChangeSpec := { name := "filterIds", fn := fun _ => fun
  | [d1, d2] => { results := [.lit (.bool false)], args := [d1, d2] }
  | _ => none }
def FilterIdsWrongFalsely : Prop := filterIdsRow.holds Tryz.pinned (OpenSpec.ofChange filterIdsWrong)

/-- 'lodestarlaw16.FilterRules': WHATEVER THE INPUT: true; the input reads as it did. -/
def filterRulesSpec : ChangeSpec := { name := "filterRules", fn := fun _ => fun
  | [d1, d2] => { results := [.lit (.bool true)], args := [d1, d2] }
  | _ => none }
def filterRulesRow : OpenClaim := { program := "ytclmalaomofahaagreatdoor", sum := "a5b310a130319b3106033bfb1246635adc47307dcd6c526dd897ed91e33851fd", func := "lodestar/lodestarlaw16.FilterRules", spec := "filterRules", inPlace := ["internal/bytealg.abigen_runtime_cmpstring"], unfollowed := true, recurses := true, named := ["lodestar/payload.sizes", "unicode/utf8.first", "unicode/utf8.acceptRanges"], loops := true, apart := false, laid := [("unicode/utf8.acceptRanges", laid_unicode_utf8_acceptRanges), ("lodestar/payload.sizes", laid_lodestar_payload_sizes), ("unicode/utf8.first", laid_unicode_utf8_first)] }
def FilterRulesSaid : Prop := filterRulesRow.holds Tryz.pinned (OpenSpec.ofChange filterRulesSpec)

/-- ITS FALSE NEIGHBOUR: 'it returns false'. Refute it at one input. -/
def filterRulesWrong : ChangeSpec := { name := "filterRules", fn := fun _ => fun
  | [d1, d2] => { results := [.lit (.bool false)], args := [d1, d2] }
  | _ => none }
def FilterRulesWrongFalsely : Prop := filterRulesRow.holds Tryz.pinned (OpenSpec.ofChange filterRulesWrong)

/-- 'lodestarlaw16.FilterParts': WHATEVER THE INPUT: true; the input reads as it did. -/
def filterPartsSpec : ChangeSpec := { name := "filterParts", fn := fun _ => fun
  | [d1, d2] => { results := [.lit (.bool true)], args := [d1, d2] }
  | _ => none }
def filterPartsRow : OpenClaim := { program := "ytclmalaomofahaagreatdoor", sum := "a5b310a130319b3106033bfb1246635adc47307dcd6c526dd897ed91e33851fd", func := "lodestar/lodestarlaw16.FilterParts", spec := "filterParts", inPlace := ["internal/bytealg.abigen_runtime_cmpstring"], unfollowed := true, recurses := true, named := ["lodestar/payload.sizes", "unicode/utf8.first", "unicode/utf8.acceptRanges"], loops := true, apart := false, laid := [("unicode/utf8.acceptRanges", laid_unicode_utf8_acceptRanges), ("lodestar/payload.sizes", laid_lodestar_payload_sizes), ("unicode/utf8.first", laid_unicode_utf8_first)] }
def FilterPartsSaid : Prop := filterPartsRow.holds Tryz.pinned (OpenSpec.ofChange filterPartsSpec)

/-- ITS FALSE NEIGHBOUR: 'it returns false'. Refute it at one input. -/
def filterPartsWrong : ChangeSpec := { name := "filterParts", fn := fun _ => fun
  | [d1, d2] => { results := [.lit (.bool false)], args := [d1, d2] }
  | _ => none }
def FilterPartsWrongFalsely : Prop := filterPartsRow.holds Tryz.pinned (OpenSpec.ofChange filterPartsWrong)

/- THE SECOND FORM. 'bulk': how many values and letters a reading holds, each counted each time it is reached (what is shared counts as often as it is met; a slice's spare places count too). A statement '..UptoSaid' is the law's where the arguments, and the package variables that the reading takes, are together of bulk at most 1048576: NARROWER than '..Said'. Prove '..Said' where nothing that the law and all that it calls make is longer than what came in: it says more and counts as full. Else prove '..UptoSaid'. A law counts once. -/
mutual
def uptoBulk {H : Type} : DataW H → Nat
  | .lit (.string bytes) => bytes.length + 1
  | .lit _ => 1
  | .nil => 1
  | .ptr d => uptoBulk d + 1
  | .slice elems spare => uptoBulkAll elems + uptoBulkAll spare + 1
  | .agg parts => uptoBulkAll parts + 1
  | .iface _ d => uptoBulk d + 1
  | .map entries => uptoBulkEntries entries + 1
  | .held _ => 1
def uptoBulkAll {H : Type} : List (DataW H) → Nat
  | [] => 0
  | d :: r => uptoBulk d + uptoBulkAll r
def uptoBulkEntries {H : Type} : List (Lit × DataW H) → Nat
  | [] => 0
  | x :: r => uptoBulkEntry x + uptoBulkEntries r
def uptoBulkEntry {H : Type} : Lit × DataW H → Nat
  | (.string bytes, d) => bytes.length + uptoBulk d + 1
  | (_, d) => uptoBulk d + 1
 end
def uptoSmall : (H : Type) → List (DataW H) → Bool := fun _ ds => decide (uptoBulkAll ds ≤ 1048576)
def OpenSpec.upto (s : _root_.Go.ChangeSpec) : _root_.Go.OpenSpec := { _root_.Go.OpenSpec.ofChange s with cond := some uptoSmall }

/-- 'lodestarlaw16.FilterPasses', WHERE WHAT IT READS IS OF BULK AT MOST 1048576: true; the input reads as it did. -/
def filterPassesUptoRow : OpenClaim := { program := "ytclmalaomofahaagreatdoor", sum := "a5b310a130319b3106033bfb1246635adc47307dcd6c526dd897ed91e33851fd", func := "lodestar/lodestarlaw16.FilterPasses", spec := "filterPasses", inPlace := ["internal/bytealg.abigen_runtime_cmpstring"], unfollowed := true, recurses := true, named := ["lodestar/payload.sizes", "unicode/utf8.first", "unicode/utf8.acceptRanges"], loops := true, apart := false, laid := [("unicode/utf8.acceptRanges", laid_unicode_utf8_acceptRanges), ("lodestar/payload.sizes", laid_lodestar_payload_sizes), ("unicode/utf8.first", laid_unicode_utf8_first)], narrowed := true }
def FilterPassesUptoSaid : Prop := filterPassesUptoRow.holds Tryz.pinned (OpenSpec.upto filterPassesSpec)

/-- 'lodestarlaw16.FilterIds', WHERE WHAT IT READS IS OF BULK AT MOST 1048576: true; the input reads as it did. -/
def filterIdsUptoRow : OpenClaim := { program := "ytclmalaomofahaagreatdoor", sum := "a5b310a130319b3106033bfb1246635adc47307dcd6c526dd897ed91e33851fd", func := "lodestar/lodestarlaw16.FilterIds", spec := "filterIds", inPlace := ["internal/bytealg.abigen_runtime_cmpstring"], unfollowed := true, recurses := true, named := ["lodestar/payload.sizes", "unicode/utf8.first", "unicode/utf8.acceptRanges"], loops := true, apart := false, laid := [("unicode/utf8.acceptRanges", laid_unicode_utf8_acceptRanges), ("lodestar/payload.sizes", laid_lodestar_payload_sizes), ("unicode/utf8.first", laid_unicode_utf8_first)], narrowed := true }
def FilterIdsUptoSaid : Prop := filterIdsUptoRow.holds Tryz.pinned (OpenSpec.upto filterIdsSpec)

/-- 'lodestarlaw16.FilterRules', WHERE WHAT IT READS IS OF BULK AT MOST 1048576: true; the input reads as it did. -/
def filterRulesUptoRow : OpenClaim := { program := "ytclmalaomofahaagreatdoor", sum := "a5b310a130319b3106033bfb1246635adc47307dcd6c526dd897ed91e33851fd", func := "lodestar/lodestarlaw16.FilterRules", spec := "filterRules", inPlace := ["internal/bytealg.abigen_runtime_cmpstring"], unfollowed := true, recurses := true, named := ["lodestar/payload.sizes", "unicode/utf8.first", "unicode/utf8.acceptRanges"], loops := true, apart := false, laid := [("unicode/utf8.acceptRanges", laid_unicode_utf8_acceptRanges), ("lodestar/payload.sizes", laid_lodestar_payload_sizes), ("unicode/utf8.first", laid_unicode_utf8_first)], narrowed := true }
def FilterRulesUptoSaid : Prop := filterRulesUptoRow.holds Tryz.pinned (OpenSpec.upto filterRulesSpec)

/-- 'lodestarlaw16.FilterParts', WHERE WHAT IT READS IS OF BULK AT MOST 1048576: true; the input reads as it did. -/
def filterPartsUptoRow : OpenClaim := { program := "ytclmalaomofahaagreatdoor", sum := "a5b310a130319b3106033bfb1246635adc47307dcd6c526dd897ed91e33851fd", func := "lodestar/lodestarlaw16.FilterParts", spec := "filterParts", inPlace := ["internal/bytealg.abigen_runtime_cmpstring"], unfollowed := true, recurses := true, named := ["lodestar/payload.sizes", "unicode/utf8.first", "unicode/utf8.acceptRanges"], loops := true, apart := false, laid := [("unicode/utf8.acceptRanges", laid_unicode_utf8_acceptRanges), ("lodestar/payload.sizes", laid_lodestar_payload_sizes), ("unicode/utf8.first", laid_unicode_utf8_first)], narrowed := true }
def FilterPartsUptoSaid : Prop := filterPartsUptoRow.holds Tryz.pinned (OpenSpec.upto filterPartsSpec)

end Rows
end Go.Proofs.YtclmalaomofahaaGreatDoor
