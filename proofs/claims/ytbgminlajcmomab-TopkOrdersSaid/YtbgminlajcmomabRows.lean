/-
  No cell of these rows narrows 'for every input' (looked for: loops, veiled, ifaces, maps, wideKeys, modest, calm, conditions, laid).
  DERIVED. THE GIVEN ROWS OF THIS SEAT. 5 by the template 'for every input the law returns true; each argument reads behind the call as it read before'; 0 by the template 'total and deterministic' (their statements: YtbgminlajcmomabTotals.lean).
  GIVEN WITH THE SEED: the statements are not yours to turn. If you find one false, say at which input.
  Laid BY PROGRAM, IN A SANDBOX (cutbox-rows.mjs): the forced cells as the released guide's own fill.sh prints them over the translation 82b922267e40cdac… (all of the seat's roots in one cut). By AI agents, Wed Nov 11 2026. No macro, syntax, notation, axiom, sorry.
-/
import Derived.Test.YtbgminlajcmomabChecked
import GoSem.Claim
import GoSem.ClaimJoined
import GoSem.ClaimMapViews
import Derived.JoinedTies
import Derived.KernelRfl
namespace Go.Proofs.Ytbgminlajcmomab
/- THE CELL 'sum', in the pinned program and in every row, IS THE sha256 OF THE DUMP (.gsa) THAT YtbgminlajcmomabProg.lean LOADS. Nothing in Lean hashes anything: it is a label: what it is worth is what the hold of that sum in a sandbox is worth. -/
noncomputable def Try.pinned : Pinned := { name := "ytbgminlajcmomab", sum := "82b922267e40cdacc1e75abdd58ca181bf12ac0e76a6c7537df4d27ff08d7920", checked := Try.checked }
namespace Rows
def none {H : Type} : Left H := { results := [], args := [] }

/-- 'lodestarlaw07.TopkOrders': WHATEVER THE INPUT: true; the input reads as it did. -/
def topkOrdersSpec : ChangeSpec := { name := "topkOrders", fn := fun _ => fun
  | [d1, d2, d3] => { results := [.lit (.bool true)], args := [d1, d2, d3] }
  | _ => none }
def topkOrdersRow : OpenClaim := { program := "ytbgminlajcmomab", sum := "82b922267e40cdacc1e75abdd58ca181bf12ac0e76a6c7537df4d27ff08d7920", func := "lodestar/lodestarlaw07.TopkOrders", spec := "topkOrders", unfollowed := true, recurses := true, plainKeys := false, apart := false }
def TopkOrdersSaid : Prop := topkOrdersRow.holds Try.pinned (OpenSpec.ofChange topkOrdersSpec)

/-- ITS FALSE NEIGHBOUR: 'it returns false'. Refute it at one input. -/
def topkOrdersWrong : ChangeSpec := { name := "topkOrders", fn := fun _ => fun
  | [d1, d2, d3] => { results := [.lit (.bool false)], args := [d1, d2, d3] }
  | _ => none }
def TopkOrdersWrongFalsely : Prop := topkOrdersRow.holds Try.pinned (OpenSpec.ofChange topkOrdersWrong)

/-- 'lodestarlaw07.TopkKeeps': WHATEVER THE INPUT: true; the input reads as it did. -/
def topkKeepsSpec : ChangeSpec := { name := "topkKeeps", fn := fun _ => fun
  | [d1, d2, d3] => { results := [.lit (.bool true)], args := [d1, d2, d3] }
  | _ => none }
def topkKeepsRow : OpenClaim := { program := "ytbgminlajcmomab", sum := "82b922267e40cdacc1e75abdd58ca181bf12ac0e76a6c7537df4d27ff08d7920", func := "lodestar/lodestarlaw07.TopkKeeps", spec := "topkKeeps", unfollowed := true, recurses := true, plainKeys := false, apart := false }
def TopkKeepsSaid : Prop := topkKeepsRow.holds Try.pinned (OpenSpec.ofChange topkKeepsSpec)

/-- ITS FALSE NEIGHBOUR: 'it returns false'. Refute it at one input. -/
def topkKeepsWrong : ChangeSpec := { name := "topkKeeps", fn := fun _ => fun
  | [d1, d2, d3] => { results := [.lit (.bool false)], args := [d1, d2, d3] }
  | _ => none }
def TopkKeepsWrongFalsely : Prop := topkKeepsRow.holds Try.pinned (OpenSpec.ofChange topkKeepsWrong)

/-- 'lodestarlaw07.TopkBest': WHATEVER THE INPUT: true; the input reads as it did. -/
def topkBestSpec : ChangeSpec := { name := "topkBest", fn := fun _ => fun
  | [d1, d2, d3] => { results := [.lit (.bool true)], args := [d1, d2, d3] }
  | _ => none }
def topkBestRow : OpenClaim := { program := "ytbgminlajcmomab", sum := "82b922267e40cdacc1e75abdd58ca181bf12ac0e76a6c7537df4d27ff08d7920", func := "lodestar/lodestarlaw07.TopkBest", spec := "topkBest", unfollowed := true, recurses := true, plainKeys := false, apart := false }
def TopkBestSaid : Prop := topkBestRow.holds Try.pinned (OpenSpec.ofChange topkBestSpec)

/-- ITS FALSE NEIGHBOUR: 'it returns false'. Refute it at one input. -/
def topkBestWrong : ChangeSpec := { name := "topkBest", fn := fun _ => fun
  | [d1, d2, d3] => { results := [.lit (.bool false)], args := [d1, d2, d3] }
  | _ => none }
def TopkBestWrongFalsely : Prop := topkBestRow.holds Try.pinned (OpenSpec.ofChange topkBestWrong)

/-- 'lodestarlaw07.TopkStrict': WHATEVER THE INPUT: true; the input reads as it did. -/
def topkStrictSpec : ChangeSpec := { name := "topkStrict", fn := fun _ => fun
  | [d1, d2] => { results := [.lit (.bool true)], args := [d1, d2] }
  | _ => none }
def topkStrictRow : OpenClaim := { program := "ytbgminlajcmomab", sum := "82b922267e40cdacc1e75abdd58ca181bf12ac0e76a6c7537df4d27ff08d7920", func := "lodestar/lodestarlaw07.TopkStrict", spec := "topkStrict", unfollowed := true, recurses := true, plainKeys := false, apart := false }
def TopkStrictSaid : Prop := topkStrictRow.holds Try.pinned (OpenSpec.ofChange topkStrictSpec)

/-- ITS FALSE NEIGHBOUR: 'it returns false'. Refute it at one input. -/
def topkStrictWrong : ChangeSpec := { name := "topkStrict", fn := fun _ => fun
  | [d1, d2] => { results := [.lit (.bool false)], args := [d1, d2] }
  | _ => none }
def TopkStrictWrongFalsely : Prop := topkStrictRow.holds Try.pinned (OpenSpec.ofChange topkStrictWrong)

/-- 'lodestarlaw07.TopkNone': WHATEVER THE INPUT: true; the input reads as it did. -/
def topkNoneSpec : ChangeSpec := { name := "topkNone", fn := fun _ => fun
  | [d] => { results := [.lit (.bool true)], args := [d] }
  | _ => none }
def topkNoneRow : OpenClaim := { program := "ytbgminlajcmomab", sum := "82b922267e40cdacc1e75abdd58ca181bf12ac0e76a6c7537df4d27ff08d7920", func := "lodestar/lodestarlaw07.TopkNone", spec := "topkNone", unfollowed := true, recurses := true, plainKeys := false, apart := false }
def TopkNoneSaid : Prop := topkNoneRow.holds Try.pinned (OpenSpec.ofChange topkNoneSpec)

/-- ITS FALSE NEIGHBOUR: 'it returns false'. Refute it at one input. -/
def topkNoneWrong : ChangeSpec := { name := "topkNone", fn := fun _ => fun
  | [d] => { results := [.lit (.bool false)], args := [d] }
  | _ => none }
def TopkNoneWrongFalsely : Prop := topkNoneRow.holds Try.pinned (OpenSpec.ofChange topkNoneWrong)

/- THE SECOND FORM. 'bulk': how many values and letters a reading holds, each counted each time it is reached (what is shared counts as often as it is met; a slice's spare places count too). A statement '..UptoSaid' is the law's where the arguments, and the package variables that the reading takes, are together of bulk at most 1048576: NARROWER than '..Said'. Prove '..Said' where nothing that the law and all that it calls make is longer than what came in: it says more and counts as full. Else prove '..UptoSaid'. A law counts once. -/
mutual
def uptoBulk {H : Type} : DataW H → Nat
  | .lit (.string bytes) => bytes.length + 1
  | .lit _ => 1
  | .nil => 1
  | .ptr d => uptoBulk d + 1
  | .slice elems spare => uptoBulkAll elems + uptoBulkAll spare + 1
  | .agg parts => uptoBulkAll parts + 1
  | .iface _ d => uptoBulk d + 1
  | .map entries => uptoBulkEntries entries + 1
  | .held _ => 1
def uptoBulkAll {H : Type} : List (DataW H) → Nat
  | [] => 0
  | d :: r => uptoBulk d + uptoBulkAll r
def uptoBulkEntries {H : Type} : List (Lit × DataW H) → Nat
  | [] => 0
  | x :: r => uptoBulkEntry x + uptoBulkEntries r
def uptoBulkEntry {H : Type} : Lit × DataW H → Nat
  | (.string bytes, d) => bytes.length + uptoBulk d + 1
  | (_, d) => uptoBulk d + 1
 end
def uptoSmall : (H : Type) → List (DataW H) → Bool := fun _ ds => decide (uptoBulkAll ds ≤ 1048576)
def OpenSpec.upto (s : _root_.Go.ChangeSpec) : _root_.Go.OpenSpec := { _root_.Go.OpenSpec.ofChange s with cond := some uptoSmall }

/-- 'lodestarlaw07.TopkOrders', WHERE WHAT IT READS IS OF BULK AT MOST 1048576: true; the input reads as it did. -/
def topkOrdersUptoRow : OpenClaim := { program := "ytbgminlajcmomab", sum := "82b922267e40cdacc1e75abdd58ca181bf12ac0e76a6c7537df4d27ff08d7920", func := "lodestar/lodestarlaw07.TopkOrders", spec := "topkOrders", unfollowed := true, recurses := true, plainKeys := false, apart := false, narrowed := true }
def TopkOrdersUptoSaid : Prop := topkOrdersUptoRow.holds Try.pinned (OpenSpec.upto topkOrdersSpec)

/-- 'lodestarlaw07.TopkKeeps', WHERE WHAT IT READS IS OF BULK AT MOST 1048576: true; the input reads as it did. -/
def topkKeepsUptoRow : OpenClaim := { program := "ytbgminlajcmomab", sum := "82b922267e40cdacc1e75abdd58ca181bf12ac0e76a6c7537df4d27ff08d7920", func := "lodestar/lodestarlaw07.TopkKeeps", spec := "topkKeeps", unfollowed := true, recurses := true, plainKeys := false, apart := false, narrowed := true }
def TopkKeepsUptoSaid : Prop := topkKeepsUptoRow.holds Try.pinned (OpenSpec.upto topkKeepsSpec)

/-- 'lodestarlaw07.TopkBest', WHERE WHAT IT READS IS OF BULK AT MOST 1048576: true; the input reads as it did. -/
def topkBestUptoRow : OpenClaim := { program := "ytbgminlajcmomab", sum := "82b922267e40cdacc1e75abdd58ca181bf12ac0e76a6c7537df4d27ff08d7920", func := "lodestar/lodestarlaw07.TopkBest", spec := "topkBest", unfollowed := true, recurses := true, plainKeys := false, apart := false, narrowed := true }
def TopkBestUptoSaid : Prop := topkBestUptoRow.holds Try.pinned (OpenSpec.upto topkBestSpec)

/-- 'lodestarlaw07.TopkStrict', WHERE WHAT IT READS IS OF BULK AT MOST 1048576: true; the input reads as it did. -/
def topkStrictUptoRow : OpenClaim := { program := "ytbgminlajcmomab", sum := "82b922267e40cdacc1e75abdd58ca181bf12ac0e76a6c7537df4d27ff08d7920", func := "lodestar/lodestarlaw07.TopkStrict", spec := "topkStrict", unfollowed := true, recurses := true, plainKeys := false, apart := false, narrowed := true }
def TopkStrictUptoSaid : Prop := topkStrictUptoRow.holds Try.pinned (OpenSpec.upto topkStrictSpec)

/-- 'lodestarlaw07.TopkNone', WHERE WHAT IT READS IS OF BULK AT MOST 1048576: true; the input reads as it did. -/
def topkNoneUptoRow : OpenClaim := { program := "ytbgminlajcmomab", sum := "82b922267e40cdacc1e75abdd58ca181bf12ac0e76a6c7537df4d27ff08d7920", func := "lodestar/lodestarlaw07.TopkNone", spec := "topkNone", unfollowed := true, recurses := true, plainKeys := false, apart := false, narrowed := true }
def TopkNoneUptoSaid : Prop := topkNoneUptoRow.holds Try.pinned (OpenSpec.upto topkNoneSpec)

end Rows
end Go.Proofs.Ytbgminlajcmomab
