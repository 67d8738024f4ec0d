/-
  DERIVED. GIVEN WITH THE SEED: THE CARDS: each row of YtfppemgagifmpaaDoorRows.lean that lists a variable, with what it lists TIED to the program's text (the seventh form; the later family's looks); each row that meets fmt, with fmt's text TOLD by the authors' own Lean function (tested against real Go, not proved from fmt's source: count such statements apart). THE CARD IS WHAT COUNTS. Prove the row's statement (the work); the ties are given (YtfppemgagifmpaaDoorTie.lean); close each card by the builder's one call (the guide's Derived/Test/ToyasCard.lean, 'card_holds'). Laid BY PROGRAM, IN A SANDBOX (cutbox-door.mjs). By AI agents, Wed Nov 11 2026. No macro, syntax, notation, axiom, sorry.
-/
import Derived.Test.YtfppemgagifmpaaDoorRows
import GoSem.ClaimSeven
namespace Go.Proofs.YtfppemgagifmpaaDoor
namespace Rows

/-- THE TIED CARD OF 'lodestarlaw05.PayloadChecks'. -/
def payloadChecksCard : Claim7 := { stood := { row := payloadChecksRow, standIns := [], harness := (true, "56f2f6a360889a0e4bca9034582c808f9768d35859885947a473f35fe3131130"), looks := false }, kinds := [], alts := [], laidByText := true, laidKinds := [.data, .data, .pinned], laidTests := true, laidLooks := .later }
def PayloadChecksCardSaid : Prop := Claim7.holds Tryd.pinned (.plain (OpenSpec.ofChange payloadChecksSpec)) payloadChecksCard

/-- THE TIED CARD OF 'lodestarlaw05.PayloadFits'. -/
def payloadFitsCard : Claim7 := { stood := { row := payloadFitsRow, standIns := [], harness := (true, "56f2f6a360889a0e4bca9034582c808f9768d35859885947a473f35fe3131130"), looks := false }, kinds := [], alts := [], laidByText := true, laidKinds := [.data, .data, .pinned], laidTests := true, laidLooks := .later }
def PayloadFitsCardSaid : Prop := Claim7.holds Tryd.pinned (.plain (OpenSpec.ofChange payloadFitsSpec)) payloadFitsCard

/-- THE SECOND FORM's CARD OF 'lodestarlaw05.PayloadChecks'. -/
def payloadChecksUptoCard : Claim7 := { stood := { row := payloadChecksUptoRow, standIns := [], harness := (true, "56f2f6a360889a0e4bca9034582c808f9768d35859885947a473f35fe3131130"), looks := false }, kinds := [], alts := [], laidByText := true, laidKinds := [.data, .data, .pinned], laidTests := true, laidLooks := .later }
def PayloadChecksUptoCardSaid : Prop := Claim7.holds Tryd.pinned (.plain (OpenSpec.upto payloadChecksSpec)) payloadChecksUptoCard

/-- THE SECOND FORM's CARD OF 'lodestarlaw05.PayloadFits'. -/
def payloadFitsUptoCard : Claim7 := { stood := { row := payloadFitsUptoRow, standIns := [], harness := (true, "56f2f6a360889a0e4bca9034582c808f9768d35859885947a473f35fe3131130"), looks := false }, kinds := [], alts := [], laidByText := true, laidKinds := [.data, .data, .pinned], laidTests := true, laidLooks := .later }
def PayloadFitsUptoCardSaid : Prop := Claim7.holds Tryd.pinned (.plain (OpenSpec.upto payloadFitsSpec)) payloadFitsUptoCard
end Rows
end Go.Proofs.YtfppemgagifmpaaDoor
