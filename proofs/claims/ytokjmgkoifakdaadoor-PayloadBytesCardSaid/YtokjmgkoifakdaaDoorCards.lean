/-
  DERIVED. GIVEN WITH THE SEED: THE CARDS: each row of YtokjmgkoifakdaaDoorRows.lean that lists a variable, with what it lists TIED to the program's text (the seventh form; the later family's looks); each row that meets fmt, with fmt's text TOLD by the authors' own Lean function (tested against real Go, not proved from fmt's source: count such statements apart). THE CARD IS WHAT COUNTS. Prove the row's statement (the work); the ties are given (YtokjmgkoifakdaaDoorTie.lean); close each card by the builder's one call (the guide's Derived/Test/ToyasCard.lean, 'card_holds'). Laid BY PROGRAM, IN A SANDBOX (cutbox-door.mjs). By AI agents, Wed Nov 11 2026. No macro, syntax, notation, axiom, sorry.
-/
import Derived.Test.YtokjmgkoifakdaaDoorRows
import GoSem.ClaimSeven
namespace Go.Proofs.YtokjmgkoifakdaaDoor
namespace Rows

/-- THE TIED CARD OF 'lodestarlaw05.PayloadChecks'. -/
def payloadChecksCard : Claim7 := { stood := { row := payloadChecksRow, standIns := [], harness := (true, "7ffc3f401f0bb9d664077b668f7189a0ba3eb4c160c6c010d18325cdf0dcce35"), looks := false }, kinds := [], alts := [], laidByText := true, laidKinds := [.data, .data, .pinned], laidTests := true, laidLooks := .later }
def PayloadChecksCardSaid : Prop := Claim7.holds Tryd.pinned (.plain (OpenSpec.ofChange payloadChecksSpec)) payloadChecksCard

/-- THE TIED CARD OF 'lodestarlaw05.PayloadBytes'. -/
def payloadBytesCard : Claim7 := { stood := { row := payloadBytesRow, standIns := [], harness := (true, "7ffc3f401f0bb9d664077b668f7189a0ba3eb4c160c6c010d18325cdf0dcce35"), looks := false }, kinds := [], alts := [], laidByText := true, laidKinds := [.data, .data, .pinned], laidTests := true, laidLooks := .later }
def PayloadBytesCardSaid : Prop := Claim7.holds Tryd.pinned (.plain (OpenSpec.ofChange payloadBytesSpec)) payloadBytesCard

/-- THE TIED CARD OF 'lodestarlaw05.PayloadBack'. -/
def payloadBackCard : Claim7 := { stood := { row := payloadBackRow, standIns := [], harness := (true, "7ffc3f401f0bb9d664077b668f7189a0ba3eb4c160c6c010d18325cdf0dcce35"), looks := false }, kinds := [], alts := [], laidByText := true, laidKinds := [.data, .data, .pinned], laidTests := true, laidLooks := .later }
def PayloadBackCardSaid : Prop := Claim7.holds Tryd.pinned (.plain (OpenSpec.ofChange payloadBackSpec)) payloadBackCard

/-- THE TIED CARD OF 'lodestarlaw05.PayloadFits'. -/
def payloadFitsCard : Claim7 := { stood := { row := payloadFitsRow, standIns := [], harness := (true, "7ffc3f401f0bb9d664077b668f7189a0ba3eb4c160c6c010d18325cdf0dcce35"), looks := false }, kinds := [], alts := [], laidByText := true, laidKinds := [.data, .data, .pinned], laidTests := true, laidLooks := .later }
def PayloadFitsCardSaid : Prop := Claim7.holds Tryd.pinned (.plain (OpenSpec.ofChange payloadFitsSpec)) payloadFitsCard

/-- THE TIED CARD OF 'lodestarlaw10.SegmentMerges'. -/
def segmentMergesCard : Claim7 := { stood := { row := segmentMergesRow, standIns := [], harness := (true, "7ffc3f401f0bb9d664077b668f7189a0ba3eb4c160c6c010d18325cdf0dcce35"), looks := false }, kinds := [], alts := [], laidByText := true, laidKinds := [.data, .data, .pinned], laidTests := true, laidLooks := .later }
def SegmentMergesCardSaid : Prop := Claim7.holds Tryd.pinned (.plain (OpenSpec.ofChange segmentMergesSpec)) segmentMergesCard

/-- THE TIED CARD OF 'lodestarlaw10.SegmentBack'. -/
def segmentBackCard : Claim7 := { stood := { row := segmentBackRow, standIns := [], harness := (true, "7ffc3f401f0bb9d664077b668f7189a0ba3eb4c160c6c010d18325cdf0dcce35"), looks := false }, kinds := [], alts := [], laidByText := true, laidKinds := [.data, .data, .pinned], laidTests := true, laidLooks := .later }
def SegmentBackCardSaid : Prop := Claim7.holds Tryd.pinned (.plain (OpenSpec.ofChange segmentBackSpec)) segmentBackCard

/-- THE TIED CARD OF 'lodestarlaw10.SegmentSpoilt'. -/
def segmentSpoiltCard : Claim7 := { stood := { row := segmentSpoiltRow, standIns := [], harness := (true, "7ffc3f401f0bb9d664077b668f7189a0ba3eb4c160c6c010d18325cdf0dcce35"), looks := false }, kinds := [], alts := [], laidByText := true, laidKinds := [.data, .data, .pinned], laidTests := true, laidLooks := .later }
def SegmentSpoiltCardSaid : Prop := Claim7.holds Tryd.pinned (.plain (OpenSpec.ofChange segmentSpoiltSpec)) segmentSpoiltCard

/-- THE TIED CARD OF 'lodestarlaw10.SegmentOnce'. -/
def segmentOnceCard : Claim7 := { stood := { row := segmentOnceRow, standIns := [], harness := (true, "7ffc3f401f0bb9d664077b668f7189a0ba3eb4c160c6c010d18325cdf0dcce35"), looks := false }, kinds := [], alts := [], laidByText := true, laidKinds := [.data, .data, .pinned], laidTests := true, laidLooks := .later }
def SegmentOnceCardSaid : Prop := Claim7.holds Tryd.pinned (.plain (OpenSpec.ofChange segmentOnceSpec)) segmentOnceCard

/-- THE SECOND FORM's CARD OF 'lodestarlaw05.PayloadChecks'. -/
def payloadChecksUptoCard : Claim7 := { stood := { row := payloadChecksUptoRow, standIns := [], harness := (true, "7ffc3f401f0bb9d664077b668f7189a0ba3eb4c160c6c010d18325cdf0dcce35"), looks := false }, kinds := [], alts := [], laidByText := true, laidKinds := [.data, .data, .pinned], laidTests := true, laidLooks := .later }
def PayloadChecksUptoCardSaid : Prop := Claim7.holds Tryd.pinned (.plain (OpenSpec.upto payloadChecksSpec)) payloadChecksUptoCard

/-- THE SECOND FORM's CARD OF 'lodestarlaw05.PayloadBytes'. -/
def payloadBytesUptoCard : Claim7 := { stood := { row := payloadBytesUptoRow, standIns := [], harness := (true, "7ffc3f401f0bb9d664077b668f7189a0ba3eb4c160c6c010d18325cdf0dcce35"), looks := false }, kinds := [], alts := [], laidByText := true, laidKinds := [.data, .data, .pinned], laidTests := true, laidLooks := .later }
def PayloadBytesUptoCardSaid : Prop := Claim7.holds Tryd.pinned (.plain (OpenSpec.upto payloadBytesSpec)) payloadBytesUptoCard

/-- THE SECOND FORM's CARD OF 'lodestarlaw05.PayloadBack'. -/
def payloadBackUptoCard : Claim7 := { stood := { row := payloadBackUptoRow, standIns := [], harness := (true, "7ffc3f401f0bb9d664077b668f7189a0ba3eb4c160c6c010d18325cdf0dcce35"), looks := false }, kinds := [], alts := [], laidByText := true, laidKinds := [.data, .data, .pinned], laidTests := true, laidLooks := .later }
def PayloadBackUptoCardSaid : Prop := Claim7.holds Tryd.pinned (.plain (OpenSpec.upto payloadBackSpec)) payloadBackUptoCard

/-- THE SECOND FORM's CARD OF 'lodestarlaw05.PayloadFits'. -/
def payloadFitsUptoCard : Claim7 := { stood := { row := payloadFitsUptoRow, standIns := [], harness := (true, "7ffc3f401f0bb9d664077b668f7189a0ba3eb4c160c6c010d18325cdf0dcce35"), looks := false }, kinds := [], alts := [], laidByText := true, laidKinds := [.data, .data, .pinned], laidTests := true, laidLooks := .later }
def PayloadFitsUptoCardSaid : Prop := Claim7.holds Tryd.pinned (.plain (OpenSpec.upto payloadFitsSpec)) payloadFitsUptoCard

/-- THE SECOND FORM's CARD OF 'lodestarlaw10.SegmentMerges'. -/
def segmentMergesUptoCard : Claim7 := { stood := { row := segmentMergesUptoRow, standIns := [], harness := (true, "7ffc3f401f0bb9d664077b668f7189a0ba3eb4c160c6c010d18325cdf0dcce35"), looks := false }, kinds := [], alts := [], laidByText := true, laidKinds := [.data, .data, .pinned], laidTests := true, laidLooks := .later }
def SegmentMergesUptoCardSaid : Prop := Claim7.holds Tryd.pinned (.plain (OpenSpec.upto segmentMergesSpec)) segmentMergesUptoCard

/-- THE SECOND FORM's CARD OF 'lodestarlaw10.SegmentBack'. -/
def segmentBackUptoCard : Claim7 := { stood := { row := segmentBackUptoRow, standIns := [], harness := (true, "7ffc3f401f0bb9d664077b668f7189a0ba3eb4c160c6c010d18325cdf0dcce35"), looks := false }, kinds := [], alts := [], laidByText := true, laidKinds := [.data, .data, .pinned], laidTests := true, laidLooks := .later }
def SegmentBackUptoCardSaid : Prop := Claim7.holds Tryd.pinned (.plain (OpenSpec.upto segmentBackSpec)) segmentBackUptoCard

/-- THE SECOND FORM's CARD OF 'lodestarlaw10.SegmentSpoilt'. -/
def segmentSpoiltUptoCard : Claim7 := { stood := { row := segmentSpoiltUptoRow, standIns := [], harness := (true, "7ffc3f401f0bb9d664077b668f7189a0ba3eb4c160c6c010d18325cdf0dcce35"), looks := false }, kinds := [], alts := [], laidByText := true, laidKinds := [.data, .data, .pinned], laidTests := true, laidLooks := .later }
def SegmentSpoiltUptoCardSaid : Prop := Claim7.holds Tryd.pinned (.plain (OpenSpec.upto segmentSpoiltSpec)) segmentSpoiltUptoCard

/-- THE SECOND FORM's CARD OF 'lodestarlaw10.SegmentOnce'. -/
def segmentOnceUptoCard : Claim7 := { stood := { row := segmentOnceUptoRow, standIns := [], harness := (true, "7ffc3f401f0bb9d664077b668f7189a0ba3eb4c160c6c010d18325cdf0dcce35"), looks := false }, kinds := [], alts := [], laidByText := true, laidKinds := [.data, .data, .pinned], laidTests := true, laidLooks := .later }
def SegmentOnceUptoCardSaid : Prop := Claim7.holds Tryd.pinned (.plain (OpenSpec.upto segmentOnceSpec)) segmentOnceUptoCard
end Rows
end Go.Proofs.YtokjmgkoifakdaaDoor
