/-
  DERIVED. GIVEN WITH THE SEED: THE CARDS: each row of YtlkoafnlklhaeaaDoorRows.lean that lists a variable, with what it lists TIED to the program's text (the seventh form; the later family's looks); each row that meets fmt, with fmt's text TOLD by the authors' own Lean function (tested against real Go, not proved from fmt's source: count such statements apart). THE CARD IS WHAT COUNTS. Prove the row's statement (the work); the ties are given (YtlkoafnlklhaeaaDoorTie.lean); close each card by the builder's one call (the guide's Derived/Test/ToyasCard.lean, 'card_holds'). Laid BY PROGRAM, IN A SANDBOX (cutbox-door.mjs). By AI agents, Wed Nov 11 2026. No macro, syntax, notation, axiom, sorry.
-/
import Derived.Test.YtlkoafnlklhaeaaDoorRows
import GoSem.ClaimSeven
namespace Go.Proofs.YtlkoafnlklhaeaaDoor
namespace Rows

/-- THE TIED CARD OF 'laws.FnExactMsrRow'. -/
def fnExactMsrRowCard : Claim7 := { stood := { row := fnExactMsrRowRow, standIns := [], harness := (true, "cf486e891ec232228457d82d4dab8ced2ca5d8cc6f6d39e0c855aadffd920ff2"), looks := false }, kinds := [], alts := [], laidByText := true, laidKinds := [.data], laidTests := true, laidLooks := .later }
def FnExactMsrRowCardSaid : Prop := Claim7.holds Tryd.pinned (.plain (OpenSpec.ofChange fnExactMsrRowSpec)) fnExactMsrRowCard

/-- THE TIED CARD OF 'laws.FnExactHelpFor'. -/
def fnExactHelpForCard : Claim7 := { stood := { row := fnExactHelpForRow, standIns := [], harness := (true, "cf486e891ec232228457d82d4dab8ced2ca5d8cc6f6d39e0c855aadffd920ff2"), looks := false }, kinds := [], alts := [], laidByText := true, laidKinds := [.data], laidTests := true, laidLooks := .later }
def FnExactHelpForCardSaid : Prop := Claim7.holds Tryd.pinned (.plain (OpenSpec.ofChange fnExactHelpForSpec)) fnExactHelpForCard

/-- THE TIED CARD OF 'laws.FnExactEncodeMsr'. -/
def fnExactEncodeMsrCard : Claim7 := { stood := { row := fnExactEncodeMsrRow, standIns := [], harness := (true, "cf486e891ec232228457d82d4dab8ced2ca5d8cc6f6d39e0c855aadffd920ff2"), looks := false }, kinds := [], alts := [], laidByText := true, laidKinds := [.data], laidTests := true, laidLooks := .later }
def FnExactEncodeMsrCardSaid : Prop := Claim7.holds Tryd.pinned (.plain (OpenSpec.ofChange fnExactEncodeMsrSpec)) fnExactEncodeMsrCard

/-- THE TIED CARD OF 'laws.FnExactDecodeMsr'. -/
def fnExactDecodeMsrCard : Claim7 := { stood := { row := fnExactDecodeMsrRow, standIns := [], harness := (true, "cf486e891ec232228457d82d4dab8ced2ca5d8cc6f6d39e0c855aadffd920ff2"), looks := false }, kinds := [], alts := [], laidByText := true, laidKinds := [.data], laidTests := true, laidLooks := .later }
def FnExactDecodeMsrCardSaid : Prop := Claim7.holds Tryd.pinned (.plain (OpenSpec.ofChange fnExactDecodeMsrSpec)) fnExactDecodeMsrCard

/-- THE TIED CARD OF 'laws.FnExactRegeneratePiece'. -/
def fnExactRegeneratePieceCard : Claim7 := { stood := { row := fnExactRegeneratePieceRow, standIns := [], harness := (true, "cf486e891ec232228457d82d4dab8ced2ca5d8cc6f6d39e0c855aadffd920ff2"), looks := false }, kinds := [], alts := [], laidByText := true, laidKinds := [.data], laidTests := true, laidLooks := .later }
def FnExactRegeneratePieceCardSaid : Prop := Claim7.holds Tryd.pinned (.plain (OpenSpec.ofChange fnExactRegeneratePieceSpec)) fnExactRegeneratePieceCard

/-- THE TIED CARD OF 'laws.FnExactLocalMatrix'. -/
def fnExactLocalMatrixCard : Claim7 := { stood := { row := fnExactLocalMatrixRow, standIns := [], harness := (true, "cf486e891ec232228457d82d4dab8ced2ca5d8cc6f6d39e0c855aadffd920ff2"), looks := false }, kinds := [], alts := [], laidByText := true, laidKinds := [.data], laidTests := true, laidLooks := .later }
def FnExactLocalMatrixCardSaid : Prop := Claim7.holds Tryd.pinned (.plain (OpenSpec.ofChange fnExactLocalMatrixSpec)) fnExactLocalMatrixCard

/-- THE TIED CARD OF 'laws.FnExactEncodeLocal'. -/
def fnExactEncodeLocalCard : Claim7 := { stood := { row := fnExactEncodeLocalRow, standIns := [], harness := (true, "cf486e891ec232228457d82d4dab8ced2ca5d8cc6f6d39e0c855aadffd920ff2"), looks := false }, kinds := [], alts := [], laidByText := true, laidKinds := [.data], laidTests := true, laidLooks := .later }
def FnExactEncodeLocalCardSaid : Prop := Claim7.holds Tryd.pinned (.plain (OpenSpec.ofChange fnExactEncodeLocalSpec)) fnExactEncodeLocalCard

/-- THE TIED CARD OF 'laws.FnExactMendLocal'. -/
def fnExactMendLocalCard : Claim7 := { stood := { row := fnExactMendLocalRow, standIns := [], harness := (true, "cf486e891ec232228457d82d4dab8ced2ca5d8cc6f6d39e0c855aadffd920ff2"), looks := false }, kinds := [], alts := [], laidByText := true, laidKinds := [.data], laidTests := true, laidLooks := .later }
def FnExactMendLocalCardSaid : Prop := Claim7.holds Tryd.pinned (.plain (OpenSpec.ofChange fnExactMendLocalSpec)) fnExactMendLocalCard

/-- THE TIED CARD OF 'laws.FnExactCanDecode'. -/
def fnExactCanDecodeCard : Claim7 := { stood := { row := fnExactCanDecodeRow, standIns := [], harness := (true, "cf486e891ec232228457d82d4dab8ced2ca5d8cc6f6d39e0c855aadffd920ff2"), looks := false }, kinds := [], alts := [], laidByText := true, laidKinds := [.data], laidTests := true, laidLooks := .later }
def FnExactCanDecodeCardSaid : Prop := Claim7.holds Tryd.pinned (.plain (OpenSpec.ofChange fnExactCanDecodeSpec)) fnExactCanDecodeCard

/-- THE SECOND FORM's CARD OF 'laws.FnExactMsrRow'. -/
def fnExactMsrRowUptoCard : Claim7 := { stood := { row := fnExactMsrRowUptoRow, standIns := [], harness := (true, "cf486e891ec232228457d82d4dab8ced2ca5d8cc6f6d39e0c855aadffd920ff2"), looks := false }, kinds := [], alts := [], laidByText := true, laidKinds := [.data], laidTests := true, laidLooks := .later }
def FnExactMsrRowUptoCardSaid : Prop := Claim7.holds Tryd.pinned (.plain (OpenSpec.upto fnExactMsrRowSpec)) fnExactMsrRowUptoCard

/-- THE SECOND FORM's CARD OF 'laws.FnExactHelpFor'. -/
def fnExactHelpForUptoCard : Claim7 := { stood := { row := fnExactHelpForUptoRow, standIns := [], harness := (true, "cf486e891ec232228457d82d4dab8ced2ca5d8cc6f6d39e0c855aadffd920ff2"), looks := false }, kinds := [], alts := [], laidByText := true, laidKinds := [.data], laidTests := true, laidLooks := .later }
def FnExactHelpForUptoCardSaid : Prop := Claim7.holds Tryd.pinned (.plain (OpenSpec.upto fnExactHelpForSpec)) fnExactHelpForUptoCard

/-- THE SECOND FORM's CARD OF 'laws.FnExactEncodeMsr'. -/
def fnExactEncodeMsrUptoCard : Claim7 := { stood := { row := fnExactEncodeMsrUptoRow, standIns := [], harness := (true, "cf486e891ec232228457d82d4dab8ced2ca5d8cc6f6d39e0c855aadffd920ff2"), looks := false }, kinds := [], alts := [], laidByText := true, laidKinds := [.data], laidTests := true, laidLooks := .later }
def FnExactEncodeMsrUptoCardSaid : Prop := Claim7.holds Tryd.pinned (.plain (OpenSpec.upto fnExactEncodeMsrSpec)) fnExactEncodeMsrUptoCard

/-- THE SECOND FORM's CARD OF 'laws.FnExactDecodeMsr'. -/
def fnExactDecodeMsrUptoCard : Claim7 := { stood := { row := fnExactDecodeMsrUptoRow, standIns := [], harness := (true, "cf486e891ec232228457d82d4dab8ced2ca5d8cc6f6d39e0c855aadffd920ff2"), looks := false }, kinds := [], alts := [], laidByText := true, laidKinds := [.data], laidTests := true, laidLooks := .later }
def FnExactDecodeMsrUptoCardSaid : Prop := Claim7.holds Tryd.pinned (.plain (OpenSpec.upto fnExactDecodeMsrSpec)) fnExactDecodeMsrUptoCard

/-- THE SECOND FORM's CARD OF 'laws.FnExactRegeneratePiece'. -/
def fnExactRegeneratePieceUptoCard : Claim7 := { stood := { row := fnExactRegeneratePieceUptoRow, standIns := [], harness := (true, "cf486e891ec232228457d82d4dab8ced2ca5d8cc6f6d39e0c855aadffd920ff2"), looks := false }, kinds := [], alts := [], laidByText := true, laidKinds := [.data], laidTests := true, laidLooks := .later }
def FnExactRegeneratePieceUptoCardSaid : Prop := Claim7.holds Tryd.pinned (.plain (OpenSpec.upto fnExactRegeneratePieceSpec)) fnExactRegeneratePieceUptoCard

/-- THE SECOND FORM's CARD OF 'laws.FnExactLocalMatrix'. -/
def fnExactLocalMatrixUptoCard : Claim7 := { stood := { row := fnExactLocalMatrixUptoRow, standIns := [], harness := (true, "cf486e891ec232228457d82d4dab8ced2ca5d8cc6f6d39e0c855aadffd920ff2"), looks := false }, kinds := [], alts := [], laidByText := true, laidKinds := [.data], laidTests := true, laidLooks := .later }
def FnExactLocalMatrixUptoCardSaid : Prop := Claim7.holds Tryd.pinned (.plain (OpenSpec.upto fnExactLocalMatrixSpec)) fnExactLocalMatrixUptoCard

/-- THE SECOND FORM's CARD OF 'laws.FnExactEncodeLocal'. -/
def fnExactEncodeLocalUptoCard : Claim7 := { stood := { row := fnExactEncodeLocalUptoRow, standIns := [], harness := (true, "cf486e891ec232228457d82d4dab8ced2ca5d8cc6f6d39e0c855aadffd920ff2"), looks := false }, kinds := [], alts := [], laidByText := true, laidKinds := [.data], laidTests := true, laidLooks := .later }
def FnExactEncodeLocalUptoCardSaid : Prop := Claim7.holds Tryd.pinned (.plain (OpenSpec.upto fnExactEncodeLocalSpec)) fnExactEncodeLocalUptoCard

/-- THE SECOND FORM's CARD OF 'laws.FnExactMendLocal'. -/
def fnExactMendLocalUptoCard : Claim7 := { stood := { row := fnExactMendLocalUptoRow, standIns := [], harness := (true, "cf486e891ec232228457d82d4dab8ced2ca5d8cc6f6d39e0c855aadffd920ff2"), looks := false }, kinds := [], alts := [], laidByText := true, laidKinds := [.data], laidTests := true, laidLooks := .later }
def FnExactMendLocalUptoCardSaid : Prop := Claim7.holds Tryd.pinned (.plain (OpenSpec.upto fnExactMendLocalSpec)) fnExactMendLocalUptoCard

/-- THE SECOND FORM's CARD OF 'laws.FnExactCanDecode'. -/
def fnExactCanDecodeUptoCard : Claim7 := { stood := { row := fnExactCanDecodeUptoRow, standIns := [], harness := (true, "cf486e891ec232228457d82d4dab8ced2ca5d8cc6f6d39e0c855aadffd920ff2"), looks := false }, kinds := [], alts := [], laidByText := true, laidKinds := [.data], laidTests := true, laidLooks := .later }
def FnExactCanDecodeUptoCardSaid : Prop := Claim7.holds Tryd.pinned (.plain (OpenSpec.upto fnExactCanDecodeSpec)) fnExactCanDecodeUptoCard
end Rows
end Go.Proofs.YtlkoafnlklhaeaaDoor
