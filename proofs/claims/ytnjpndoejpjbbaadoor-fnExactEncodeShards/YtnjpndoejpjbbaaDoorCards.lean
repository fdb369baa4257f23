/-
  DERIVED. GIVEN WITH THE SEED: THE CARDS: each row of YtnjpndoejpjbbaaDoorRows.lean that lists a variable, with what it lists TIED to the program's text (the seventh form; the later family's looks); each row that meets fmt, with fmt's text TOLD by the authors' own Lean function (tested against real Go, not proved from fmt's source: count such statements apart). THE CARD IS WHAT COUNTS. Prove the row's statement (the work); the ties are given (YtnjpndoejpjbbaaDoorTie.lean); close each card by the builder's one call (the guide's Derived/Test/ToyasCard.lean, 'card_holds'). Laid BY PROGRAM, IN A SANDBOX (cutbox-door.mjs). By AI agents, Wed Nov 11 2026. No macro, syntax, notation, axiom, sorry.
-/
import Derived.Test.YtnjpndoejpjbbaaDoorRows
import GoSem.ClaimSeven
namespace Go.Proofs.YtnjpndoejpjbbaaDoor
namespace Rows

/-- THE TIED CARD OF 'laws.FnAnyFew'. -/
def fnAnyFewCard : Claim7 := { stood := { row := fnAnyFewRow, standIns := [], harness := (true, "02c5a7b76b1a42f33364204bab698d3d3794778be6bf39ed2a8d9817e1f88d96"), looks := false }, kinds := [], alts := [], laidByText := true, laidKinds := [.data], laidTests := true, laidLooks := .later }
def FnAnyFewCardSaid : Prop := Claim7.holds Tryd.pinned (.plain (OpenSpec.ofChange fnAnyFewSpec)) fnAnyFewCard

/-- THE TIED CARD OF 'laws.FnRebuilt'. -/
def fnRebuiltCard : Claim7 := { stood := { row := fnRebuiltRow, standIns := [], harness := (true, "02c5a7b76b1a42f33364204bab698d3d3794778be6bf39ed2a8d9817e1f88d96"), looks := false }, kinds := [], alts := [], laidByText := true, laidKinds := [.data], laidTests := true, laidLooks := .later }
def FnRebuiltCardSaid : Prop := Claim7.holds Tryd.pinned (.plain (OpenSpec.ofChange fnRebuiltSpec)) fnRebuiltCard

/-- THE TIED CARD OF 'laws.FnExactCodeMatrix'. -/
def fnExactCodeMatrixCard : Claim7 := { stood := { row := fnExactCodeMatrixRow, standIns := [], harness := (true, "02c5a7b76b1a42f33364204bab698d3d3794778be6bf39ed2a8d9817e1f88d96"), looks := false }, kinds := [], alts := [], laidByText := true, laidKinds := [.data], laidTests := true, laidLooks := .later }
def FnExactCodeMatrixCardSaid : Prop := Claim7.holds Tryd.pinned (.plain (OpenSpec.ofChange fnExactCodeMatrixSpec)) fnExactCodeMatrixCard

/-- THE TIED CARD OF 'laws.FnExactEncodeShards'. -/
def fnExactEncodeShardsCard : Claim7 := { stood := { row := fnExactEncodeShardsRow, standIns := [], harness := (true, "02c5a7b76b1a42f33364204bab698d3d3794778be6bf39ed2a8d9817e1f88d96"), looks := false }, kinds := [], alts := [], laidByText := true, laidKinds := [.data], laidTests := true, laidLooks := .later }
def FnExactEncodeShardsCardSaid : Prop := Claim7.holds Tryd.pinned (.plain (OpenSpec.ofChange fnExactEncodeShardsSpec)) fnExactEncodeShardsCard

/-- THE TIED CARD OF 'laws.FnExactDecodeShards'. -/
def fnExactDecodeShardsCard : Claim7 := { stood := { row := fnExactDecodeShardsRow, standIns := [], harness := (true, "02c5a7b76b1a42f33364204bab698d3d3794778be6bf39ed2a8d9817e1f88d96"), looks := false }, kinds := [], alts := [], laidByText := true, laidKinds := [.data], laidTests := true, laidLooks := .later }
def FnExactDecodeShardsCardSaid : Prop := Claim7.holds Tryd.pinned (.plain (OpenSpec.ofChange fnExactDecodeShardsSpec)) fnExactDecodeShardsCard

/-- THE TIED CARD OF 'laws.FnExactRebuildShard'. -/
def fnExactRebuildShardCard : Claim7 := { stood := { row := fnExactRebuildShardRow, standIns := [], harness := (true, "02c5a7b76b1a42f33364204bab698d3d3794778be6bf39ed2a8d9817e1f88d96"), looks := false }, kinds := [], alts := [], laidByText := true, laidKinds := [.data], laidTests := true, laidLooks := .later }
def FnExactRebuildShardCardSaid : Prop := Claim7.holds Tryd.pinned (.plain (OpenSpec.ofChange fnExactRebuildShardSpec)) fnExactRebuildShardCard

/-- THE TIED CARD OF 'laws.FnExactCheckShards'. -/
def fnExactCheckShardsCard : Claim7 := { stood := { row := fnExactCheckShardsRow, standIns := [], harness := (true, "02c5a7b76b1a42f33364204bab698d3d3794778be6bf39ed2a8d9817e1f88d96"), looks := false }, kinds := [], alts := [], laidByText := true, laidKinds := [.data], laidTests := true, laidLooks := .later }
def FnExactCheckShardsCardSaid : Prop := Claim7.holds Tryd.pinned (.plain (OpenSpec.ofChange fnExactCheckShardsSpec)) fnExactCheckShardsCard

/-- THE SECOND FORM's CARD OF 'laws.FnAnyFew'. -/
def fnAnyFewUptoCard : Claim7 := { stood := { row := fnAnyFewUptoRow, standIns := [], harness := (true, "02c5a7b76b1a42f33364204bab698d3d3794778be6bf39ed2a8d9817e1f88d96"), looks := false }, kinds := [], alts := [], laidByText := true, laidKinds := [.data], laidTests := true, laidLooks := .later }
def FnAnyFewUptoCardSaid : Prop := Claim7.holds Tryd.pinned (.plain (OpenSpec.upto fnAnyFewSpec)) fnAnyFewUptoCard

/-- THE SECOND FORM's CARD OF 'laws.FnRebuilt'. -/
def fnRebuiltUptoCard : Claim7 := { stood := { row := fnRebuiltUptoRow, standIns := [], harness := (true, "02c5a7b76b1a42f33364204bab698d3d3794778be6bf39ed2a8d9817e1f88d96"), looks := false }, kinds := [], alts := [], laidByText := true, laidKinds := [.data], laidTests := true, laidLooks := .later }
def FnRebuiltUptoCardSaid : Prop := Claim7.holds Tryd.pinned (.plain (OpenSpec.upto fnRebuiltSpec)) fnRebuiltUptoCard

/-- THE SECOND FORM's CARD OF 'laws.FnExactCodeMatrix'. -/
def fnExactCodeMatrixUptoCard : Claim7 := { stood := { row := fnExactCodeMatrixUptoRow, standIns := [], harness := (true, "02c5a7b76b1a42f33364204bab698d3d3794778be6bf39ed2a8d9817e1f88d96"), looks := false }, kinds := [], alts := [], laidByText := true, laidKinds := [.data], laidTests := true, laidLooks := .later }
def FnExactCodeMatrixUptoCardSaid : Prop := Claim7.holds Tryd.pinned (.plain (OpenSpec.upto fnExactCodeMatrixSpec)) fnExactCodeMatrixUptoCard

/-- THE SECOND FORM's CARD OF 'laws.FnExactEncodeShards'. -/
def fnExactEncodeShardsUptoCard : Claim7 := { stood := { row := fnExactEncodeShardsUptoRow, standIns := [], harness := (true, "02c5a7b76b1a42f33364204bab698d3d3794778be6bf39ed2a8d9817e1f88d96"), looks := false }, kinds := [], alts := [], laidByText := true, laidKinds := [.data], laidTests := true, laidLooks := .later }
def FnExactEncodeShardsUptoCardSaid : Prop := Claim7.holds Tryd.pinned (.plain (OpenSpec.upto fnExactEncodeShardsSpec)) fnExactEncodeShardsUptoCard

/-- THE SECOND FORM's CARD OF 'laws.FnExactDecodeShards'. -/
def fnExactDecodeShardsUptoCard : Claim7 := { stood := { row := fnExactDecodeShardsUptoRow, standIns := [], harness := (true, "02c5a7b76b1a42f33364204bab698d3d3794778be6bf39ed2a8d9817e1f88d96"), looks := false }, kinds := [], alts := [], laidByText := true, laidKinds := [.data], laidTests := true, laidLooks := .later }
def FnExactDecodeShardsUptoCardSaid : Prop := Claim7.holds Tryd.pinned (.plain (OpenSpec.upto fnExactDecodeShardsSpec)) fnExactDecodeShardsUptoCard

/-- THE SECOND FORM's CARD OF 'laws.FnExactRebuildShard'. -/
def fnExactRebuildShardUptoCard : Claim7 := { stood := { row := fnExactRebuildShardUptoRow, standIns := [], harness := (true, "02c5a7b76b1a42f33364204bab698d3d3794778be6bf39ed2a8d9817e1f88d96"), looks := false }, kinds := [], alts := [], laidByText := true, laidKinds := [.data], laidTests := true, laidLooks := .later }
def FnExactRebuildShardUptoCardSaid : Prop := Claim7.holds Tryd.pinned (.plain (OpenSpec.upto fnExactRebuildShardSpec)) fnExactRebuildShardUptoCard

/-- THE SECOND FORM's CARD OF 'laws.FnExactCheckShards'. -/
def fnExactCheckShardsUptoCard : Claim7 := { stood := { row := fnExactCheckShardsUptoRow, standIns := [], harness := (true, "02c5a7b76b1a42f33364204bab698d3d3794778be6bf39ed2a8d9817e1f88d96"), looks := false }, kinds := [], alts := [], laidByText := true, laidKinds := [.data], laidTests := true, laidLooks := .later }
def FnExactCheckShardsUptoCardSaid : Prop := Claim7.holds Tryd.pinned (.plain (OpenSpec.upto fnExactCheckShardsSpec)) fnExactCheckShardsUptoCard
end Rows
end Go.Proofs.YtnjpndoejpjbbaaDoor
