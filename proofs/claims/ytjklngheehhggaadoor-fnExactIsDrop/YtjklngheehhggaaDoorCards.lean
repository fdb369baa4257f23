/-
  DERIVED. GIVEN WITH THE SEED: THE CARDS: each row of YtjklngheehhggaaDoorRows.lean that lists a variable, with what it lists TIED to the program's text (the seventh form; the later family's looks); each row that meets fmt, with fmt's text TOLD by the authors' own Lean function (tested against real Go, not proved from fmt's source: count such statements apart). THE CARD IS WHAT COUNTS. Prove the row's statement (the work); the ties are given (YtjklngheehhggaaDoorTie.lean); close each card by the builder's one call (the guide's Derived/Test/ToyasCard.lean, 'card_holds'). Laid BY PROGRAM, IN A SANDBOX (cutbox-door.mjs). By AI agents, Wed Nov 11 2026. No macro, syntax, notation, axiom, sorry.
-/
import Derived.Test.YtjklngheehhggaaDoorRows
import GoSem.ClaimSeven
namespace Go.Proofs.YtjklngheehhggaaDoor
namespace Rows

/-- THE TIED CARD OF 'laws.FnPeeled'. -/
def fnPeeledCard : Claim7 := { stood := { row := fnPeeledRow, standIns := [], harness := (true, "ac7dc833ceb5a5e21804869b3034bc8aac600101ef008c7895acb60dc299d9b1"), looks := false }, kinds := [], alts := [], laidByText := true, laidKinds := [.data], laidTests := true, laidLooks := .later }
def FnPeeledCardSaid : Prop := Claim7.holds Tryd.pinned (.plain (OpenSpec.ofChange fnPeeledSpec)) fnPeeledCard

/-- THE TIED CARD OF 'laws.FnExactMakeDrop'. -/
def fnExactMakeDropCard : Claim7 := { stood := { row := fnExactMakeDropRow, standIns := [], harness := (true, "ac7dc833ceb5a5e21804869b3034bc8aac600101ef008c7895acb60dc299d9b1"), looks := false }, kinds := [], alts := [], laidByText := true, laidKinds := [.data], laidTests := true, laidLooks := .later }
def FnExactMakeDropCardSaid : Prop := Claim7.holds Tryd.pinned (.plain (OpenSpec.ofChange fnExactMakeDropSpec)) fnExactMakeDropCard

/-- THE TIED CARD OF 'laws.FnExactSolveDrops'. -/
def fnExactSolveDropsCard : Claim7 := { stood := { row := fnExactSolveDropsRow, standIns := [], harness := (true, "ac7dc833ceb5a5e21804869b3034bc8aac600101ef008c7895acb60dc299d9b1"), looks := false }, kinds := [], alts := [], laidByText := true, laidKinds := [.data], laidTests := true, laidLooks := .later }
def FnExactSolveDropsCardSaid : Prop := Claim7.holds Tryd.pinned (.plain (OpenSpec.ofChange fnExactSolveDropsSpec)) fnExactSolveDropsCard

/-- THE TIED CARD OF 'laws.FnExactIsDrop'. -/
def fnExactIsDropCard : Claim7 := { stood := { row := fnExactIsDropRow, standIns := [], harness := (true, "ac7dc833ceb5a5e21804869b3034bc8aac600101ef008c7895acb60dc299d9b1"), looks := false }, kinds := [], alts := [], laidByText := true, laidKinds := [.data], laidTests := true, laidLooks := .later }
def FnExactIsDropCardSaid : Prop := Claim7.holds Tryd.pinned (.plain (OpenSpec.ofChange fnExactIsDropSpec)) fnExactIsDropCard

/-- THE TIED CARD OF 'laws.FnMerged'. -/
def fnMergedCard : Claim7 := { stood := { row := fnMergedRow, standIns := [], harness := (true, "ac7dc833ceb5a5e21804869b3034bc8aac600101ef008c7895acb60dc299d9b1"), looks := false }, kinds := [], alts := [], laidByText := true, laidKinds := [.data], laidTests := true, laidLooks := .later }
def FnMergedCardSaid : Prop := Claim7.holds Tryd.pinned (.plain (OpenSpec.ofChange fnMergedSpec)) fnMergedCard

/-- THE TIED CARD OF 'laws.FnRebuilt'. -/
def fnRebuiltCard : Claim7 := { stood := { row := fnRebuiltRow, standIns := [], harness := (true, "ac7dc833ceb5a5e21804869b3034bc8aac600101ef008c7895acb60dc299d9b1"), looks := false }, kinds := [], alts := [], laidByText := true, laidKinds := [.data], laidTests := true, laidLooks := .later }
def FnRebuiltCardSaid : Prop := Claim7.holds Tryd.pinned (.plain (OpenSpec.ofChange fnRebuiltSpec)) fnRebuiltCard

/-- THE TIED CARD OF 'laws.FnExactMendLocal'. -/
def fnExactMendLocalCard : Claim7 := { stood := { row := fnExactMendLocalRow, standIns := [], harness := (true, "ac7dc833ceb5a5e21804869b3034bc8aac600101ef008c7895acb60dc299d9b1"), looks := false }, kinds := [], alts := [], laidByText := true, laidKinds := [.data], laidTests := true, laidLooks := .later }
def FnExactMendLocalCardSaid : Prop := Claim7.holds Tryd.pinned (.plain (OpenSpec.ofChange fnExactMendLocalSpec)) fnExactMendLocalCard

/-- THE SECOND FORM's CARD OF 'laws.FnPeeled'. -/
def fnPeeledUptoCard : Claim7 := { stood := { row := fnPeeledUptoRow, standIns := [], harness := (true, "ac7dc833ceb5a5e21804869b3034bc8aac600101ef008c7895acb60dc299d9b1"), looks := false }, kinds := [], alts := [], laidByText := true, laidKinds := [.data], laidTests := true, laidLooks := .later }
def FnPeeledUptoCardSaid : Prop := Claim7.holds Tryd.pinned (.plain (OpenSpec.upto fnPeeledSpec)) fnPeeledUptoCard

/-- THE SECOND FORM's CARD OF 'laws.FnExactMakeDrop'. -/
def fnExactMakeDropUptoCard : Claim7 := { stood := { row := fnExactMakeDropUptoRow, standIns := [], harness := (true, "ac7dc833ceb5a5e21804869b3034bc8aac600101ef008c7895acb60dc299d9b1"), looks := false }, kinds := [], alts := [], laidByText := true, laidKinds := [.data], laidTests := true, laidLooks := .later }
def FnExactMakeDropUptoCardSaid : Prop := Claim7.holds Tryd.pinned (.plain (OpenSpec.upto fnExactMakeDropSpec)) fnExactMakeDropUptoCard

/-- THE SECOND FORM's CARD OF 'laws.FnExactSolveDrops'. -/
def fnExactSolveDropsUptoCard : Claim7 := { stood := { row := fnExactSolveDropsUptoRow, standIns := [], harness := (true, "ac7dc833ceb5a5e21804869b3034bc8aac600101ef008c7895acb60dc299d9b1"), looks := false }, kinds := [], alts := [], laidByText := true, laidKinds := [.data], laidTests := true, laidLooks := .later }
def FnExactSolveDropsUptoCardSaid : Prop := Claim7.holds Tryd.pinned (.plain (OpenSpec.upto fnExactSolveDropsSpec)) fnExactSolveDropsUptoCard

/-- THE SECOND FORM's CARD OF 'laws.FnExactIsDrop'. -/
def fnExactIsDropUptoCard : Claim7 := { stood := { row := fnExactIsDropUptoRow, standIns := [], harness := (true, "ac7dc833ceb5a5e21804869b3034bc8aac600101ef008c7895acb60dc299d9b1"), looks := false }, kinds := [], alts := [], laidByText := true, laidKinds := [.data], laidTests := true, laidLooks := .later }
def FnExactIsDropUptoCardSaid : Prop := Claim7.holds Tryd.pinned (.plain (OpenSpec.upto fnExactIsDropSpec)) fnExactIsDropUptoCard

/-- THE SECOND FORM's CARD OF 'laws.FnMerged'. -/
def fnMergedUptoCard : Claim7 := { stood := { row := fnMergedUptoRow, standIns := [], harness := (true, "ac7dc833ceb5a5e21804869b3034bc8aac600101ef008c7895acb60dc299d9b1"), looks := false }, kinds := [], alts := [], laidByText := true, laidKinds := [.data], laidTests := true, laidLooks := .later }
def FnMergedUptoCardSaid : Prop := Claim7.holds Tryd.pinned (.plain (OpenSpec.upto fnMergedSpec)) fnMergedUptoCard

/-- THE SECOND FORM's CARD OF 'laws.FnRebuilt'. -/
def fnRebuiltUptoCard : Claim7 := { stood := { row := fnRebuiltUptoRow, standIns := [], harness := (true, "ac7dc833ceb5a5e21804869b3034bc8aac600101ef008c7895acb60dc299d9b1"), looks := false }, kinds := [], alts := [], laidByText := true, laidKinds := [.data], laidTests := true, laidLooks := .later }
def FnRebuiltUptoCardSaid : Prop := Claim7.holds Tryd.pinned (.plain (OpenSpec.upto fnRebuiltSpec)) fnRebuiltUptoCard

/-- THE SECOND FORM's CARD OF 'laws.FnExactMendLocal'. -/
def fnExactMendLocalUptoCard : Claim7 := { stood := { row := fnExactMendLocalUptoRow, standIns := [], harness := (true, "ac7dc833ceb5a5e21804869b3034bc8aac600101ef008c7895acb60dc299d9b1"), looks := false }, kinds := [], alts := [], laidByText := true, laidKinds := [.data], laidTests := true, laidLooks := .later }
def FnExactMendLocalUptoCardSaid : Prop := Claim7.holds Tryd.pinned (.plain (OpenSpec.upto fnExactMendLocalSpec)) fnExactMendLocalUptoCard
end Rows
end Go.Proofs.YtjklngheehhggaaDoor
