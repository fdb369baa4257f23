/-
  DERIVED. GIVEN WITH THE SEED: THE CARDS: each row of YtblfobbeojdihaaGreatDoorRows.lean that lists a variable, with what it lists TIED to the program's text (the seventh form; the later family's looks); each row that meets fmt, with fmt's text TOLD by the authors' own Lean function (tested against real Go, not proved from fmt's source: count such statements apart). THE CARD IS WHAT COUNTS. Prove the row's statement (the work); the ties are given (YtblfobbeojdihaaGreatDoorTie.lean); close each card by the builder's one call (the guide's Derived/Test/ToyasCard.lean, 'card_holds'). Laid BY PROGRAM, IN A SANDBOX (cutbox-door.mjs). By AI agents, Wed Nov 11 2026. No macro, syntax, notation, axiom, sorry.
-/
import Derived.Test.YtblfobbeojdihaaGreatDoorRows
import GoSem.ClaimSeven
namespace Go.Proofs.YtblfobbeojdihaaGreatDoor
namespace Rows

/-- THE TIED CARD OF 'laws.FnCorrected'. -/
def fnCorrectedCard : Claim7 := { stood := { row := fnCorrectedRow, standIns := [], harness := (true, "068534ee4ff13b2a34c118ad40627f3b75a09fa50ca79c348927a6199a3554a8"), looks := true }, kinds := [], alts := [], laidByText := true, laidKinds := [.handle, .data, .sentinel, .sentinel], laidTests := true, laidLooks := .later }
def FnCorrectedCardSaid : Prop := Claim7.holds Tryz.pinned (.plain (OpenSpec.ofChange fnCorrectedSpec)) fnCorrectedCard

/-- THE TIED CARD OF 'laws.FnSpaced'. -/
def fnSpacedCard : Claim7 := { stood := { row := fnSpacedRow, standIns := [], harness := (true, "068534ee4ff13b2a34c118ad40627f3b75a09fa50ca79c348927a6199a3554a8"), looks := true }, kinds := [], alts := [], laidByText := true, laidKinds := [.data, .sentinel, .sentinel], laidTests := true, laidLooks := .later }
def FnSpacedCardSaid : Prop := Claim7.holds Tryz.pinned (.plain (OpenSpec.ofChange fnSpacedSpec)) fnSpacedCard

/-- THE SECOND FORM's CARD OF 'laws.FnCorrected'. -/
def fnCorrectedUptoCard : Claim7 := { stood := { row := fnCorrectedUptoRow, standIns := [], harness := (true, "068534ee4ff13b2a34c118ad40627f3b75a09fa50ca79c348927a6199a3554a8"), looks := true }, kinds := [], alts := [], laidByText := true, laidKinds := [.handle, .data, .sentinel, .sentinel], laidTests := true, laidLooks := .later }
def FnCorrectedUptoCardSaid : Prop := Claim7.holds Tryz.pinned (.plain (OpenSpec.upto fnCorrectedSpec)) fnCorrectedUptoCard

/-- THE SECOND FORM's CARD OF 'laws.FnSpaced'. -/
def fnSpacedUptoCard : Claim7 := { stood := { row := fnSpacedUptoRow, standIns := [], harness := (true, "068534ee4ff13b2a34c118ad40627f3b75a09fa50ca79c348927a6199a3554a8"), looks := true }, kinds := [], alts := [], laidByText := true, laidKinds := [.data, .sentinel, .sentinel], laidTests := true, laidLooks := .later }
def FnSpacedUptoCardSaid : Prop := Claim7.holds Tryz.pinned (.plain (OpenSpec.upto fnSpacedSpec)) fnSpacedUptoCard
end Rows
end Go.Proofs.YtblfobbeojdihaaGreatDoor
