/-
  DERIVED. GIVEN WITH THE SEED: THE CARDS: each row of YtfglkgeeelapgaaDoorRows.lean that lists a variable, with what it lists TIED to the program's text (the seventh form; the later family's looks); each row that meets fmt, with fmt's text TOLD by the authors' own Lean function (tested against real Go, not proved from fmt's source: count such statements apart). THE CARD IS WHAT COUNTS. Prove the row's statement (the work); the ties are given (YtfglkgeeelapgaaDoorTie.lean); close each card by the builder's one call (the guide's Derived/Test/ToyasCard.lean, 'card_holds'). Laid BY PROGRAM, IN A SANDBOX (cutbox-door.mjs). By AI agents, Wed Nov 11 2026. No macro, syntax, notation, axiom, sorry.
-/
import Derived.Test.YtfglkgeeelapgaaDoorRows
import GoSem.ClaimSeven
namespace Go.Proofs.YtfglkgeeelapgaaDoor
namespace Rows

/-- THE TIED CARD OF 'laws.FnMerged'. -/
def fnMergedCard : Claim7 := { stood := { row := fnMergedRow, standIns := [], harness := (true, "cd8bacb933dba6765e4ac8494e809f4a0d96ecd5b5cb287593ef44225ed95d75"), looks := true }, kinds := [], alts := [], laidByText := true, laidKinds := [.data], laidTests := true, laidLooks := .later }
def FnMergedCardSaid : Prop := Claim7.holds Tryd.pinned (.plain (OpenSpec.ofChange fnMergedSpec)) fnMergedCard

/-- THE TIED CARD OF 'laws.FnMended'. -/
def fnMendedCard : Claim7 := { stood := { row := fnMendedRow, standIns := [], harness := (true, "cd8bacb933dba6765e4ac8494e809f4a0d96ecd5b5cb287593ef44225ed95d75"), looks := true }, kinds := [], alts := [], laidByText := true, laidKinds := [.data], laidTests := true, laidLooks := .later }
def FnMendedCardSaid : Prop := Claim7.holds Tryd.pinned (.plain (OpenSpec.ofChange fnMendedSpec)) fnMendedCard

/-- THE TIED CARD OF 'laws.FnExactGeneratorOf'. -/
def fnExactGeneratorOfCard : Claim7 := { stood := { row := fnExactGeneratorOfRow, standIns := [], harness := (true, "cd8bacb933dba6765e4ac8494e809f4a0d96ecd5b5cb287593ef44225ed95d75"), looks := true }, kinds := [], alts := [], laidByText := true, laidKinds := [.data], laidTests := true, laidLooks := .later }
def FnExactGeneratorOfCardSaid : Prop := Claim7.holds Tryd.pinned (.plain (OpenSpec.ofChange fnExactGeneratorOfSpec)) fnExactGeneratorOfCard

/-- THE TIED CARD OF 'laws.FnExactEncodeWord'. -/
def fnExactEncodeWordCard : Claim7 := { stood := { row := fnExactEncodeWordRow, standIns := [], harness := (true, "cd8bacb933dba6765e4ac8494e809f4a0d96ecd5b5cb287593ef44225ed95d75"), looks := true }, kinds := [], alts := [], laidByText := true, laidKinds := [.data], laidTests := true, laidLooks := .later }
def FnExactEncodeWordCardSaid : Prop := Claim7.holds Tryd.pinned (.plain (OpenSpec.ofChange fnExactEncodeWordSpec)) fnExactEncodeWordCard

/-- THE TIED CARD OF 'laws.FnExactSyndromesOf'. -/
def fnExactSyndromesOfCard : Claim7 := { stood := { row := fnExactSyndromesOfRow, standIns := [], harness := (true, "cd8bacb933dba6765e4ac8494e809f4a0d96ecd5b5cb287593ef44225ed95d75"), looks := true }, kinds := [], alts := [], laidByText := true, laidKinds := [.data], laidTests := true, laidLooks := .later }
def FnExactSyndromesOfCardSaid : Prop := Claim7.holds Tryd.pinned (.plain (OpenSpec.ofChange fnExactSyndromesOfSpec)) fnExactSyndromesOfCard

/-- THE TIED CARD OF 'laws.FnExactIsWord'. -/
def fnExactIsWordCard : Claim7 := { stood := { row := fnExactIsWordRow, standIns := [], harness := (true, "cd8bacb933dba6765e4ac8494e809f4a0d96ecd5b5cb287593ef44225ed95d75"), looks := true }, kinds := [], alts := [], laidByText := true, laidKinds := [.data, .sentinel, .sentinel], laidTests := true, laidLooks := .later }
def FnExactIsWordCardSaid : Prop := Claim7.holds Tryd.pinned (.plain (OpenSpec.ofChange fnExactIsWordSpec)) fnExactIsWordCard

/-- THE TIED CARD OF 'laws.FnExactDataOf'. -/
def fnExactDataOfCard : Claim7 := { stood := { row := fnExactDataOfRow, standIns := [], harness := (true, "cd8bacb933dba6765e4ac8494e809f4a0d96ecd5b5cb287593ef44225ed95d75"), looks := true }, kinds := [], alts := [], laidByText := true, laidKinds := [.data, .sentinel], laidTests := true, laidLooks := .later }
def FnExactDataOfCardSaid : Prop := Claim7.holds Tryd.pinned (.plain (OpenSpec.ofChange fnExactDataOfSpec)) fnExactDataOfCard

/-- THE SECOND FORM's CARD OF 'laws.FnMerged'. -/
def fnMergedUptoCard : Claim7 := { stood := { row := fnMergedUptoRow, standIns := [], harness := (true, "cd8bacb933dba6765e4ac8494e809f4a0d96ecd5b5cb287593ef44225ed95d75"), looks := true }, kinds := [], alts := [], laidByText := true, laidKinds := [.data], laidTests := true, laidLooks := .later }
def FnMergedUptoCardSaid : Prop := Claim7.holds Tryd.pinned (.plain (OpenSpec.upto fnMergedSpec)) fnMergedUptoCard

/-- THE SECOND FORM's CARD OF 'laws.FnMended'. -/
def fnMendedUptoCard : Claim7 := { stood := { row := fnMendedUptoRow, standIns := [], harness := (true, "cd8bacb933dba6765e4ac8494e809f4a0d96ecd5b5cb287593ef44225ed95d75"), looks := true }, kinds := [], alts := [], laidByText := true, laidKinds := [.data], laidTests := true, laidLooks := .later }
def FnMendedUptoCardSaid : Prop := Claim7.holds Tryd.pinned (.plain (OpenSpec.upto fnMendedSpec)) fnMendedUptoCard

/-- THE SECOND FORM's CARD OF 'laws.FnExactGeneratorOf'. -/
def fnExactGeneratorOfUptoCard : Claim7 := { stood := { row := fnExactGeneratorOfUptoRow, standIns := [], harness := (true, "cd8bacb933dba6765e4ac8494e809f4a0d96ecd5b5cb287593ef44225ed95d75"), looks := true }, kinds := [], alts := [], laidByText := true, laidKinds := [.data], laidTests := true, laidLooks := .later }
def FnExactGeneratorOfUptoCardSaid : Prop := Claim7.holds Tryd.pinned (.plain (OpenSpec.upto fnExactGeneratorOfSpec)) fnExactGeneratorOfUptoCard

/-- THE SECOND FORM's CARD OF 'laws.FnExactEncodeWord'. -/
def fnExactEncodeWordUptoCard : Claim7 := { stood := { row := fnExactEncodeWordUptoRow, standIns := [], harness := (true, "cd8bacb933dba6765e4ac8494e809f4a0d96ecd5b5cb287593ef44225ed95d75"), looks := true }, kinds := [], alts := [], laidByText := true, laidKinds := [.data], laidTests := true, laidLooks := .later }
def FnExactEncodeWordUptoCardSaid : Prop := Claim7.holds Tryd.pinned (.plain (OpenSpec.upto fnExactEncodeWordSpec)) fnExactEncodeWordUptoCard

/-- THE SECOND FORM's CARD OF 'laws.FnExactSyndromesOf'. -/
def fnExactSyndromesOfUptoCard : Claim7 := { stood := { row := fnExactSyndromesOfUptoRow, standIns := [], harness := (true, "cd8bacb933dba6765e4ac8494e809f4a0d96ecd5b5cb287593ef44225ed95d75"), looks := true }, kinds := [], alts := [], laidByText := true, laidKinds := [.data], laidTests := true, laidLooks := .later }
def FnExactSyndromesOfUptoCardSaid : Prop := Claim7.holds Tryd.pinned (.plain (OpenSpec.upto fnExactSyndromesOfSpec)) fnExactSyndromesOfUptoCard

/-- THE SECOND FORM's CARD OF 'laws.FnExactIsWord'. -/
def fnExactIsWordUptoCard : Claim7 := { stood := { row := fnExactIsWordUptoRow, standIns := [], harness := (true, "cd8bacb933dba6765e4ac8494e809f4a0d96ecd5b5cb287593ef44225ed95d75"), looks := true }, kinds := [], alts := [], laidByText := true, laidKinds := [.data, .sentinel, .sentinel], laidTests := true, laidLooks := .later }
def FnExactIsWordUptoCardSaid : Prop := Claim7.holds Tryd.pinned (.plain (OpenSpec.upto fnExactIsWordSpec)) fnExactIsWordUptoCard

/-- THE SECOND FORM's CARD OF 'laws.FnExactDataOf'. -/
def fnExactDataOfUptoCard : Claim7 := { stood := { row := fnExactDataOfUptoRow, standIns := [], harness := (true, "cd8bacb933dba6765e4ac8494e809f4a0d96ecd5b5cb287593ef44225ed95d75"), looks := true }, kinds := [], alts := [], laidByText := true, laidKinds := [.data, .sentinel], laidTests := true, laidLooks := .later }
def FnExactDataOfUptoCardSaid : Prop := Claim7.holds Tryd.pinned (.plain (OpenSpec.upto fnExactDataOfSpec)) fnExactDataOfUptoCard
end Rows
end Go.Proofs.YtfglkgeeelapgaaDoor
