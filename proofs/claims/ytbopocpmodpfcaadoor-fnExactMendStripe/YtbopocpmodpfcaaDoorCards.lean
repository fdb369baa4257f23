/-
  DERIVED. GIVEN WITH THE SEED: THE CARDS: each row of YtbopocpmodpfcaaDoorRows.lean that lists a variable, with what it lists TIED to the program's text (the seventh form; the later family's looks); each row that meets fmt, with fmt's text TOLD by the authors' own Lean function (tested against real Go, not proved from fmt's source: count such statements apart). THE CARD IS WHAT COUNTS. Prove the row's statement (the work); the ties are given (YtbopocpmodpfcaaDoorTie.lean); close each card by the builder's one call (the guide's Derived/Test/ToyasCard.lean, 'card_holds'). Laid BY PROGRAM, IN A SANDBOX (cutbox-door.mjs). By AI agents, Wed Nov 11 2026. No macro, syntax, notation, axiom, sorry.
-/
import Derived.Test.YtbopocpmodpfcaaDoorRows
import GoSem.ClaimSeven
namespace Go.Proofs.YtbopocpmodpfcaaDoor
namespace Rows

/-- THE TIED CARD OF 'laws.FnMerged'. -/
def fnMergedCard : Claim7 := { stood := { row := fnMergedRow, standIns := [], harness := (true, "b902902e1dd568034d246b76e5becd905a48cb777670cdba97ecf57579c2d6c1"), looks := false }, kinds := [], alts := [], laidByText := true, laidKinds := [.data], laidTests := true, laidLooks := .later }
def FnMergedCardSaid : Prop := Claim7.holds Tryd.pinned (.plain (OpenSpec.ofChange fnMergedSpec)) fnMergedCard

/-- THE TIED CARD OF 'laws.FnMended'. -/
def fnMendedCard : Claim7 := { stood := { row := fnMendedRow, standIns := [], harness := (true, "b902902e1dd568034d246b76e5becd905a48cb777670cdba97ecf57579c2d6c1"), looks := false }, kinds := [], alts := [], laidByText := true, laidKinds := [.data], laidTests := true, laidLooks := .later }
def FnMendedCardSaid : Prop := Claim7.holds Tryd.pinned (.plain (OpenSpec.ofChange fnMendedSpec)) fnMendedCard

/-- THE TIED CARD OF 'laws.FnExactParityMatrix'. -/
def fnExactParityMatrixCard : Claim7 := { stood := { row := fnExactParityMatrixRow, standIns := [], harness := (true, "b902902e1dd568034d246b76e5becd905a48cb777670cdba97ecf57579c2d6c1"), looks := false }, kinds := [], alts := [], laidByText := true, laidKinds := [.data], laidTests := true, laidLooks := .later }
def FnExactParityMatrixCardSaid : Prop := Claim7.holds Tryd.pinned (.plain (OpenSpec.ofChange fnExactParityMatrixSpec)) fnExactParityMatrixCard

/-- THE TIED CARD OF 'laws.FnExactMakeStripe'. -/
def fnExactMakeStripeCard : Claim7 := { stood := { row := fnExactMakeStripeRow, standIns := [], harness := (true, "b902902e1dd568034d246b76e5becd905a48cb777670cdba97ecf57579c2d6c1"), looks := false }, kinds := [], alts := [], laidByText := true, laidKinds := [.data], laidTests := true, laidLooks := .later }
def FnExactMakeStripeCardSaid : Prop := Claim7.holds Tryd.pinned (.plain (OpenSpec.ofChange fnExactMakeStripeSpec)) fnExactMakeStripeCard

/-- THE TIED CARD OF 'laws.FnExactIsRight'. -/
def fnExactIsRightCard : Claim7 := { stood := { row := fnExactIsRightRow, standIns := [], harness := (true, "b902902e1dd568034d246b76e5becd905a48cb777670cdba97ecf57579c2d6c1"), looks := false }, kinds := [], alts := [], laidByText := true, laidKinds := [.data], laidTests := true, laidLooks := .later }
def FnExactIsRightCardSaid : Prop := Claim7.holds Tryd.pinned (.plain (OpenSpec.ofChange fnExactIsRightSpec)) fnExactIsRightCard

/-- THE TIED CARD OF 'laws.FnExactMergeStripes'. -/
def fnExactMergeStripesCard : Claim7 := { stood := { row := fnExactMergeStripesRow, standIns := [], harness := (true, "b902902e1dd568034d246b76e5becd905a48cb777670cdba97ecf57579c2d6c1"), looks := false }, kinds := [], alts := [], laidByText := true, laidKinds := [.data], laidTests := true, laidLooks := .later }
def FnExactMergeStripesCardSaid : Prop := Claim7.holds Tryd.pinned (.plain (OpenSpec.ofChange fnExactMergeStripesSpec)) fnExactMergeStripesCard

/-- THE TIED CARD OF 'laws.FnExactChangeStripe'. -/
def fnExactChangeStripeCard : Claim7 := { stood := { row := fnExactChangeStripeRow, standIns := [], harness := (true, "b902902e1dd568034d246b76e5becd905a48cb777670cdba97ecf57579c2d6c1"), looks := false }, kinds := [], alts := [], laidByText := true, laidKinds := [.data], laidTests := true, laidLooks := .later }
def FnExactChangeStripeCardSaid : Prop := Claim7.holds Tryd.pinned (.plain (OpenSpec.ofChange fnExactChangeStripeSpec)) fnExactChangeStripeCard

/-- THE TIED CARD OF 'laws.FnExactAddStripes'. -/
def fnExactAddStripesCard : Claim7 := { stood := { row := fnExactAddStripesRow, standIns := [], harness := (true, "b902902e1dd568034d246b76e5becd905a48cb777670cdba97ecf57579c2d6c1"), looks := false }, kinds := [], alts := [], laidByText := true, laidKinds := [.data], laidTests := true, laidLooks := .later }
def FnExactAddStripesCardSaid : Prop := Claim7.holds Tryd.pinned (.plain (OpenSpec.ofChange fnExactAddStripesSpec)) fnExactAddStripesCard

/-- THE TIED CARD OF 'laws.FnExactMendStripe'. -/
def fnExactMendStripeCard : Claim7 := { stood := { row := fnExactMendStripeRow, standIns := [], harness := (true, "b902902e1dd568034d246b76e5becd905a48cb777670cdba97ecf57579c2d6c1"), looks := false }, kinds := [], alts := [], laidByText := true, laidKinds := [.data], laidTests := true, laidLooks := .later }
def FnExactMendStripeCardSaid : Prop := Claim7.holds Tryd.pinned (.plain (OpenSpec.ofChange fnExactMendStripeSpec)) fnExactMendStripeCard

/-- THE SECOND FORM's CARD OF 'laws.FnMerged'. -/
def fnMergedUptoCard : Claim7 := { stood := { row := fnMergedUptoRow, standIns := [], harness := (true, "b902902e1dd568034d246b76e5becd905a48cb777670cdba97ecf57579c2d6c1"), looks := false }, kinds := [], alts := [], laidByText := true, laidKinds := [.data], laidTests := true, laidLooks := .later }
def FnMergedUptoCardSaid : Prop := Claim7.holds Tryd.pinned (.plain (OpenSpec.upto fnMergedSpec)) fnMergedUptoCard

/-- THE SECOND FORM's CARD OF 'laws.FnMended'. -/
def fnMendedUptoCard : Claim7 := { stood := { row := fnMendedUptoRow, standIns := [], harness := (true, "b902902e1dd568034d246b76e5becd905a48cb777670cdba97ecf57579c2d6c1"), looks := false }, kinds := [], alts := [], laidByText := true, laidKinds := [.data], laidTests := true, laidLooks := .later }
def FnMendedUptoCardSaid : Prop := Claim7.holds Tryd.pinned (.plain (OpenSpec.upto fnMendedSpec)) fnMendedUptoCard

/-- THE SECOND FORM's CARD OF 'laws.FnExactParityMatrix'. -/
def fnExactParityMatrixUptoCard : Claim7 := { stood := { row := fnExactParityMatrixUptoRow, standIns := [], harness := (true, "b902902e1dd568034d246b76e5becd905a48cb777670cdba97ecf57579c2d6c1"), looks := false }, kinds := [], alts := [], laidByText := true, laidKinds := [.data], laidTests := true, laidLooks := .later }
def FnExactParityMatrixUptoCardSaid : Prop := Claim7.holds Tryd.pinned (.plain (OpenSpec.upto fnExactParityMatrixSpec)) fnExactParityMatrixUptoCard

/-- THE SECOND FORM's CARD OF 'laws.FnExactMakeStripe'. -/
def fnExactMakeStripeUptoCard : Claim7 := { stood := { row := fnExactMakeStripeUptoRow, standIns := [], harness := (true, "b902902e1dd568034d246b76e5becd905a48cb777670cdba97ecf57579c2d6c1"), looks := false }, kinds := [], alts := [], laidByText := true, laidKinds := [.data], laidTests := true, laidLooks := .later }
def FnExactMakeStripeUptoCardSaid : Prop := Claim7.holds Tryd.pinned (.plain (OpenSpec.upto fnExactMakeStripeSpec)) fnExactMakeStripeUptoCard

/-- THE SECOND FORM's CARD OF 'laws.FnExactIsRight'. -/
def fnExactIsRightUptoCard : Claim7 := { stood := { row := fnExactIsRightUptoRow, standIns := [], harness := (true, "b902902e1dd568034d246b76e5becd905a48cb777670cdba97ecf57579c2d6c1"), looks := false }, kinds := [], alts := [], laidByText := true, laidKinds := [.data], laidTests := true, laidLooks := .later }
def FnExactIsRightUptoCardSaid : Prop := Claim7.holds Tryd.pinned (.plain (OpenSpec.upto fnExactIsRightSpec)) fnExactIsRightUptoCard

/-- THE SECOND FORM's CARD OF 'laws.FnExactMergeStripes'. -/
def fnExactMergeStripesUptoCard : Claim7 := { stood := { row := fnExactMergeStripesUptoRow, standIns := [], harness := (true, "b902902e1dd568034d246b76e5becd905a48cb777670cdba97ecf57579c2d6c1"), looks := false }, kinds := [], alts := [], laidByText := true, laidKinds := [.data], laidTests := true, laidLooks := .later }
def FnExactMergeStripesUptoCardSaid : Prop := Claim7.holds Tryd.pinned (.plain (OpenSpec.upto fnExactMergeStripesSpec)) fnExactMergeStripesUptoCard

/-- THE SECOND FORM's CARD OF 'laws.FnExactChangeStripe'. -/
def fnExactChangeStripeUptoCard : Claim7 := { stood := { row := fnExactChangeStripeUptoRow, standIns := [], harness := (true, "b902902e1dd568034d246b76e5becd905a48cb777670cdba97ecf57579c2d6c1"), looks := false }, kinds := [], alts := [], laidByText := true, laidKinds := [.data], laidTests := true, laidLooks := .later }
def FnExactChangeStripeUptoCardSaid : Prop := Claim7.holds Tryd.pinned (.plain (OpenSpec.upto fnExactChangeStripeSpec)) fnExactChangeStripeUptoCard

/-- THE SECOND FORM's CARD OF 'laws.FnExactAddStripes'. -/
def fnExactAddStripesUptoCard : Claim7 := { stood := { row := fnExactAddStripesUptoRow, standIns := [], harness := (true, "b902902e1dd568034d246b76e5becd905a48cb777670cdba97ecf57579c2d6c1"), looks := false }, kinds := [], alts := [], laidByText := true, laidKinds := [.data], laidTests := true, laidLooks := .later }
def FnExactAddStripesUptoCardSaid : Prop := Claim7.holds Tryd.pinned (.plain (OpenSpec.upto fnExactAddStripesSpec)) fnExactAddStripesUptoCard

/-- THE SECOND FORM's CARD OF 'laws.FnExactMendStripe'. -/
def fnExactMendStripeUptoCard : Claim7 := { stood := { row := fnExactMendStripeUptoRow, standIns := [], harness := (true, "b902902e1dd568034d246b76e5becd905a48cb777670cdba97ecf57579c2d6c1"), looks := false }, kinds := [], alts := [], laidByText := true, laidKinds := [.data], laidTests := true, laidLooks := .later }
def FnExactMendStripeUptoCardSaid : Prop := Claim7.holds Tryd.pinned (.plain (OpenSpec.upto fnExactMendStripeSpec)) fnExactMendStripeUptoCard
end Rows
end Go.Proofs.YtbopocpmodpfcaaDoor
