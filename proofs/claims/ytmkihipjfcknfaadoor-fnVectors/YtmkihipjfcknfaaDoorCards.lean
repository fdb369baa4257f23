/-
  DERIVED. GIVEN WITH THE SEED: THE CARDS: each row of YtmkihipjfcknfaaDoorRows.lean that lists a variable, with what it lists TIED to the program's text (the seventh form; the later family's looks); each row that meets fmt, with fmt's text TOLD by the authors' own Lean function (tested against real Go, not proved from fmt's source: count such statements apart). THE CARD IS WHAT COUNTS. Prove the row's statement (the work); the ties are given (YtmkihipjfcknfaaDoorTie.lean); close each card by the builder's one call (the guide's Derived/Test/ToyasCard.lean, 'card_holds'). Laid BY PROGRAM, IN A SANDBOX (cutbox-door.mjs). By AI agents, Wed Nov 11 2026. No macro, syntax, notation, axiom, sorry.
-/
import Derived.Test.YtmkihipjfcknfaaDoorRows
import GoSem.ClaimSeven
namespace Go.Proofs.YtmkihipjfcknfaaDoor
namespace Rows

/-- THE TIED CARD OF 'laws.FnField'. -/
def fnFieldCard : Claim7 := { stood := { row := fnFieldRow, standIns := [], harness := (true, "f1cbcc11684638d26728d0c08cc82125d3ade54b69f372fd44d497d9bd16d0e7"), looks := false }, kinds := [], alts := [], laidByText := true, laidKinds := [.data], laidTests := true, laidLooks := .later }
def FnFieldCardSaid : Prop := Claim7.holds Tryd.pinned (.plain (OpenSpec.ofChange fnFieldSpec)) fnFieldCard

/-- THE TIED CARD OF 'laws.FnVectors'. -/
def fnVectorsCard : Claim7 := { stood := { row := fnVectorsRow, standIns := [], harness := (true, "f1cbcc11684638d26728d0c08cc82125d3ade54b69f372fd44d497d9bd16d0e7"), looks := false }, kinds := [], alts := [], laidByText := true, laidKinds := [.data], laidTests := true, laidLooks := .later }
def FnVectorsCardSaid : Prop := Claim7.holds Tryd.pinned (.plain (OpenSpec.ofChange fnVectorsSpec)) fnVectorsCard

/-- THE TIED CARD OF 'laws.FnExactTimes'. -/
def fnExactTimesCard : Claim7 := { stood := { row := fnExactTimesRow, standIns := [], harness := (true, "f1cbcc11684638d26728d0c08cc82125d3ade54b69f372fd44d497d9bd16d0e7"), looks := false }, kinds := [], alts := [], laidByText := true, laidKinds := [.data], laidTests := true, laidLooks := .later }
def FnExactTimesCardSaid : Prop := Claim7.holds Tryd.pinned (.plain (OpenSpec.ofChange fnExactTimesSpec)) fnExactTimesCard

/-- THE TIED CARD OF 'laws.FnExactInverse'. -/
def fnExactInverseCard : Claim7 := { stood := { row := fnExactInverseRow, standIns := [], harness := (true, "f1cbcc11684638d26728d0c08cc82125d3ade54b69f372fd44d497d9bd16d0e7"), looks := false }, kinds := [], alts := [], laidByText := true, laidKinds := [.data], laidTests := true, laidLooks := .later }
def FnExactInverseCardSaid : Prop := Claim7.holds Tryd.pinned (.plain (OpenSpec.ofChange fnExactInverseSpec)) fnExactInverseCard

/-- THE TIED CARD OF 'laws.FnExactPower'. -/
def fnExactPowerCard : Claim7 := { stood := { row := fnExactPowerRow, standIns := [], harness := (true, "f1cbcc11684638d26728d0c08cc82125d3ade54b69f372fd44d497d9bd16d0e7"), looks := false }, kinds := [], alts := [], laidByText := true, laidKinds := [.data], laidTests := true, laidLooks := .later }
def FnExactPowerCardSaid : Prop := Claim7.holds Tryd.pinned (.plain (OpenSpec.ofChange fnExactPowerSpec)) fnExactPowerCard

/-- THE TIED CARD OF 'laws.FnExactLogOf'. -/
def fnExactLogOfCard : Claim7 := { stood := { row := fnExactLogOfRow, standIns := [], harness := (true, "f1cbcc11684638d26728d0c08cc82125d3ade54b69f372fd44d497d9bd16d0e7"), looks := false }, kinds := [], alts := [], laidByText := true, laidKinds := [.data], laidTests := true, laidLooks := .later }
def FnExactLogOfCardSaid : Prop := Claim7.holds Tryd.pinned (.plain (OpenSpec.ofChange fnExactLogOfSpec)) fnExactLogOfCard

/-- THE TIED CARD OF 'laws.FnExactScaleVector'. -/
def fnExactScaleVectorCard : Claim7 := { stood := { row := fnExactScaleVectorRow, standIns := [], harness := (true, "f1cbcc11684638d26728d0c08cc82125d3ade54b69f372fd44d497d9bd16d0e7"), looks := false }, kinds := [], alts := [], laidByText := true, laidKinds := [.data], laidTests := true, laidLooks := .later }
def FnExactScaleVectorCardSaid : Prop := Claim7.holds Tryd.pinned (.plain (OpenSpec.ofChange fnExactScaleVectorSpec)) fnExactScaleVectorCard

/-- THE TIED CARD OF 'laws.FnExactDotVectors'. -/
def fnExactDotVectorsCard : Claim7 := { stood := { row := fnExactDotVectorsRow, standIns := [], harness := (true, "f1cbcc11684638d26728d0c08cc82125d3ade54b69f372fd44d497d9bd16d0e7"), looks := false }, kinds := [], alts := [], laidByText := true, laidKinds := [.data], laidTests := true, laidLooks := .later }
def FnExactDotVectorsCardSaid : Prop := Claim7.holds Tryd.pinned (.plain (OpenSpec.ofChange fnExactDotVectorsSpec)) fnExactDotVectorsCard

/-- THE SECOND FORM's CARD OF 'laws.FnField'. -/
def fnFieldUptoCard : Claim7 := { stood := { row := fnFieldUptoRow, standIns := [], harness := (true, "f1cbcc11684638d26728d0c08cc82125d3ade54b69f372fd44d497d9bd16d0e7"), looks := false }, kinds := [], alts := [], laidByText := true, laidKinds := [.data], laidTests := true, laidLooks := .later }
def FnFieldUptoCardSaid : Prop := Claim7.holds Tryd.pinned (.plain (OpenSpec.upto fnFieldSpec)) fnFieldUptoCard

/-- THE SECOND FORM's CARD OF 'laws.FnVectors'. -/
def fnVectorsUptoCard : Claim7 := { stood := { row := fnVectorsUptoRow, standIns := [], harness := (true, "f1cbcc11684638d26728d0c08cc82125d3ade54b69f372fd44d497d9bd16d0e7"), looks := false }, kinds := [], alts := [], laidByText := true, laidKinds := [.data], laidTests := true, laidLooks := .later }
def FnVectorsUptoCardSaid : Prop := Claim7.holds Tryd.pinned (.plain (OpenSpec.upto fnVectorsSpec)) fnVectorsUptoCard

/-- THE SECOND FORM's CARD OF 'laws.FnExactTimes'. -/
def fnExactTimesUptoCard : Claim7 := { stood := { row := fnExactTimesUptoRow, standIns := [], harness := (true, "f1cbcc11684638d26728d0c08cc82125d3ade54b69f372fd44d497d9bd16d0e7"), looks := false }, kinds := [], alts := [], laidByText := true, laidKinds := [.data], laidTests := true, laidLooks := .later }
def FnExactTimesUptoCardSaid : Prop := Claim7.holds Tryd.pinned (.plain (OpenSpec.upto fnExactTimesSpec)) fnExactTimesUptoCard

/-- THE SECOND FORM's CARD OF 'laws.FnExactInverse'. -/
def fnExactInverseUptoCard : Claim7 := { stood := { row := fnExactInverseUptoRow, standIns := [], harness := (true, "f1cbcc11684638d26728d0c08cc82125d3ade54b69f372fd44d497d9bd16d0e7"), looks := false }, kinds := [], alts := [], laidByText := true, laidKinds := [.data], laidTests := true, laidLooks := .later }
def FnExactInverseUptoCardSaid : Prop := Claim7.holds Tryd.pinned (.plain (OpenSpec.upto fnExactInverseSpec)) fnExactInverseUptoCard

/-- THE SECOND FORM's CARD OF 'laws.FnExactPower'. -/
def fnExactPowerUptoCard : Claim7 := { stood := { row := fnExactPowerUptoRow, standIns := [], harness := (true, "f1cbcc11684638d26728d0c08cc82125d3ade54b69f372fd44d497d9bd16d0e7"), looks := false }, kinds := [], alts := [], laidByText := true, laidKinds := [.data], laidTests := true, laidLooks := .later }
def FnExactPowerUptoCardSaid : Prop := Claim7.holds Tryd.pinned (.plain (OpenSpec.upto fnExactPowerSpec)) fnExactPowerUptoCard

/-- THE SECOND FORM's CARD OF 'laws.FnExactLogOf'. -/
def fnExactLogOfUptoCard : Claim7 := { stood := { row := fnExactLogOfUptoRow, standIns := [], harness := (true, "f1cbcc11684638d26728d0c08cc82125d3ade54b69f372fd44d497d9bd16d0e7"), looks := false }, kinds := [], alts := [], laidByText := true, laidKinds := [.data], laidTests := true, laidLooks := .later }
def FnExactLogOfUptoCardSaid : Prop := Claim7.holds Tryd.pinned (.plain (OpenSpec.upto fnExactLogOfSpec)) fnExactLogOfUptoCard

/-- THE SECOND FORM's CARD OF 'laws.FnExactScaleVector'. -/
def fnExactScaleVectorUptoCard : Claim7 := { stood := { row := fnExactScaleVectorUptoRow, standIns := [], harness := (true, "f1cbcc11684638d26728d0c08cc82125d3ade54b69f372fd44d497d9bd16d0e7"), looks := false }, kinds := [], alts := [], laidByText := true, laidKinds := [.data], laidTests := true, laidLooks := .later }
def FnExactScaleVectorUptoCardSaid : Prop := Claim7.holds Tryd.pinned (.plain (OpenSpec.upto fnExactScaleVectorSpec)) fnExactScaleVectorUptoCard

/-- THE SECOND FORM's CARD OF 'laws.FnExactDotVectors'. -/
def fnExactDotVectorsUptoCard : Claim7 := { stood := { row := fnExactDotVectorsUptoRow, standIns := [], harness := (true, "f1cbcc11684638d26728d0c08cc82125d3ade54b69f372fd44d497d9bd16d0e7"), looks := false }, kinds := [], alts := [], laidByText := true, laidKinds := [.data], laidTests := true, laidLooks := .later }
def FnExactDotVectorsUptoCardSaid : Prop := Claim7.holds Tryd.pinned (.plain (OpenSpec.upto fnExactDotVectorsSpec)) fnExactDotVectorsUptoCard
end Rows
end Go.Proofs.YtmkihipjfcknfaaDoor
