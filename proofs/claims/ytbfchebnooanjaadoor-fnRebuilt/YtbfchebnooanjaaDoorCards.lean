/-
  DERIVED. GIVEN WITH THE SEED: THE CARDS: each row of YtbfchebnooanjaaDoorRows.lean that lists a variable, with what it lists TIED to the program's text (the seventh form; the later family's looks); each row that meets fmt, with fmt's text TOLD by the authors' own Lean function (tested against real Go, not proved from fmt's source: count such statements apart). THE CARD IS WHAT COUNTS. Prove the row's statement (the work); the ties are given (YtbfchebnooanjaaDoorTie.lean); close each card by the builder's one call (the guide's Derived/Test/ToyasCard.lean, 'card_holds'). Laid BY PROGRAM, IN A SANDBOX (cutbox-door.mjs). By AI agents, Wed Nov 11 2026. No macro, syntax, notation, axiom, sorry.
-/
import Derived.Test.YtbfchebnooanjaaDoorRows
import GoSem.ClaimSeven
namespace Go.Proofs.YtbfchebnooanjaaDoor
namespace Rows

/-- THE TIED CARD OF 'laws.FnRebuilt'. -/
def fnRebuiltCard : Claim7 := { stood := { row := fnRebuiltRow, standIns := [], harness := (true, "c636647f37d3cadc0bcd5400dfec5e432eb728acc7e81186c9e66e9f202d02dd"), looks := false }, kinds := [], alts := [], laidByText := true, laidKinds := [.data], laidTests := true, laidLooks := .later }
def FnRebuiltCardSaid : Prop := Claim7.holds Tryd.pinned (.plain (OpenSpec.ofChange fnRebuiltSpec)) fnRebuiltCard

/-- THE TIED CARD OF 'laws.FnExactSolveDrops'. -/
def fnExactSolveDropsCard : Claim7 := { stood := { row := fnExactSolveDropsRow, standIns := [], harness := (true, "c636647f37d3cadc0bcd5400dfec5e432eb728acc7e81186c9e66e9f202d02dd"), looks := false }, kinds := [], alts := [], laidByText := true, laidKinds := [.data], laidTests := true, laidLooks := .later }
def FnExactSolveDropsCardSaid : Prop := Claim7.holds Tryd.pinned (.plain (OpenSpec.ofChange fnExactSolveDropsSpec)) fnExactSolveDropsCard

/-- THE SECOND FORM's CARD OF 'laws.FnRebuilt'. -/
def fnRebuiltUptoCard : Claim7 := { stood := { row := fnRebuiltUptoRow, standIns := [], harness := (true, "c636647f37d3cadc0bcd5400dfec5e432eb728acc7e81186c9e66e9f202d02dd"), looks := false }, kinds := [], alts := [], laidByText := true, laidKinds := [.data], laidTests := true, laidLooks := .later }
def FnRebuiltUptoCardSaid : Prop := Claim7.holds Tryd.pinned (.plain (OpenSpec.upto fnRebuiltSpec)) fnRebuiltUptoCard

/-- THE SECOND FORM's CARD OF 'laws.FnExactSolveDrops'. -/
def fnExactSolveDropsUptoCard : Claim7 := { stood := { row := fnExactSolveDropsUptoRow, standIns := [], harness := (true, "c636647f37d3cadc0bcd5400dfec5e432eb728acc7e81186c9e66e9f202d02dd"), looks := false }, kinds := [], alts := [], laidByText := true, laidKinds := [.data], laidTests := true, laidLooks := .later }
def FnExactSolveDropsUptoCardSaid : Prop := Claim7.holds Tryd.pinned (.plain (OpenSpec.upto fnExactSolveDropsSpec)) fnExactSolveDropsUptoCard
end Rows
end Go.Proofs.YtbfchebnooanjaaDoor
