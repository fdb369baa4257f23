/-
  DERIVED. GIVEN WITH THE SEED: THE CARDS: each row of YtlkoafnlklhaeabDoorRows.lean that lists a variable, with what it lists TIED to the program's text (the seventh form; the later family's looks); each row that meets fmt, with fmt's text TOLD by the authors' own Lean function (tested against real Go, not proved from fmt's source: count such statements apart). THE CARD IS WHAT COUNTS. Prove the row's statement (the work); the ties are given (YtlkoafnlklhaeabDoorTie.lean); close each card by the builder's one call (the guide's Derived/Test/ToyasCard.lean, 'card_holds'). Laid BY PROGRAM, IN A SANDBOX (cutbox-door.mjs). By AI agents, Wed Nov 11 2026. No macro, syntax, notation, axiom, sorry.
-/
import Derived.Test.YtlkoafnlklhaeabDoorRows
import GoSem.ClaimSeven
namespace Go.Proofs.YtlkoafnlklhaeabDoor
namespace Rows

/-- THE TIED CARD OF 'laws.FnRebuilt'. -/
def fnRebuiltCard : Claim7 := { stood := { row := fnRebuiltRow, standIns := [], harness := (true, "d5ba51829a6cb89a67f59890a9e8bbfb0dd11849edb55ae1fa73471f5e73cc45"), looks := false }, kinds := [], alts := [], laidByText := true, laidKinds := [.data], laidTests := true, laidLooks := .later }
def FnRebuiltCardSaid : Prop := Claim7.holds Tryd.pinned (.plain (OpenSpec.ofChange fnRebuiltSpec)) fnRebuiltCard

/-- THE TIED CARD OF 'laws.FnAnyFew'. -/
def fnAnyFewCard : Claim7 := { stood := { row := fnAnyFewRow, standIns := [], harness := (true, "d5ba51829a6cb89a67f59890a9e8bbfb0dd11849edb55ae1fa73471f5e73cc45"), looks := false }, kinds := [], alts := [], laidByText := true, laidKinds := [.data], laidTests := true, laidLooks := .later }
def FnAnyFewCardSaid : Prop := Claim7.holds Tryd.pinned (.plain (OpenSpec.ofChange fnAnyFewSpec)) fnAnyFewCard

/-- THE SECOND FORM's CARD OF 'laws.FnRebuilt'. -/
def fnRebuiltUptoCard : Claim7 := { stood := { row := fnRebuiltUptoRow, standIns := [], harness := (true, "d5ba51829a6cb89a67f59890a9e8bbfb0dd11849edb55ae1fa73471f5e73cc45"), looks := false }, kinds := [], alts := [], laidByText := true, laidKinds := [.data], laidTests := true, laidLooks := .later }
def FnRebuiltUptoCardSaid : Prop := Claim7.holds Tryd.pinned (.plain (OpenSpec.upto fnRebuiltSpec)) fnRebuiltUptoCard

/-- THE SECOND FORM's CARD OF 'laws.FnAnyFew'. -/
def fnAnyFewUptoCard : Claim7 := { stood := { row := fnAnyFewUptoRow, standIns := [], harness := (true, "d5ba51829a6cb89a67f59890a9e8bbfb0dd11849edb55ae1fa73471f5e73cc45"), looks := false }, kinds := [], alts := [], laidByText := true, laidKinds := [.data], laidTests := true, laidLooks := .later }
def FnAnyFewUptoCardSaid : Prop := Claim7.holds Tryd.pinned (.plain (OpenSpec.upto fnAnyFewSpec)) fnAnyFewUptoCard
end Rows
end Go.Proofs.YtlkoafnlklhaeabDoor
