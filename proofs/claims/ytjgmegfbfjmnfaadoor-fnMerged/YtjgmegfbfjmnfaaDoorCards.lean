/-
  DERIVED. GIVEN WITH THE SEED: THE CARDS: each row of YtjgmegfbfjmnfaaDoorRows.lean that lists a variable, with what it lists TIED to the program's text (the seventh form; the later family's looks); each row that meets fmt, with fmt's text TOLD by the authors' own Lean function (tested against real Go, not proved from fmt's source: count such statements apart). THE CARD IS WHAT COUNTS. Prove the row's statement (the work); the ties are given (YtjgmegfbfjmnfaaDoorTie.lean); close each card by the builder's one call (the guide's Derived/Test/ToyasCard.lean, 'card_holds'). Laid BY PROGRAM, IN A SANDBOX (cutbox-door.mjs). By AI agents, Wed Nov 11 2026. No macro, syntax, notation, axiom, sorry.
-/
import Derived.Test.YtjgmegfbfjmnfaaDoorRows
import GoSem.ClaimSeven
namespace Go.Proofs.YtjgmegfbfjmnfaaDoor
namespace Rows

/-- THE TIED CARD OF 'laws.FnMerged'. -/
def fnMergedCard : Claim7 := { stood := { row := fnMergedRow, standIns := [], harness := (true, "bd5ea773298733b431af55318563fc54ffb2f4e4e0fd1dbb5a267f6fd29518fd"), looks := false }, kinds := [], alts := [], laidByText := true, laidKinds := [.data], laidTests := true, laidLooks := .later }
def FnMergedCardSaid : Prop := Claim7.holds Tryd.pinned (.plain (OpenSpec.ofChange fnMergedSpec)) fnMergedCard

/-- THE TIED CARD OF 'laws.FnPeeled'. -/
def fnPeeledCard : Claim7 := { stood := { row := fnPeeledRow, standIns := [], harness := (true, "bd5ea773298733b431af55318563fc54ffb2f4e4e0fd1dbb5a267f6fd29518fd"), looks := false }, kinds := [], alts := [], laidByText := true, laidKinds := [.data], laidTests := true, laidLooks := .later }
def FnPeeledCardSaid : Prop := Claim7.holds Tryd.pinned (.plain (OpenSpec.ofChange fnPeeledSpec)) fnPeeledCard

/-- THE SECOND FORM's CARD OF 'laws.FnMerged'. -/
def fnMergedUptoCard : Claim7 := { stood := { row := fnMergedUptoRow, standIns := [], harness := (true, "bd5ea773298733b431af55318563fc54ffb2f4e4e0fd1dbb5a267f6fd29518fd"), looks := false }, kinds := [], alts := [], laidByText := true, laidKinds := [.data], laidTests := true, laidLooks := .later }
def FnMergedUptoCardSaid : Prop := Claim7.holds Tryd.pinned (.plain (OpenSpec.upto fnMergedSpec)) fnMergedUptoCard

/-- THE SECOND FORM's CARD OF 'laws.FnPeeled'. -/
def fnPeeledUptoCard : Claim7 := { stood := { row := fnPeeledUptoRow, standIns := [], harness := (true, "bd5ea773298733b431af55318563fc54ffb2f4e4e0fd1dbb5a267f6fd29518fd"), looks := false }, kinds := [], alts := [], laidByText := true, laidKinds := [.data], laidTests := true, laidLooks := .later }
def FnPeeledUptoCardSaid : Prop := Claim7.holds Tryd.pinned (.plain (OpenSpec.upto fnPeeledSpec)) fnPeeledUptoCard
end Rows
end Go.Proofs.YtjgmegfbfjmnfaaDoor
