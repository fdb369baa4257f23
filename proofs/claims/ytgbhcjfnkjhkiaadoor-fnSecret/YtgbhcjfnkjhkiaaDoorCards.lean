/-
  DERIVED. GIVEN WITH THE SEED: THE CARDS: each row of YtgbhcjfnkjhkiaaDoorRows.lean that lists a variable, with what it lists TIED to the program's text (the seventh form; the later family's looks); each row that meets fmt, with fmt's text TOLD by the authors' own Lean function (tested against real Go, not proved from fmt's source: count such statements apart). THE CARD IS WHAT COUNTS. Prove the row's statement (the work); the ties are given (YtgbhcjfnkjhkiaaDoorTie.lean); close each card by the builder's one call (the guide's Derived/Test/ToyasCard.lean, 'card_holds'). Laid BY PROGRAM, IN A SANDBOX (cutbox-door.mjs). By AI agents, Wed Nov 11 2026. No macro, syntax, notation, axiom, sorry.
-/
import Derived.Test.YtgbhcjfnkjhkiaaDoorRows
import GoSem.ClaimSeven
namespace Go.Proofs.YtgbhcjfnkjhkiaaDoor
namespace Rows

/-- THE TIED CARD OF 'laws.FnMerged'. -/
def fnMergedCard : Claim7 := { stood := { row := fnMergedRow, standIns := [], harness := (true, "39f91057bef67a8731c5958fc9be5a148353c2c025929c336edf6fdf8af5dd58"), looks := false }, kinds := [], alts := [], laidByText := true, laidKinds := [.data], laidTests := true, laidLooks := .later }
def FnMergedCardSaid : Prop := Claim7.holds Tryd.pinned (.plain (OpenSpec.ofChange fnMergedSpec)) fnMergedCard

/-- THE TIED CARD OF 'laws.FnMended'. -/
def fnMendedCard : Claim7 := { stood := { row := fnMendedRow, standIns := [], harness := (true, "39f91057bef67a8731c5958fc9be5a148353c2c025929c336edf6fdf8af5dd58"), looks := false }, kinds := [], alts := [], laidByText := true, laidKinds := [.data], laidTests := true, laidLooks := .later }
def FnMendedCardSaid : Prop := Claim7.holds Tryd.pinned (.plain (OpenSpec.ofChange fnMendedSpec)) fnMendedCard

/-- THE TIED CARD OF 'laws.FnShamir'. -/
def fnShamirCard : Claim7 := { stood := { row := fnShamirRow, standIns := [], harness := (true, "39f91057bef67a8731c5958fc9be5a148353c2c025929c336edf6fdf8af5dd58"), looks := false }, kinds := [], alts := [], laidByText := true, laidKinds := [.data], laidTests := true, laidLooks := .later }
def FnShamirCardSaid : Prop := Claim7.holds Tryd.pinned (.plain (OpenSpec.ofChange fnShamirSpec)) fnShamirCard

/-- THE TIED CARD OF 'laws.FnSecret'. -/
def fnSecretCard : Claim7 := { stood := { row := fnSecretRow, standIns := [], harness := (true, "39f91057bef67a8731c5958fc9be5a148353c2c025929c336edf6fdf8af5dd58"), looks := false }, kinds := [], alts := [], laidByText := true, laidKinds := [.data], laidTests := true, laidLooks := .later }
def FnSecretCardSaid : Prop := Claim7.holds Tryd.pinned (.plain (OpenSpec.ofChange fnSecretSpec)) fnSecretCard

/-- THE TIED CARD OF 'laws.FnShares'. -/
def fnSharesCard : Claim7 := { stood := { row := fnSharesRow, standIns := [], harness := (true, "39f91057bef67a8731c5958fc9be5a148353c2c025929c336edf6fdf8af5dd58"), looks := false }, kinds := [], alts := [], laidByText := true, laidKinds := [.data], laidTests := true, laidLooks := .later }
def FnSharesCardSaid : Prop := Claim7.holds Tryd.pinned (.plain (OpenSpec.ofChange fnSharesSpec)) fnSharesCard

/-- THE TIED CARD OF 'laws.FnExactPolyAt'. -/
def fnExactPolyAtCard : Claim7 := { stood := { row := fnExactPolyAtRow, standIns := [], harness := (true, "39f91057bef67a8731c5958fc9be5a148353c2c025929c336edf6fdf8af5dd58"), looks := false }, kinds := [], alts := [], laidByText := true, laidKinds := [.data], laidTests := true, laidLooks := .later }
def FnExactPolyAtCardSaid : Prop := Claim7.holds Tryd.pinned (.plain (OpenSpec.ofChange fnExactPolyAtSpec)) fnExactPolyAtCard

/-- THE TIED CARD OF 'laws.FnExactShareSecret'. -/
def fnExactShareSecretCard : Claim7 := { stood := { row := fnExactShareSecretRow, standIns := [], harness := (true, "39f91057bef67a8731c5958fc9be5a148353c2c025929c336edf6fdf8af5dd58"), looks := false }, kinds := [], alts := [], laidByText := true, laidKinds := [.data], laidTests := true, laidLooks := .later }
def FnExactShareSecretCardSaid : Prop := Claim7.holds Tryd.pinned (.plain (OpenSpec.ofChange fnExactShareSecretSpec)) fnExactShareSecretCard

/-- THE TIED CARD OF 'laws.FnExactInterpolate'. -/
def fnExactInterpolateCard : Claim7 := { stood := { row := fnExactInterpolateRow, standIns := [], harness := (true, "39f91057bef67a8731c5958fc9be5a148353c2c025929c336edf6fdf8af5dd58"), looks := false }, kinds := [], alts := [], laidByText := true, laidKinds := [.data], laidTests := true, laidLooks := .later }
def FnExactInterpolateCardSaid : Prop := Claim7.holds Tryd.pinned (.plain (OpenSpec.ofChange fnExactInterpolateSpec)) fnExactInterpolateCard

/-- THE TIED CARD OF 'laws.FnExactOpenSecret'. -/
def fnExactOpenSecretCard : Claim7 := { stood := { row := fnExactOpenSecretRow, standIns := [], harness := (true, "39f91057bef67a8731c5958fc9be5a148353c2c025929c336edf6fdf8af5dd58"), looks := false }, kinds := [], alts := [], laidByText := true, laidKinds := [.data], laidTests := true, laidLooks := .later }
def FnExactOpenSecretCardSaid : Prop := Claim7.holds Tryd.pinned (.plain (OpenSpec.ofChange fnExactOpenSecretSpec)) fnExactOpenSecretCard

/-- THE TIED CARD OF 'laws.FnExactRandomFor'. -/
def fnExactRandomForCard : Claim7 := { stood := { row := fnExactRandomForRow, standIns := [], harness := (true, "39f91057bef67a8731c5958fc9be5a148353c2c025929c336edf6fdf8af5dd58"), looks := false }, kinds := [], alts := [], laidByText := true, laidKinds := [.data], laidTests := true, laidLooks := .later }
def FnExactRandomForCardSaid : Prop := Claim7.holds Tryd.pinned (.plain (OpenSpec.ofChange fnExactRandomForSpec)) fnExactRandomForCard

/-- THE TIED CARD OF 'laws.FnExactRefreshShares'. -/
def fnExactRefreshSharesCard : Claim7 := { stood := { row := fnExactRefreshSharesRow, standIns := [], harness := (true, "39f91057bef67a8731c5958fc9be5a148353c2c025929c336edf6fdf8af5dd58"), looks := false }, kinds := [], alts := [], laidByText := true, laidKinds := [.data], laidTests := true, laidLooks := .later }
def FnExactRefreshSharesCardSaid : Prop := Claim7.holds Tryd.pinned (.plain (OpenSpec.ofChange fnExactRefreshSharesSpec)) fnExactRefreshSharesCard

/-- THE TIED CARD OF 'laws.FnExactIsShared'. -/
def fnExactIsSharedCard : Claim7 := { stood := { row := fnExactIsSharedRow, standIns := [], harness := (true, "39f91057bef67a8731c5958fc9be5a148353c2c025929c336edf6fdf8af5dd58"), looks := false }, kinds := [], alts := [], laidByText := true, laidKinds := [.data], laidTests := true, laidLooks := .later }
def FnExactIsSharedCardSaid : Prop := Claim7.holds Tryd.pinned (.plain (OpenSpec.ofChange fnExactIsSharedSpec)) fnExactIsSharedCard

/-- THE SECOND FORM's CARD OF 'laws.FnMerged'. -/
def fnMergedUptoCard : Claim7 := { stood := { row := fnMergedUptoRow, standIns := [], harness := (true, "39f91057bef67a8731c5958fc9be5a148353c2c025929c336edf6fdf8af5dd58"), looks := false }, kinds := [], alts := [], laidByText := true, laidKinds := [.data], laidTests := true, laidLooks := .later }
def FnMergedUptoCardSaid : Prop := Claim7.holds Tryd.pinned (.plain (OpenSpec.upto fnMergedSpec)) fnMergedUptoCard

/-- THE SECOND FORM's CARD OF 'laws.FnMended'. -/
def fnMendedUptoCard : Claim7 := { stood := { row := fnMendedUptoRow, standIns := [], harness := (true, "39f91057bef67a8731c5958fc9be5a148353c2c025929c336edf6fdf8af5dd58"), looks := false }, kinds := [], alts := [], laidByText := true, laidKinds := [.data], laidTests := true, laidLooks := .later }
def FnMendedUptoCardSaid : Prop := Claim7.holds Tryd.pinned (.plain (OpenSpec.upto fnMendedSpec)) fnMendedUptoCard

/-- THE SECOND FORM's CARD OF 'laws.FnShamir'. -/
def fnShamirUptoCard : Claim7 := { stood := { row := fnShamirUptoRow, standIns := [], harness := (true, "39f91057bef67a8731c5958fc9be5a148353c2c025929c336edf6fdf8af5dd58"), looks := false }, kinds := [], alts := [], laidByText := true, laidKinds := [.data], laidTests := true, laidLooks := .later }
def FnShamirUptoCardSaid : Prop := Claim7.holds Tryd.pinned (.plain (OpenSpec.upto fnShamirSpec)) fnShamirUptoCard

/-- THE SECOND FORM's CARD OF 'laws.FnSecret'. -/
def fnSecretUptoCard : Claim7 := { stood := { row := fnSecretUptoRow, standIns := [], harness := (true, "39f91057bef67a8731c5958fc9be5a148353c2c025929c336edf6fdf8af5dd58"), looks := false }, kinds := [], alts := [], laidByText := true, laidKinds := [.data], laidTests := true, laidLooks := .later }
def FnSecretUptoCardSaid : Prop := Claim7.holds Tryd.pinned (.plain (OpenSpec.upto fnSecretSpec)) fnSecretUptoCard

/-- THE SECOND FORM's CARD OF 'laws.FnShares'. -/
def fnSharesUptoCard : Claim7 := { stood := { row := fnSharesUptoRow, standIns := [], harness := (true, "39f91057bef67a8731c5958fc9be5a148353c2c025929c336edf6fdf8af5dd58"), looks := false }, kinds := [], alts := [], laidByText := true, laidKinds := [.data], laidTests := true, laidLooks := .later }
def FnSharesUptoCardSaid : Prop := Claim7.holds Tryd.pinned (.plain (OpenSpec.upto fnSharesSpec)) fnSharesUptoCard

/-- THE SECOND FORM's CARD OF 'laws.FnExactPolyAt'. -/
def fnExactPolyAtUptoCard : Claim7 := { stood := { row := fnExactPolyAtUptoRow, standIns := [], harness := (true, "39f91057bef67a8731c5958fc9be5a148353c2c025929c336edf6fdf8af5dd58"), looks := false }, kinds := [], alts := [], laidByText := true, laidKinds := [.data], laidTests := true, laidLooks := .later }
def FnExactPolyAtUptoCardSaid : Prop := Claim7.holds Tryd.pinned (.plain (OpenSpec.upto fnExactPolyAtSpec)) fnExactPolyAtUptoCard

/-- THE SECOND FORM's CARD OF 'laws.FnExactShareSecret'. -/
def fnExactShareSecretUptoCard : Claim7 := { stood := { row := fnExactShareSecretUptoRow, standIns := [], harness := (true, "39f91057bef67a8731c5958fc9be5a148353c2c025929c336edf6fdf8af5dd58"), looks := false }, kinds := [], alts := [], laidByText := true, laidKinds := [.data], laidTests := true, laidLooks := .later }
def FnExactShareSecretUptoCardSaid : Prop := Claim7.holds Tryd.pinned (.plain (OpenSpec.upto fnExactShareSecretSpec)) fnExactShareSecretUptoCard

/-- THE SECOND FORM's CARD OF 'laws.FnExactInterpolate'. -/
def fnExactInterpolateUptoCard : Claim7 := { stood := { row := fnExactInterpolateUptoRow, standIns := [], harness := (true, "39f91057bef67a8731c5958fc9be5a148353c2c025929c336edf6fdf8af5dd58"), looks := false }, kinds := [], alts := [], laidByText := true, laidKinds := [.data], laidTests := true, laidLooks := .later }
def FnExactInterpolateUptoCardSaid : Prop := Claim7.holds Tryd.pinned (.plain (OpenSpec.upto fnExactInterpolateSpec)) fnExactInterpolateUptoCard

/-- THE SECOND FORM's CARD OF 'laws.FnExactOpenSecret'. -/
def fnExactOpenSecretUptoCard : Claim7 := { stood := { row := fnExactOpenSecretUptoRow, standIns := [], harness := (true, "39f91057bef67a8731c5958fc9be5a148353c2c025929c336edf6fdf8af5dd58"), looks := false }, kinds := [], alts := [], laidByText := true, laidKinds := [.data], laidTests := true, laidLooks := .later }
def FnExactOpenSecretUptoCardSaid : Prop := Claim7.holds Tryd.pinned (.plain (OpenSpec.upto fnExactOpenSecretSpec)) fnExactOpenSecretUptoCard

/-- THE SECOND FORM's CARD OF 'laws.FnExactRandomFor'. -/
def fnExactRandomForUptoCard : Claim7 := { stood := { row := fnExactRandomForUptoRow, standIns := [], harness := (true, "39f91057bef67a8731c5958fc9be5a148353c2c025929c336edf6fdf8af5dd58"), looks := false }, kinds := [], alts := [], laidByText := true, laidKinds := [.data], laidTests := true, laidLooks := .later }
def FnExactRandomForUptoCardSaid : Prop := Claim7.holds Tryd.pinned (.plain (OpenSpec.upto fnExactRandomForSpec)) fnExactRandomForUptoCard

/-- THE SECOND FORM's CARD OF 'laws.FnExactRefreshShares'. -/
def fnExactRefreshSharesUptoCard : Claim7 := { stood := { row := fnExactRefreshSharesUptoRow, standIns := [], harness := (true, "39f91057bef67a8731c5958fc9be5a148353c2c025929c336edf6fdf8af5dd58"), looks := false }, kinds := [], alts := [], laidByText := true, laidKinds := [.data], laidTests := true, laidLooks := .later }
def FnExactRefreshSharesUptoCardSaid : Prop := Claim7.holds Tryd.pinned (.plain (OpenSpec.upto fnExactRefreshSharesSpec)) fnExactRefreshSharesUptoCard

/-- THE SECOND FORM's CARD OF 'laws.FnExactIsShared'. -/
def fnExactIsSharedUptoCard : Claim7 := { stood := { row := fnExactIsSharedUptoRow, standIns := [], harness := (true, "39f91057bef67a8731c5958fc9be5a148353c2c025929c336edf6fdf8af5dd58"), looks := false }, kinds := [], alts := [], laidByText := true, laidKinds := [.data], laidTests := true, laidLooks := .later }
def FnExactIsSharedUptoCardSaid : Prop := Claim7.holds Tryd.pinned (.plain (OpenSpec.upto fnExactIsSharedSpec)) fnExactIsSharedUptoCard
end Rows
end Go.Proofs.YtgbhcjfnkjhkiaaDoor
