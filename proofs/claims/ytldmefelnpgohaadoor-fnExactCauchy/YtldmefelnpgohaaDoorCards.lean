/-
  DERIVED. GIVEN WITH THE SEED: THE CARDS: each row of YtldmefelnpgohaaDoorRows.lean that lists a variable, with what it lists TIED to the program's text (the seventh form; the later family's looks); each row that meets fmt, with fmt's text TOLD by the authors' own Lean function (tested against real Go, not proved from fmt's source: count such statements apart). THE CARD IS WHAT COUNTS. Prove the row's statement (the work); the ties are given (YtldmefelnpgohaaDoorTie.lean); close each card by the builder's one call (the guide's Derived/Test/ToyasCard.lean, 'card_holds'). Laid BY PROGRAM, IN A SANDBOX (cutbox-door.mjs). By AI agents, Wed Nov 11 2026. No macro, syntax, notation, axiom, sorry.
-/
import Derived.Test.YtldmefelnpgohaaDoorRows
import GoSem.ClaimSeven
namespace Go.Proofs.YtldmefelnpgohaaDoor
namespace Rows

/-- THE TIED CARD OF 'laws.FnMatrices'. -/
def fnMatricesCard : Claim7 := { stood := { row := fnMatricesRow, standIns := [], harness := (true, "dad51e497b086c720dfb600d558291701463ba7be26ac22fe577d858f92a7ad0"), looks := false }, kinds := [], alts := [], laidByText := true, laidKinds := [.data], laidTests := true, laidLooks := .later }
def FnMatricesCardSaid : Prop := Claim7.holds Tryd.pinned (.plain (OpenSpec.ofChange fnMatricesSpec)) fnMatricesCard

/-- THE TIED CARD OF 'laws.FnCauchy'. -/
def fnCauchyCard : Claim7 := { stood := { row := fnCauchyRow, standIns := [], harness := (true, "dad51e497b086c720dfb600d558291701463ba7be26ac22fe577d858f92a7ad0"), looks := false }, kinds := [], alts := [], laidByText := true, laidKinds := [.data], laidTests := true, laidLooks := .later }
def FnCauchyCardSaid : Prop := Claim7.holds Tryd.pinned (.plain (OpenSpec.ofChange fnCauchySpec)) fnCauchyCard

/-- THE TIED CARD OF 'laws.FnExactVandermonde'. -/
def fnExactVandermondeCard : Claim7 := { stood := { row := fnExactVandermondeRow, standIns := [], harness := (true, "dad51e497b086c720dfb600d558291701463ba7be26ac22fe577d858f92a7ad0"), looks := false }, kinds := [], alts := [], laidByText := true, laidKinds := [.data], laidTests := true, laidLooks := .later }
def FnExactVandermondeCardSaid : Prop := Claim7.holds Tryd.pinned (.plain (OpenSpec.ofChange fnExactVandermondeSpec)) fnExactVandermondeCard

/-- THE TIED CARD OF 'laws.FnExactCauchy'. -/
def fnExactCauchyCard : Claim7 := { stood := { row := fnExactCauchyRow, standIns := [], harness := (true, "dad51e497b086c720dfb600d558291701463ba7be26ac22fe577d858f92a7ad0"), looks := false }, kinds := [], alts := [], laidByText := true, laidKinds := [.data], laidTests := true, laidLooks := .later }
def FnExactCauchyCardSaid : Prop := Claim7.holds Tryd.pinned (.plain (OpenSpec.ofChange fnExactCauchySpec)) fnExactCauchyCard

/-- THE SECOND FORM's CARD OF 'laws.FnMatrices'. -/
def fnMatricesUptoCard : Claim7 := { stood := { row := fnMatricesUptoRow, standIns := [], harness := (true, "dad51e497b086c720dfb600d558291701463ba7be26ac22fe577d858f92a7ad0"), looks := false }, kinds := [], alts := [], laidByText := true, laidKinds := [.data], laidTests := true, laidLooks := .later }
def FnMatricesUptoCardSaid : Prop := Claim7.holds Tryd.pinned (.plain (OpenSpec.upto fnMatricesSpec)) fnMatricesUptoCard

/-- THE SECOND FORM's CARD OF 'laws.FnCauchy'. -/
def fnCauchyUptoCard : Claim7 := { stood := { row := fnCauchyUptoRow, standIns := [], harness := (true, "dad51e497b086c720dfb600d558291701463ba7be26ac22fe577d858f92a7ad0"), looks := false }, kinds := [], alts := [], laidByText := true, laidKinds := [.data], laidTests := true, laidLooks := .later }
def FnCauchyUptoCardSaid : Prop := Claim7.holds Tryd.pinned (.plain (OpenSpec.upto fnCauchySpec)) fnCauchyUptoCard

/-- THE SECOND FORM's CARD OF 'laws.FnExactVandermonde'. -/
def fnExactVandermondeUptoCard : Claim7 := { stood := { row := fnExactVandermondeUptoRow, standIns := [], harness := (true, "dad51e497b086c720dfb600d558291701463ba7be26ac22fe577d858f92a7ad0"), looks := false }, kinds := [], alts := [], laidByText := true, laidKinds := [.data], laidTests := true, laidLooks := .later }
def FnExactVandermondeUptoCardSaid : Prop := Claim7.holds Tryd.pinned (.plain (OpenSpec.upto fnExactVandermondeSpec)) fnExactVandermondeUptoCard

/-- THE SECOND FORM's CARD OF 'laws.FnExactCauchy'. -/
def fnExactCauchyUptoCard : Claim7 := { stood := { row := fnExactCauchyUptoRow, standIns := [], harness := (true, "dad51e497b086c720dfb600d558291701463ba7be26ac22fe577d858f92a7ad0"), looks := false }, kinds := [], alts := [], laidByText := true, laidKinds := [.data], laidTests := true, laidLooks := .later }
def FnExactCauchyUptoCardSaid : Prop := Claim7.holds Tryd.pinned (.plain (OpenSpec.upto fnExactCauchySpec)) fnExactCauchyUptoCard
end Rows
end Go.Proofs.YtldmefelnpgohaaDoor
