/-
  DERIVED. GIVEN WITH THE SEED: THE CARDS: each row of YtipmfebnjmobfaaDoorRows.lean that lists a variable, with what it lists TIED to the program's text (the seventh form; the later family's looks); each row that meets fmt, with fmt's text TOLD by the authors' own Lean function (tested against real Go, not proved from fmt's source: count such statements apart). THE CARD IS WHAT COUNTS. Prove the row's statement (the work); the ties are given (YtipmfebnjmobfaaDoorTie.lean); close each card by the builder's one call (the guide's Derived/Test/ToyasCard.lean, 'card_holds'). Laid BY PROGRAM, IN A SANDBOX (cutbox-door.mjs). By AI agents, Wed Nov 11 2026. No macro, syntax, notation, axiom, sorry.
-/
import Derived.Test.YtipmfebnjmobfaaDoorRows
import GoSem.ClaimSeven
namespace Go.Proofs.YtipmfebnjmobfaaDoor
namespace Rows

/-- THE TIED CARD OF 'laws.FnExactDecodeShards'. -/
def fnExactDecodeShardsCard : Claim7 := { stood := { row := fnExactDecodeShardsRow, standIns := [], harness := (true, "e9be421ab28e42eaff657c5154185d6dd2d84802715cad87553675b47a258cb7"), looks := false }, kinds := [], alts := [], laidByText := true, laidKinds := [.data], laidTests := true, laidLooks := .later }
def FnExactDecodeShardsCardSaid : Prop := Claim7.holds Tryd.pinned (.plain (OpenSpec.ofChange fnExactDecodeShardsSpec)) fnExactDecodeShardsCard

/-- THE TIED CARD OF 'laws.FnExactRebuildShard'. -/
def fnExactRebuildShardCard : Claim7 := { stood := { row := fnExactRebuildShardRow, standIns := [], harness := (true, "e9be421ab28e42eaff657c5154185d6dd2d84802715cad87553675b47a258cb7"), looks := false }, kinds := [], alts := [], laidByText := true, laidKinds := [.data], laidTests := true, laidLooks := .later }
def FnExactRebuildShardCardSaid : Prop := Claim7.holds Tryd.pinned (.plain (OpenSpec.ofChange fnExactRebuildShardSpec)) fnExactRebuildShardCard

/-- THE TIED CARD OF 'laws.FnExactCheckShards'. -/
def fnExactCheckShardsCard : Claim7 := { stood := { row := fnExactCheckShardsRow, standIns := [], harness := (true, "e9be421ab28e42eaff657c5154185d6dd2d84802715cad87553675b47a258cb7"), looks := false }, kinds := [], alts := [], laidByText := true, laidKinds := [.data], laidTests := true, laidLooks := .later }
def FnExactCheckShardsCardSaid : Prop := Claim7.holds Tryd.pinned (.plain (OpenSpec.ofChange fnExactCheckShardsSpec)) fnExactCheckShardsCard

/-- THE TIED CARD OF 'laws.FnRebuilt'. -/
def fnRebuiltCard : Claim7 := { stood := { row := fnRebuiltRow, standIns := [], harness := (true, "e9be421ab28e42eaff657c5154185d6dd2d84802715cad87553675b47a258cb7"), looks := false }, kinds := [], alts := [], laidByText := true, laidKinds := [.data], laidTests := true, laidLooks := .later }
def FnRebuiltCardSaid : Prop := Claim7.holds Tryd.pinned (.plain (OpenSpec.ofChange fnRebuiltSpec)) fnRebuiltCard

/-- THE TIED CARD OF 'laws.FnAnyFew'. -/
def fnAnyFewCard : Claim7 := { stood := { row := fnAnyFewRow, standIns := [], harness := (true, "e9be421ab28e42eaff657c5154185d6dd2d84802715cad87553675b47a258cb7"), looks := false }, kinds := [], alts := [], laidByText := true, laidKinds := [.data], laidTests := true, laidLooks := .later }
def FnAnyFewCardSaid : Prop := Claim7.holds Tryd.pinned (.plain (OpenSpec.ofChange fnAnyFewSpec)) fnAnyFewCard

/-- THE TIED CARD OF 'laws.FnExactLocalMatrix'. -/
def fnExactLocalMatrixCard : Claim7 := { stood := { row := fnExactLocalMatrixRow, standIns := [], harness := (true, "e9be421ab28e42eaff657c5154185d6dd2d84802715cad87553675b47a258cb7"), looks := false }, kinds := [], alts := [], laidByText := true, laidKinds := [.data], laidTests := true, laidLooks := .later }
def FnExactLocalMatrixCardSaid : Prop := Claim7.holds Tryd.pinned (.plain (OpenSpec.ofChange fnExactLocalMatrixSpec)) fnExactLocalMatrixCard

/-- THE TIED CARD OF 'laws.FnExactEncodeLocal'. -/
def fnExactEncodeLocalCard : Claim7 := { stood := { row := fnExactEncodeLocalRow, standIns := [], harness := (true, "e9be421ab28e42eaff657c5154185d6dd2d84802715cad87553675b47a258cb7"), looks := false }, kinds := [], alts := [], laidByText := true, laidKinds := [.data], laidTests := true, laidLooks := .later }
def FnExactEncodeLocalCardSaid : Prop := Claim7.holds Tryd.pinned (.plain (OpenSpec.ofChange fnExactEncodeLocalSpec)) fnExactEncodeLocalCard

/-- THE TIED CARD OF 'laws.FnExactMendLocal'. -/
def fnExactMendLocalCard : Claim7 := { stood := { row := fnExactMendLocalRow, standIns := [], harness := (true, "e9be421ab28e42eaff657c5154185d6dd2d84802715cad87553675b47a258cb7"), looks := false }, kinds := [], alts := [], laidByText := true, laidKinds := [.data], laidTests := true, laidLooks := .later }
def FnExactMendLocalCardSaid : Prop := Claim7.holds Tryd.pinned (.plain (OpenSpec.ofChange fnExactMendLocalSpec)) fnExactMendLocalCard

/-- THE TIED CARD OF 'laws.FnExactCanDecode'. -/
def fnExactCanDecodeCard : Claim7 := { stood := { row := fnExactCanDecodeRow, standIns := [], harness := (true, "e9be421ab28e42eaff657c5154185d6dd2d84802715cad87553675b47a258cb7"), looks := false }, kinds := [], alts := [], laidByText := true, laidKinds := [.data], laidTests := true, laidLooks := .later }
def FnExactCanDecodeCardSaid : Prop := Claim7.holds Tryd.pinned (.plain (OpenSpec.ofChange fnExactCanDecodeSpec)) fnExactCanDecodeCard

/-- THE SECOND FORM's CARD OF 'laws.FnExactDecodeShards'. -/
def fnExactDecodeShardsUptoCard : Claim7 := { stood := { row := fnExactDecodeShardsUptoRow, standIns := [], harness := (true, "e9be421ab28e42eaff657c5154185d6dd2d84802715cad87553675b47a258cb7"), looks := false }, kinds := [], alts := [], laidByText := true, laidKinds := [.data], laidTests := true, laidLooks := .later }
def FnExactDecodeShardsUptoCardSaid : Prop := Claim7.holds Tryd.pinned (.plain (OpenSpec.upto fnExactDecodeShardsSpec)) fnExactDecodeShardsUptoCard

/-- THE SECOND FORM's CARD OF 'laws.FnExactRebuildShard'. -/
def fnExactRebuildShardUptoCard : Claim7 := { stood := { row := fnExactRebuildShardUptoRow, standIns := [], harness := (true, "e9be421ab28e42eaff657c5154185d6dd2d84802715cad87553675b47a258cb7"), looks := false }, kinds := [], alts := [], laidByText := true, laidKinds := [.data], laidTests := true, laidLooks := .later }
def FnExactRebuildShardUptoCardSaid : Prop := Claim7.holds Tryd.pinned (.plain (OpenSpec.upto fnExactRebuildShardSpec)) fnExactRebuildShardUptoCard

/-- THE SECOND FORM's CARD OF 'laws.FnExactCheckShards'. -/
def fnExactCheckShardsUptoCard : Claim7 := { stood := { row := fnExactCheckShardsUptoRow, standIns := [], harness := (true, "e9be421ab28e42eaff657c5154185d6dd2d84802715cad87553675b47a258cb7"), looks := false }, kinds := [], alts := [], laidByText := true, laidKinds := [.data], laidTests := true, laidLooks := .later }
def FnExactCheckShardsUptoCardSaid : Prop := Claim7.holds Tryd.pinned (.plain (OpenSpec.upto fnExactCheckShardsSpec)) fnExactCheckShardsUptoCard

/-- THE SECOND FORM's CARD OF 'laws.FnRebuilt'. -/
def fnRebuiltUptoCard : Claim7 := { stood := { row := fnRebuiltUptoRow, standIns := [], harness := (true, "e9be421ab28e42eaff657c5154185d6dd2d84802715cad87553675b47a258cb7"), looks := false }, kinds := [], alts := [], laidByText := true, laidKinds := [.data], laidTests := true, laidLooks := .later }
def FnRebuiltUptoCardSaid : Prop := Claim7.holds Tryd.pinned (.plain (OpenSpec.upto fnRebuiltSpec)) fnRebuiltUptoCard

/-- THE SECOND FORM's CARD OF 'laws.FnAnyFew'. -/
def fnAnyFewUptoCard : Claim7 := { stood := { row := fnAnyFewUptoRow, standIns := [], harness := (true, "e9be421ab28e42eaff657c5154185d6dd2d84802715cad87553675b47a258cb7"), looks := false }, kinds := [], alts := [], laidByText := true, laidKinds := [.data], laidTests := true, laidLooks := .later }
def FnAnyFewUptoCardSaid : Prop := Claim7.holds Tryd.pinned (.plain (OpenSpec.upto fnAnyFewSpec)) fnAnyFewUptoCard

/-- THE SECOND FORM's CARD OF 'laws.FnExactLocalMatrix'. -/
def fnExactLocalMatrixUptoCard : Claim7 := { stood := { row := fnExactLocalMatrixUptoRow, standIns := [], harness := (true, "e9be421ab28e42eaff657c5154185d6dd2d84802715cad87553675b47a258cb7"), looks := false }, kinds := [], alts := [], laidByText := true, laidKinds := [.data], laidTests := true, laidLooks := .later }
def FnExactLocalMatrixUptoCardSaid : Prop := Claim7.holds Tryd.pinned (.plain (OpenSpec.upto fnExactLocalMatrixSpec)) fnExactLocalMatrixUptoCard

/-- THE SECOND FORM's CARD OF 'laws.FnExactEncodeLocal'. -/
def fnExactEncodeLocalUptoCard : Claim7 := { stood := { row := fnExactEncodeLocalUptoRow, standIns := [], harness := (true, "e9be421ab28e42eaff657c5154185d6dd2d84802715cad87553675b47a258cb7"), looks := false }, kinds := [], alts := [], laidByText := true, laidKinds := [.data], laidTests := true, laidLooks := .later }
def FnExactEncodeLocalUptoCardSaid : Prop := Claim7.holds Tryd.pinned (.plain (OpenSpec.upto fnExactEncodeLocalSpec)) fnExactEncodeLocalUptoCard

/-- THE SECOND FORM's CARD OF 'laws.FnExactMendLocal'. -/
def fnExactMendLocalUptoCard : Claim7 := { stood := { row := fnExactMendLocalUptoRow, standIns := [], harness := (true, "e9be421ab28e42eaff657c5154185d6dd2d84802715cad87553675b47a258cb7"), looks := false }, kinds := [], alts := [], laidByText := true, laidKinds := [.data], laidTests := true, laidLooks := .later }
def FnExactMendLocalUptoCardSaid : Prop := Claim7.holds Tryd.pinned (.plain (OpenSpec.upto fnExactMendLocalSpec)) fnExactMendLocalUptoCard

/-- THE SECOND FORM's CARD OF 'laws.FnExactCanDecode'. -/
def fnExactCanDecodeUptoCard : Claim7 := { stood := { row := fnExactCanDecodeUptoRow, standIns := [], harness := (true, "e9be421ab28e42eaff657c5154185d6dd2d84802715cad87553675b47a258cb7"), looks := false }, kinds := [], alts := [], laidByText := true, laidKinds := [.data], laidTests := true, laidLooks := .later }
def FnExactCanDecodeUptoCardSaid : Prop := Claim7.holds Tryd.pinned (.plain (OpenSpec.upto fnExactCanDecodeSpec)) fnExactCanDecodeUptoCard
end Rows
end Go.Proofs.YtipmfebnjmobfaaDoor
