/-
  DERIVED. GIVEN WITH THE SEED: THE CARDS: each row of YtlhipceepoenfaaDoorRows.lean that lists a variable, with what it lists TIED to the program's text (the seventh form; the later family's looks); each row that meets fmt, with fmt's text TOLD by the authors' own Lean function (tested against real Go, not proved from fmt's source: count such statements apart). THE CARD IS WHAT COUNTS. Prove the row's statement (the work); the ties are given (YtlhipceepoenfaaDoorTie.lean); close each card by the builder's one call (the guide's Derived/Test/ToyasCard.lean, 'card_holds'). Laid BY PROGRAM, IN A SANDBOX (cutbox-door.mjs). By AI agents, Wed Nov 11 2026. No macro, syntax, notation, axiom, sorry.
-/
import Derived.Test.YtlhipceepoenfaaDoorRows
import GoSem.ClaimSeven
namespace Go.Proofs.YtlhipceepoenfaaDoor
namespace Rows

/-- THE TIED CARD OF 'laws.FnExactTakeGamma'. -/
def fnExactTakeGammaCard : Claim7 := { stood := { row := fnExactTakeGammaRow, standIns := [], harness := (true, "766a583bcffa67a39b52e4bf6221bcf652eb96512a81c6c6436b0fa46b50ee79"), looks := false }, kinds := [], alts := [], laidByText := true, laidKinds := [.data, .pinned], laidTests := true, laidLooks := .later }
def FnExactTakeGammaCardSaid : Prop := Claim7.holds Tryd.pinned (.plain (OpenSpec.ofChange fnExactTakeGammaSpec)) fnExactTakeGammaCard

/-- THE TIED CARD OF 'laws.FnExactTakeDelta'. -/
def fnExactTakeDeltaCard : Claim7 := { stood := { row := fnExactTakeDeltaRow, standIns := [], harness := (true, "766a583bcffa67a39b52e4bf6221bcf652eb96512a81c6c6436b0fa46b50ee79"), looks := false }, kinds := [], alts := [], laidByText := true, laidKinds := [.data, .pinned], laidTests := true, laidLooks := .later }
def FnExactTakeDeltaCardSaid : Prop := Claim7.holds Tryd.pinned (.plain (OpenSpec.ofChange fnExactTakeDeltaSpec)) fnExactTakeDeltaCard

/-- THE TIED CARD OF 'laws.FnExactTakeRice'. -/
def fnExactTakeRiceCard : Claim7 := { stood := { row := fnExactTakeRiceRow, standIns := [], harness := (true, "766a583bcffa67a39b52e4bf6221bcf652eb96512a81c6c6436b0fa46b50ee79"), looks := false }, kinds := [], alts := [], laidByText := true, laidKinds := [.data, .pinned], laidTests := true, laidLooks := .later }
def FnExactTakeRiceCardSaid : Prop := Claim7.holds Tryd.pinned (.plain (OpenSpec.ofChange fnExactTakeRiceSpec)) fnExactTakeRiceCard

/-- THE TIED CARD OF 'laws.FnExactEncodeList'. -/
def fnExactEncodeListCard : Claim7 := { stood := { row := fnExactEncodeListRow, standIns := [], harness := (true, "766a583bcffa67a39b52e4bf6221bcf652eb96512a81c6c6436b0fa46b50ee79"), looks := false }, kinds := [], alts := [], laidByText := true, laidKinds := [.data, .pinned], laidTests := true, laidLooks := .later }
def FnExactEncodeListCardSaid : Prop := Claim7.holds Tryd.pinned (.plain (OpenSpec.ofChange fnExactEncodeListSpec)) fnExactEncodeListCard

/-- THE TIED CARD OF 'laws.FnExactDecodeList'. -/
def fnExactDecodeListCard : Claim7 := { stood := { row := fnExactDecodeListRow, standIns := [], harness := (true, "766a583bcffa67a39b52e4bf6221bcf652eb96512a81c6c6436b0fa46b50ee79"), looks := false }, kinds := [], alts := [], laidByText := true, laidKinds := [.data, .pinned], laidTests := true, laidLooks := .later }
def FnExactDecodeListCardSaid : Prop := Claim7.holds Tryd.pinned (.plain (OpenSpec.ofChange fnExactDecodeListSpec)) fnExactDecodeListCard

/-- THE SECOND FORM's CARD OF 'laws.FnExactTakeGamma'. -/
def fnExactTakeGammaUptoCard : Claim7 := { stood := { row := fnExactTakeGammaUptoRow, standIns := [], harness := (true, "766a583bcffa67a39b52e4bf6221bcf652eb96512a81c6c6436b0fa46b50ee79"), looks := false }, kinds := [], alts := [], laidByText := true, laidKinds := [.data, .pinned], laidTests := true, laidLooks := .later }
def FnExactTakeGammaUptoCardSaid : Prop := Claim7.holds Tryd.pinned (.plain (OpenSpec.upto fnExactTakeGammaSpec)) fnExactTakeGammaUptoCard

/-- THE SECOND FORM's CARD OF 'laws.FnExactTakeDelta'. -/
def fnExactTakeDeltaUptoCard : Claim7 := { stood := { row := fnExactTakeDeltaUptoRow, standIns := [], harness := (true, "766a583bcffa67a39b52e4bf6221bcf652eb96512a81c6c6436b0fa46b50ee79"), looks := false }, kinds := [], alts := [], laidByText := true, laidKinds := [.data, .pinned], laidTests := true, laidLooks := .later }
def FnExactTakeDeltaUptoCardSaid : Prop := Claim7.holds Tryd.pinned (.plain (OpenSpec.upto fnExactTakeDeltaSpec)) fnExactTakeDeltaUptoCard

/-- THE SECOND FORM's CARD OF 'laws.FnExactTakeRice'. -/
def fnExactTakeRiceUptoCard : Claim7 := { stood := { row := fnExactTakeRiceUptoRow, standIns := [], harness := (true, "766a583bcffa67a39b52e4bf6221bcf652eb96512a81c6c6436b0fa46b50ee79"), looks := false }, kinds := [], alts := [], laidByText := true, laidKinds := [.data, .pinned], laidTests := true, laidLooks := .later }
def FnExactTakeRiceUptoCardSaid : Prop := Claim7.holds Tryd.pinned (.plain (OpenSpec.upto fnExactTakeRiceSpec)) fnExactTakeRiceUptoCard

/-- THE SECOND FORM's CARD OF 'laws.FnExactEncodeList'. -/
def fnExactEncodeListUptoCard : Claim7 := { stood := { row := fnExactEncodeListUptoRow, standIns := [], harness := (true, "766a583bcffa67a39b52e4bf6221bcf652eb96512a81c6c6436b0fa46b50ee79"), looks := false }, kinds := [], alts := [], laidByText := true, laidKinds := [.data, .pinned], laidTests := true, laidLooks := .later }
def FnExactEncodeListUptoCardSaid : Prop := Claim7.holds Tryd.pinned (.plain (OpenSpec.upto fnExactEncodeListSpec)) fnExactEncodeListUptoCard

/-- THE SECOND FORM's CARD OF 'laws.FnExactDecodeList'. -/
def fnExactDecodeListUptoCard : Claim7 := { stood := { row := fnExactDecodeListUptoRow, standIns := [], harness := (true, "766a583bcffa67a39b52e4bf6221bcf652eb96512a81c6c6436b0fa46b50ee79"), looks := false }, kinds := [], alts := [], laidByText := true, laidKinds := [.data, .pinned], laidTests := true, laidLooks := .later }
def FnExactDecodeListUptoCardSaid : Prop := Claim7.holds Tryd.pinned (.plain (OpenSpec.upto fnExactDecodeListSpec)) fnExactDecodeListUptoCard
end Rows
end Go.Proofs.YtlhipceepoenfaaDoor
