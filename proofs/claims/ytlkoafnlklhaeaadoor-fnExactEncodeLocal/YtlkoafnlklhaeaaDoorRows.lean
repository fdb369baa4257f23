/-
  NARROWER THAN 'FOR EVERY INPUT', by the rows' own cells (each row's printed sentence says how): FnExactMsrRow: laid · FnExactHelpFor: laid · FnExactEncodeMsr: laid · FnExactDecodeMsr: laid · FnExactRegeneratePiece: laid · FnExactLocalMatrix: laid · FnExactEncodeLocal: laid · FnExactMendLocal: laid · FnExactCanDecode: laid.
  DERIVED. THE GIVEN ROWS OF THIS SEAT. 9 by the template 'for every input the law returns true; each argument reads behind the call as it read before'; 0 by the template 'total and deterministic' (their statements: YtlkoafnlklhaeaaDoorTotals.lean).
  GIVEN WITH THE SEED: the statements are not yours to turn. If you find one false, say at which input.
  Laid BY PROGRAM, IN A SANDBOX (cutbox-rows.mjs): the forced cells as the released guide's own fill.sh prints them over the translation 605b8133dd682de9… (all of the seat's roots in one cut). By AI agents, Wed Nov 11 2026. No macro, syntax, notation, axiom, sorry.
-/
import Derived.Test.YtlkoafnlklhaeaaDoorChecked
import GoSem.Claim
import GoSem.ClaimJoined
import GoSem.ClaimMapViews
import Derived.JoinedTies
import Derived.KernelRfl
namespace Go.Proofs.YtlkoafnlklhaeaaDoor
/- THE CELL 'sum', in the pinned program and in every row, IS THE sha256 OF THE DUMP (.gsa) THAT YtlkoafnlklhaeaaDoorProg.lean LOADS. Nothing in Lean hashes anything: it is a label: what it is worth is what the hold of that sum in a sandbox is worth. -/
noncomputable def Tryd.pinned : Pinned := { name := "ytlkoafnlklhaeaadoor", sum := "605b8133dd682de941627f830019d762ed76a6199c64b4c7c2a1c245169f6112", checked := Tryd.checked }
namespace Rows
def none {H : Type} : Left H := { results := [], args := [] }

/- WHAT THE LISTED PACKAGE-LEVEL VARIABLES READ AS WHEN THE CALL BEGINS. Each datum BY PROGRAM (the guide's laid-datum.mjs) off the statement by which the dump's own 'gosem.cut.vars' lays the variable. In a bare row this is a premise. The card (YtlkoafnlklhaeaaDoorCards.lean) ties it to the program's text. -/
def laid_loop_example_g00294_impl_remainders {H : Type} : DataW H := .agg [.lit (.int .u8 27), .lit (.int .u8 54), .lit (.int .u8 108), .lit (.int .u8 216), .lit (.int .u8 171), .lit (.int .u8 77), .lit (.int .u8 154)]

/-- 'laws.FnExactMsrRow': WHATEVER THE INPUT: true; the input reads as it did. -/
def fnExactMsrRowSpec : ChangeSpec := { name := "fnExactMsrRow", vars := ["loop.example/g00294/impl.remainders"], fn := fun _ => fun
  | [d1, d2, g1] => { results := [.lit (.bool true)], args := [d1, d2], vars := [g1] }
  | _ => none }
def fnExactMsrRowRow : OpenClaim := { program := "ytlkoafnlklhaeaadoor", sum := "605b8133dd682de941627f830019d762ed76a6199c64b4c7c2a1c245169f6112", func := "loop.example/g00294/laws.FnExactMsrRow", spec := "fnExactMsrRow", named := ["loop.example/g00294/impl.remainders"], apart := false, laid := [("loop.example/g00294/impl.remainders", laid_loop_example_g00294_impl_remainders)] }
def FnExactMsrRowSaid : Prop := fnExactMsrRowRow.holds Tryd.pinned (OpenSpec.ofChange fnExactMsrRowSpec)

/-- ITS FALSE NEIGHBOUR: 'it returns false'. Refute it at one input. -/
def fnExactMsrRowWrong : ChangeSpec := { name := "fnExactMsrRow", vars := ["loop.example/g00294/impl.remainders"], fn := fun _ => fun
  | [d1, d2, g1] => { results := [.lit (.bool false)], args := [d1, d2], vars := [g1] }
  | _ => none }
def FnExactMsrRowWrongFalsely : Prop := fnExactMsrRowRow.holds Tryd.pinned (OpenSpec.ofChange fnExactMsrRowWrong)

/-- 'laws.FnExactHelpFor': WHATEVER THE INPUT: true; the input reads as it did. -/
def fnExactHelpForSpec : ChangeSpec := { name := "fnExactHelpFor", vars := ["loop.example/g00294/impl.remainders"], fn := fun _ => fun
  | [d1, d2, d3, g1] => { results := [.lit (.bool true)], args := [d1, d2, d3], vars := [g1] }
  | _ => none }
def fnExactHelpForRow : OpenClaim := { program := "ytlkoafnlklhaeaadoor", sum := "605b8133dd682de941627f830019d762ed76a6199c64b4c7c2a1c245169f6112", func := "loop.example/g00294/laws.FnExactHelpFor", spec := "fnExactHelpFor", named := ["loop.example/g00294/impl.remainders"], apart := false, laid := [("loop.example/g00294/impl.remainders", laid_loop_example_g00294_impl_remainders)] }
def FnExactHelpForSaid : Prop := fnExactHelpForRow.holds Tryd.pinned (OpenSpec.ofChange fnExactHelpForSpec)

/-- ITS FALSE NEIGHBOUR: 'it returns false'. Refute it at one input. -/
def fnExactHelpForWrong : ChangeSpec := { name := "fnExactHelpFor", vars := ["loop.example/g00294/impl.remainders"], fn := fun _ => fun
  | [d1, d2, d3, g1] => { results := [.lit (.bool false)], args := [d1, d2, d3], vars := [g1] }
  | _ => none }
def FnExactHelpForWrongFalsely : Prop := fnExactHelpForRow.holds Tryd.pinned (OpenSpec.ofChange fnExactHelpForWrong)

/-- 'laws.FnExactEncodeMsr': WHATEVER THE INPUT: true; the input reads as it did. -/
def fnExactEncodeMsrSpec : ChangeSpec := { name := "fnExactEncodeMsr", vars := ["loop.example/g00294/impl.remainders"], fn := fun _ => fun
  | [d1, d2, g1] => { results := [.lit (.bool true)], args := [d1, d2], vars := [g1] }
  | _ => none }
def fnExactEncodeMsrRow : OpenClaim := { program := "ytlkoafnlklhaeaadoor", sum := "605b8133dd682de941627f830019d762ed76a6199c64b4c7c2a1c245169f6112", func := "loop.example/g00294/laws.FnExactEncodeMsr", spec := "fnExactEncodeMsr", unfollowed := true, recurses := true, named := ["loop.example/g00294/impl.remainders"], apart := false, laid := [("loop.example/g00294/impl.remainders", laid_loop_example_g00294_impl_remainders)] }
def FnExactEncodeMsrSaid : Prop := fnExactEncodeMsrRow.holds Tryd.pinned (OpenSpec.ofChange fnExactEncodeMsrSpec)

/-- ITS FALSE NEIGHBOUR: 'it returns false'. Refute it at one input. -/
def fnExactEncodeMsrWrong : ChangeSpec := { name := "fnExactEncodeMsr", vars := ["loop.example/g00294/impl.remainders"], fn := fun _ => fun
  | [d1, d2, g1] => { results := [.lit (.bool false)], args := [d1, d2], vars := [g1] }
  | _ => none }
def FnExactEncodeMsrWrongFalsely : Prop := fnExactEncodeMsrRow.holds Tryd.pinned (OpenSpec.ofChange fnExactEncodeMsrWrong)

/-- 'laws.FnExactDecodeMsr': WHATEVER THE INPUT: true; the input reads as it did. -/
def fnExactDecodeMsrSpec : ChangeSpec := { name := "fnExactDecodeMsr", vars := ["loop.example/g00294/impl.remainders"], fn := fun _ => fun
  | [d1, d2, g1] => { results := [.lit (.bool true)], args := [d1, d2], vars := [g1] }
  | _ => none }
def fnExactDecodeMsrRow : OpenClaim := { program := "ytlkoafnlklhaeaadoor", sum := "605b8133dd682de941627f830019d762ed76a6199c64b4c7c2a1c245169f6112", func := "loop.example/g00294/laws.FnExactDecodeMsr", spec := "fnExactDecodeMsr", unfollowed := true, recurses := true, named := ["loop.example/g00294/impl.remainders"], apart := false, laid := [("loop.example/g00294/impl.remainders", laid_loop_example_g00294_impl_remainders)] }
def FnExactDecodeMsrSaid : Prop := fnExactDecodeMsrRow.holds Tryd.pinned (OpenSpec.ofChange fnExactDecodeMsrSpec)

/-- ITS FALSE NEIGHBOUR: 'it returns false'. Refute it at one input. -/
def fnExactDecodeMsrWrong : ChangeSpec := { name := "fnExactDecodeMsr", vars := ["loop.example/g00294/impl.remainders"], fn := fun _ => fun
  | [d1, d2, g1] => { results := [.lit (.bool false)], args := [d1, d2], vars := [g1] }
  | _ => none }
def FnExactDecodeMsrWrongFalsely : Prop := fnExactDecodeMsrRow.holds Tryd.pinned (OpenSpec.ofChange fnExactDecodeMsrWrong)

/-- 'laws.FnExactRegeneratePiece': WHATEVER THE INPUT: true; the input reads as it did. -/
def fnExactRegeneratePieceSpec : ChangeSpec := { name := "fnExactRegeneratePiece", vars := ["loop.example/g00294/impl.remainders"], fn := fun _ => fun
  | [d1, d2, d3, g1] => { results := [.lit (.bool true)], args := [d1, d2, d3], vars := [g1] }
  | _ => none }
def fnExactRegeneratePieceRow : OpenClaim := { program := "ytlkoafnlklhaeaadoor", sum := "605b8133dd682de941627f830019d762ed76a6199c64b4c7c2a1c245169f6112", func := "loop.example/g00294/laws.FnExactRegeneratePiece", spec := "fnExactRegeneratePiece", unfollowed := true, recurses := true, named := ["loop.example/g00294/impl.remainders"], apart := false, laid := [("loop.example/g00294/impl.remainders", laid_loop_example_g00294_impl_remainders)] }
def FnExactRegeneratePieceSaid : Prop := fnExactRegeneratePieceRow.holds Tryd.pinned (OpenSpec.ofChange fnExactRegeneratePieceSpec)

/-- ITS FALSE NEIGHBOUR: 'it returns false'. Refute it at one input. -/
def fnExactRegeneratePieceWrong : ChangeSpec := { name := "fnExactRegeneratePiece", vars := ["loop.example/g00294/impl.remainders"], fn := fun _ => fun
  | [d1, d2, d3, g1] => { results := [.lit (.bool false)], args := [d1, d2, d3], vars := [g1] }
  | _ => none }
def FnExactRegeneratePieceWrongFalsely : Prop := fnExactRegeneratePieceRow.holds Tryd.pinned (OpenSpec.ofChange fnExactRegeneratePieceWrong)

/-- 'laws.FnExactLocalMatrix': WHATEVER THE INPUT: true; the input reads as it did. -/
def fnExactLocalMatrixSpec : ChangeSpec := { name := "fnExactLocalMatrix", vars := ["loop.example/g00294/impl.remainders"], fn := fun _ => fun
  | [d, g1] => { results := [.lit (.bool true)], args := [d], vars := [g1] }
  | _ => none }
def fnExactLocalMatrixRow : OpenClaim := { program := "ytlkoafnlklhaeaadoor", sum := "605b8133dd682de941627f830019d762ed76a6199c64b4c7c2a1c245169f6112", func := "loop.example/g00294/laws.FnExactLocalMatrix", spec := "fnExactLocalMatrix", unfollowed := true, recurses := true, named := ["loop.example/g00294/impl.remainders"], apart := false, laid := [("loop.example/g00294/impl.remainders", laid_loop_example_g00294_impl_remainders)] }
def FnExactLocalMatrixSaid : Prop := fnExactLocalMatrixRow.holds Tryd.pinned (OpenSpec.ofChange fnExactLocalMatrixSpec)

/-- ITS FALSE NEIGHBOUR: 'it returns false'. Refute it at one input. -/
def fnExactLocalMatrixWrong : ChangeSpec := { name := "fnExactLocalMatrix", vars := ["loop.example/g00294/impl.remainders"], fn := fun _ => fun
  | [d, g1] => { results := [.lit (.bool false)], args := [d], vars := [g1] }
  | _ => none }
def FnExactLocalMatrixWrongFalsely : Prop := fnExactLocalMatrixRow.holds Tryd.pinned (OpenSpec.ofChange fnExactLocalMatrixWrong)

/-- 'laws.FnExactEncodeLocal': WHATEVER THE INPUT: true; the input reads as it did. -/
def fnExactEncodeLocalSpec : ChangeSpec := { name := "fnExactEncodeLocal", vars := ["loop.example/g00294/impl.remainders"], fn := fun _ => fun
  | [d1, d2, g1] => { results := [.lit (.bool true)], args := [d1, d2], vars := [g1] }
  | _ => none }
def fnExactEncodeLocalRow : OpenClaim := { program := "ytlkoafnlklhaeaadoor", sum := "605b8133dd682de941627f830019d762ed76a6199c64b4c7c2a1c245169f6112", func := "loop.example/g00294/laws.FnExactEncodeLocal", spec := "fnExactEncodeLocal", unfollowed := true, recurses := true, named := ["loop.example/g00294/impl.remainders"], apart := false, laid := [("loop.example/g00294/impl.remainders", laid_loop_example_g00294_impl_remainders)] }
def FnExactEncodeLocalSaid : Prop := fnExactEncodeLocalRow.holds Tryd.pinned (OpenSpec.ofChange fnExactEncodeLocalSpec)

/-- ITS FALSE NEIGHBOUR: 'it returns false'. Refute it at one input. -/
def fnExactEncodeLocalWrong : ChangeSpec := { name := "fnExactEncodeLocal", vars := ["loop.example/g00294/impl.remainders"], fn := fun _ => fun
  | [d1, d2, g1] => { results := [.lit (.bool false)], args := [d1, d2], vars := [g1] }
  | _ => none }
def FnExactEncodeLocalWrongFalsely : Prop := fnExactEncodeLocalRow.holds Tryd.pinned (OpenSpec.ofChange fnExactEncodeLocalWrong)

/-- 'laws.FnExactMendLocal': WHATEVER THE INPUT: true; the input reads as it did. -/
def fnExactMendLocalSpec : ChangeSpec := { name := "fnExactMendLocal", vars := ["loop.example/g00294/impl.remainders"], fn := fun _ => fun
  | [d1, d2, d3, g1] => { results := [.lit (.bool true)], args := [d1, d2, d3], vars := [g1] }
  | _ => none }
def fnExactMendLocalRow : OpenClaim := { program := "ytlkoafnlklhaeaadoor", sum := "605b8133dd682de941627f830019d762ed76a6199c64b4c7c2a1c245169f6112", func := "loop.example/g00294/laws.FnExactMendLocal", spec := "fnExactMendLocal", inPlace := ["internal/bytealg.MakeNoZero"], recurses := true, named := ["loop.example/g00294/impl.remainders"], apart := false, laid := [("loop.example/g00294/impl.remainders", laid_loop_example_g00294_impl_remainders)] }
def FnExactMendLocalSaid : Prop := fnExactMendLocalRow.holds Tryd.pinned (OpenSpec.ofChange fnExactMendLocalSpec)

/-- ITS FALSE NEIGHBOUR: 'it returns false'. Refute it at one input. -/
def fnExactMendLocalWrong : ChangeSpec := { name := "fnExactMendLocal", vars := ["loop.example/g00294/impl.remainders"], fn := fun _ => fun
  | [d1, d2, d3, g1] => { results := [.lit (.bool false)], args := [d1, d2, d3], vars := [g1] }
  | _ => none }
def FnExactMendLocalWrongFalsely : Prop := fnExactMendLocalRow.holds Tryd.pinned (OpenSpec.ofChange fnExactMendLocalWrong)

/-- 'laws.FnExactCanDecode': WHATEVER THE INPUT: true; the input reads as it did. -/
def fnExactCanDecodeSpec : ChangeSpec := { name := "fnExactCanDecode", vars := ["loop.example/g00294/impl.remainders"], fn := fun _ => fun
  | [d1, d2, g1] => { results := [.lit (.bool true)], args := [d1, d2], vars := [g1] }
  | _ => none }
def fnExactCanDecodeRow : OpenClaim := { program := "ytlkoafnlklhaeaadoor", sum := "605b8133dd682de941627f830019d762ed76a6199c64b4c7c2a1c245169f6112", func := "loop.example/g00294/laws.FnExactCanDecode", spec := "fnExactCanDecode", unfollowed := true, recurses := true, named := ["loop.example/g00294/impl.remainders"], apart := false, laid := [("loop.example/g00294/impl.remainders", laid_loop_example_g00294_impl_remainders)] }
def FnExactCanDecodeSaid : Prop := fnExactCanDecodeRow.holds Tryd.pinned (OpenSpec.ofChange fnExactCanDecodeSpec)

/-- ITS FALSE NEIGHBOUR: 'it returns false'. Refute it at one input. -/
def fnExactCanDecodeWrong : ChangeSpec := { name := "fnExactCanDecode", vars := ["loop.example/g00294/impl.remainders"], fn := fun _ => fun
  | [d1, d2, g1] => { results := [.lit (.bool false)], args := [d1, d2], vars := [g1] }
  | _ => none }
def FnExactCanDecodeWrongFalsely : Prop := fnExactCanDecodeRow.holds Tryd.pinned (OpenSpec.ofChange fnExactCanDecodeWrong)

/- THE SECOND FORM. 'bulk': how many values and letters a reading holds, each counted each time it is reached (what is shared counts as often as it is met; a slice's spare places count too). A statement '..UptoSaid' is the law's where the arguments, and the package variables that the reading takes, are together of bulk at most 1048576: NARROWER than '..Said'. Prove '..Said' where nothing that the law and all that it calls make is longer than what came in: it says more and counts as full. Else prove '..UptoSaid'. A law counts once. -/
mutual
def uptoBulk {H : Type} : DataW H → Nat
  | .lit (.string bytes) => bytes.length + 1
  | .lit _ => 1
  | .nil => 1
  | .ptr d => uptoBulk d + 1
  | .slice elems spare => uptoBulkAll elems + uptoBulkAll spare + 1
  | .agg parts => uptoBulkAll parts + 1
  | .iface _ d => uptoBulk d + 1
  | .map entries => uptoBulkEntries entries + 1
  | .held _ => 1
def uptoBulkAll {H : Type} : List (DataW H) → Nat
  | [] => 0
  | d :: r => uptoBulk d + uptoBulkAll r
def uptoBulkEntries {H : Type} : List (Lit × DataW H) → Nat
  | [] => 0
  | x :: r => uptoBulkEntry x + uptoBulkEntries r
def uptoBulkEntry {H : Type} : Lit × DataW H → Nat
  | (.string bytes, d) => bytes.length + uptoBulk d + 1
  | (_, d) => uptoBulk d + 1
 end
def uptoSmall : (H : Type) → List (DataW H) → Bool := fun _ ds => decide (uptoBulkAll ds ≤ 1048576)
def OpenSpec.upto (s : _root_.Go.ChangeSpec) : _root_.Go.OpenSpec := { _root_.Go.OpenSpec.ofChange s with cond := some uptoSmall }

/-- 'laws.FnExactMsrRow', WHERE WHAT IT READS IS OF BULK AT MOST 1048576: true; the input reads as it did. -/
def fnExactMsrRowUptoRow : OpenClaim := { program := "ytlkoafnlklhaeaadoor", sum := "605b8133dd682de941627f830019d762ed76a6199c64b4c7c2a1c245169f6112", func := "loop.example/g00294/laws.FnExactMsrRow", spec := "fnExactMsrRow", named := ["loop.example/g00294/impl.remainders"], apart := false, laid := [("loop.example/g00294/impl.remainders", laid_loop_example_g00294_impl_remainders)], narrowed := true }
def FnExactMsrRowUptoSaid : Prop := fnExactMsrRowUptoRow.holds Tryd.pinned (OpenSpec.upto fnExactMsrRowSpec)

/-- 'laws.FnExactHelpFor', WHERE WHAT IT READS IS OF BULK AT MOST 1048576: true; the input reads as it did. -/
def fnExactHelpForUptoRow : OpenClaim := { program := "ytlkoafnlklhaeaadoor", sum := "605b8133dd682de941627f830019d762ed76a6199c64b4c7c2a1c245169f6112", func := "loop.example/g00294/laws.FnExactHelpFor", spec := "fnExactHelpFor", named := ["loop.example/g00294/impl.remainders"], apart := false, laid := [("loop.example/g00294/impl.remainders", laid_loop_example_g00294_impl_remainders)], narrowed := true }
def FnExactHelpForUptoSaid : Prop := fnExactHelpForUptoRow.holds Tryd.pinned (OpenSpec.upto fnExactHelpForSpec)

/-- 'laws.FnExactEncodeMsr', WHERE WHAT IT READS IS OF BULK AT MOST 1048576: true; the input reads as it did. -/
def fnExactEncodeMsrUptoRow : OpenClaim := { program := "ytlkoafnlklhaeaadoor", sum := "605b8133dd682de941627f830019d762ed76a6199c64b4c7c2a1c245169f6112", func := "loop.example/g00294/laws.FnExactEncodeMsr", spec := "fnExactEncodeMsr", unfollowed := true, recurses := true, named := ["loop.example/g00294/impl.remainders"], apart := false, laid := [("loop.example/g00294/impl.remainders", laid_loop_example_g00294_impl_remainders)], narrowed := true }
def FnExactEncodeMsrUptoSaid : Prop := fnExactEncodeMsrUptoRow.holds Tryd.pinned (OpenSpec.upto fnExactEncodeMsrSpec)

/-- 'laws.FnExactDecodeMsr', WHERE WHAT IT READS IS OF BULK AT MOST 1048576: true; the input reads as it did. -/
def fnExactDecodeMsrUptoRow : OpenClaim := { program := "ytlkoafnlklhaeaadoor", sum := "605b8133dd682de941627f830019d762ed76a6199c64b4c7c2a1c245169f6112", func := "loop.example/g00294/laws.FnExactDecodeMsr", spec := "fnExactDecodeMsr", unfollowed := true, recurses := true, named := ["loop.example/g00294/impl.remainders"], apart := false, laid := [("loop.example/g00294/impl.remainders", laid_loop_example_g00294_impl_remainders)], narrowed := true }
def FnExactDecodeMsrUptoSaid : Prop := fnExactDecodeMsrUptoRow.holds Tryd.pinned (OpenSpec.upto fnExactDecodeMsrSpec)

/-- 'laws.FnExactRegeneratePiece', WHERE WHAT IT READS IS OF BULK AT MOST 1048576: true; the input reads as it did. -/
def fnExactRegeneratePieceUptoRow : OpenClaim := { program := "ytlkoafnlklhaeaadoor", sum := "605b8133dd682de941627f830019d762ed76a6199c64b4c7c2a1c245169f6112", func := "loop.example/g00294/laws.FnExactRegeneratePiece", spec := "fnExactRegeneratePiece", unfollowed := true, recurses := true, named := ["loop.example/g00294/impl.remainders"], apart := false, laid := [("loop.example/g00294/impl.remainders", laid_loop_example_g00294_impl_remainders)], narrowed := true }
def FnExactRegeneratePieceUptoSaid : Prop := fnExactRegeneratePieceUptoRow.holds Tryd.pinned (OpenSpec.upto fnExactRegeneratePieceSpec)

/-- 'laws.FnExactLocalMatrix', WHERE WHAT IT READS IS OF BULK AT MOST 1048576: true; the input reads as it did. -/
def fnExactLocalMatrixUptoRow : OpenClaim := { program := "ytlkoafnlklhaeaadoor", sum := "605b8133dd682de941627f830019d762ed76a6199c64b4c7c2a1c245169f6112", func := "loop.example/g00294/laws.FnExactLocalMatrix", spec := "fnExactLocalMatrix", unfollowed := true, recurses := true, named := ["loop.example/g00294/impl.remainders"], apart := false, laid := [("loop.example/g00294/impl.remainders", laid_loop_example_g00294_impl_remainders)], narrowed := true }
def FnExactLocalMatrixUptoSaid : Prop := fnExactLocalMatrixUptoRow.holds Tryd.pinned (OpenSpec.upto fnExactLocalMatrixSpec)

/-- 'laws.FnExactEncodeLocal', WHERE WHAT IT READS IS OF BULK AT MOST 1048576: true; the input reads as it did. -/
def fnExactEncodeLocalUptoRow : OpenClaim := { program := "ytlkoafnlklhaeaadoor", sum := "605b8133dd682de941627f830019d762ed76a6199c64b4c7c2a1c245169f6112", func := "loop.example/g00294/laws.FnExactEncodeLocal", spec := "fnExactEncodeLocal", unfollowed := true, recurses := true, named := ["loop.example/g00294/impl.remainders"], apart := false, laid := [("loop.example/g00294/impl.remainders", laid_loop_example_g00294_impl_remainders)], narrowed := true }
def FnExactEncodeLocalUptoSaid : Prop := fnExactEncodeLocalUptoRow.holds Tryd.pinned (OpenSpec.upto fnExactEncodeLocalSpec)

/-- 'laws.FnExactMendLocal', WHERE WHAT IT READS IS OF BULK AT MOST 1048576: true; the input reads as it did. -/
def fnExactMendLocalUptoRow : OpenClaim := { program := "ytlkoafnlklhaeaadoor", sum := "605b8133dd682de941627f830019d762ed76a6199c64b4c7c2a1c245169f6112", func := "loop.example/g00294/laws.FnExactMendLocal", spec := "fnExactMendLocal", inPlace := ["internal/bytealg.MakeNoZero"], recurses := true, named := ["loop.example/g00294/impl.remainders"], apart := false, laid := [("loop.example/g00294/impl.remainders", laid_loop_example_g00294_impl_remainders)], narrowed := true }
def FnExactMendLocalUptoSaid : Prop := fnExactMendLocalUptoRow.holds Tryd.pinned (OpenSpec.upto fnExactMendLocalSpec)

/-- 'laws.FnExactCanDecode', WHERE WHAT IT READS IS OF BULK AT MOST 1048576: true; the input reads as it did. -/
def fnExactCanDecodeUptoRow : OpenClaim := { program := "ytlkoafnlklhaeaadoor", sum := "605b8133dd682de941627f830019d762ed76a6199c64b4c7c2a1c245169f6112", func := "loop.example/g00294/laws.FnExactCanDecode", spec := "fnExactCanDecode", unfollowed := true, recurses := true, named := ["loop.example/g00294/impl.remainders"], apart := false, laid := [("loop.example/g00294/impl.remainders", laid_loop_example_g00294_impl_remainders)], narrowed := true }
def FnExactCanDecodeUptoSaid : Prop := fnExactCanDecodeUptoRow.holds Tryd.pinned (OpenSpec.upto fnExactCanDecodeSpec)

end Rows
end Go.Proofs.YtlkoafnlklhaeaaDoor
