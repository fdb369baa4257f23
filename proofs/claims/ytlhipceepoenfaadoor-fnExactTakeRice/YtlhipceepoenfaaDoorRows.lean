/-
  NARROWER THAN 'FOR EVERY INPUT', by the rows' own cells (each row's printed sentence says how): FnExactTakeGamma: laid · FnExactTakeDelta: laid · FnExactTakeRice: laid · FnExactEncodeList: laid · FnExactDecodeList: laid.
  DERIVED. THE GIVEN ROWS OF THIS SEAT. 5 by the template 'for every input the law returns true; each argument reads behind the call as it read before'; 0 by the template 'total and deterministic' (their statements: YtlhipceepoenfaaDoorTotals.lean).
  GIVEN WITH THE SEED: the statements are not yours to turn. If you find one false, say at which input.
  Laid BY PROGRAM, IN A SANDBOX (cutbox-rows.mjs): the forced cells as the released guide's own fill.sh prints them over the translation 09338c70365521c9… (all of the seat's roots in one cut). By AI agents, Wed Nov 11 2026. No macro, syntax, notation, axiom, sorry.
-/
import Derived.Test.YtlhipceepoenfaaDoorChecked
import GoSem.PinnedTables
import GoSem.Claim
import GoSem.ClaimJoined
import GoSem.ClaimMapViews
import Derived.JoinedTies
import Derived.KernelRfl
namespace Go.Proofs.YtlhipceepoenfaaDoor
/- THE CELL 'sum', in the pinned program and in every row, IS THE sha256 OF THE DUMP (.gsa) THAT YtlhipceepoenfaaDoorProg.lean LOADS. Nothing in Lean hashes anything: it is a label: what it is worth is what the hold of that sum in a sandbox is worth. -/
noncomputable def Tryd.pinned : Pinned := { name := "ytlhipceepoenfaadoor", sum := "09338c70365521c961834d212f938d2d328e0135ccf8a643e1ca40ccde4fb80a", checked := Tryd.checked }
namespace Rows
def none {H : Type} : Left H := { results := [], args := [] }

/- WHAT THE LISTED PACKAGE-LEVEL VARIABLES READ AS WHEN THE CALL BEGINS. Each datum BY PROGRAM (the guide's laid-datum.mjs) off the statement by which the dump's own 'gosem.cut.vars' lays the variable. In a bare row this is a premise. The card (YtlhipceepoenfaaDoorCards.lean) ties it to the program's text. -/
def laid_unicode_utf8_acceptRanges {H : Type} : DataW H := .agg [.agg [.lit (.int .u8 128), .lit (.int .u8 191)], .agg [.lit (.int .u8 160), .lit (.int .u8 191)], .agg [.lit (.int .u8 128), .lit (.int .u8 159)], .agg [.lit (.int .u8 144), .lit (.int .u8 191)], .agg [.lit (.int .u8 128), .lit (.int .u8 143)], .agg [.lit (.int .u8 0), .lit (.int .u8 0)], .agg [.lit (.int .u8 0), .lit (.int .u8 0)], .agg [.lit (.int .u8 0), .lit (.int .u8 0)], .agg [.lit (.int .u8 0), .lit (.int .u8 0)], .agg [.lit (.int .u8 0), .lit (.int .u8 0)], .agg [.lit (.int .u8 0), .lit (.int .u8 0)], .agg [.lit (.int .u8 0), .lit (.int .u8 0)], .agg [.lit (.int .u8 0), .lit (.int .u8 0)], .agg [.lit (.int .u8 0), .lit (.int .u8 0)], .agg [.lit (.int .u8 0), .lit (.int .u8 0)], .agg [.lit (.int .u8 0), .lit (.int .u8 0)]]
/-- One of Go's own tables, pinned by name: the form's constant. -/
def laid_unicode_utf8_first : DataW Unit := Go.Pinned.utf8First

/-- 'laws.FnExactTakeGamma': WHATEVER THE INPUT: true; the input reads as it did. -/
def fnExactTakeGammaSpec : ChangeSpec := { name := "fnExactTakeGamma", fn := fun _ => fun
  | [d] => { results := [.lit (.bool true)], args := [d] }
  | _ => none }
def fnExactTakeGammaRow : OpenClaim := { program := "ytlhipceepoenfaadoor", sum := "09338c70365521c961834d212f938d2d328e0135ccf8a643e1ca40ccde4fb80a", func := "loop.example/g00294/laws.FnExactTakeGamma", spec := "fnExactTakeGamma", inPlace := ["internal/bytealg.IndexByteString", "internal/bytealg.IndexString"], unfollowed := true, recurses := true, named := ["unicode/utf8.first", "unicode/utf8.acceptRanges", "internal/bytealg.MaxLen"], apart := false, laid := [("unicode/utf8.acceptRanges", laid_unicode_utf8_acceptRanges), ("unicode/utf8.first", laid_unicode_utf8_first)] }
def FnExactTakeGammaSaid : Prop := fnExactTakeGammaRow.holds Tryd.pinned (OpenSpec.ofChange fnExactTakeGammaSpec)

/-- ITS FALSE NEIGHBOUR: 'it returns false'. Refute it at one input. -/
def fnExactTakeGammaWrong : ChangeSpec := { name := "fnExactTakeGamma", fn := fun _ => fun
  | [d] => { results := [.lit (.bool false)], args := [d] }
  | _ => none }
def FnExactTakeGammaWrongFalsely : Prop := fnExactTakeGammaRow.holds Tryd.pinned (OpenSpec.ofChange fnExactTakeGammaWrong)

/-- 'laws.FnExactTakeDelta': WHATEVER THE INPUT: true; the input reads as it did. -/
def fnExactTakeDeltaSpec : ChangeSpec := { name := "fnExactTakeDelta", fn := fun _ => fun
  | [d] => { results := [.lit (.bool true)], args := [d] }
  | _ => none }
def fnExactTakeDeltaRow : OpenClaim := { program := "ytlhipceepoenfaadoor", sum := "09338c70365521c961834d212f938d2d328e0135ccf8a643e1ca40ccde4fb80a", func := "loop.example/g00294/laws.FnExactTakeDelta", spec := "fnExactTakeDelta", inPlace := ["internal/bytealg.IndexByteString", "internal/bytealg.IndexString"], unfollowed := true, recurses := true, named := ["unicode/utf8.first", "unicode/utf8.acceptRanges", "internal/bytealg.MaxLen"], apart := false, laid := [("unicode/utf8.acceptRanges", laid_unicode_utf8_acceptRanges), ("unicode/utf8.first", laid_unicode_utf8_first)] }
def FnExactTakeDeltaSaid : Prop := fnExactTakeDeltaRow.holds Tryd.pinned (OpenSpec.ofChange fnExactTakeDeltaSpec)

/-- ITS FALSE NEIGHBOUR: 'it returns false'. Refute it at one input. -/
def fnExactTakeDeltaWrong : ChangeSpec := { name := "fnExactTakeDelta", fn := fun _ => fun
  | [d] => { results := [.lit (.bool false)], args := [d] }
  | _ => none }
def FnExactTakeDeltaWrongFalsely : Prop := fnExactTakeDeltaRow.holds Tryd.pinned (OpenSpec.ofChange fnExactTakeDeltaWrong)

/-- 'laws.FnExactTakeRice': WHATEVER THE INPUT: true; the input reads as it did. -/
def fnExactTakeRiceSpec : ChangeSpec := { name := "fnExactTakeRice", fn := fun _ => fun
  | [d1, d2] => { results := [.lit (.bool true)], args := [d1, d2] }
  | _ => none }
def fnExactTakeRiceRow : OpenClaim := { program := "ytlhipceepoenfaadoor", sum := "09338c70365521c961834d212f938d2d328e0135ccf8a643e1ca40ccde4fb80a", func := "loop.example/g00294/laws.FnExactTakeRice", spec := "fnExactTakeRice", inPlace := ["internal/bytealg.IndexByteString", "internal/bytealg.IndexString"], unfollowed := true, recurses := true, named := ["unicode/utf8.first", "unicode/utf8.acceptRanges", "internal/bytealg.MaxLen"], apart := false, laid := [("unicode/utf8.acceptRanges", laid_unicode_utf8_acceptRanges), ("unicode/utf8.first", laid_unicode_utf8_first)] }
def FnExactTakeRiceSaid : Prop := fnExactTakeRiceRow.holds Tryd.pinned (OpenSpec.ofChange fnExactTakeRiceSpec)

/-- ITS FALSE NEIGHBOUR: 'it returns false'. Refute it at one input. -/
def fnExactTakeRiceWrong : ChangeSpec := { name := "fnExactTakeRice", fn := fun _ => fun
  | [d1, d2] => { results := [.lit (.bool false)], args := [d1, d2] }
  | _ => none }
def FnExactTakeRiceWrongFalsely : Prop := fnExactTakeRiceRow.holds Tryd.pinned (OpenSpec.ofChange fnExactTakeRiceWrong)

/-- 'laws.FnExactEncodeList': WHATEVER THE INPUT: true; the input reads as it did. -/
def fnExactEncodeListSpec : ChangeSpec := { name := "fnExactEncodeList", fn := fun _ => fun
  | [d1, d2] => { results := [.lit (.bool true)], args := [d1, d2] }
  | _ => none }
def fnExactEncodeListRow : OpenClaim := { program := "ytlhipceepoenfaadoor", sum := "09338c70365521c961834d212f938d2d328e0135ccf8a643e1ca40ccde4fb80a", func := "loop.example/g00294/laws.FnExactEncodeList", spec := "fnExactEncodeList", inPlace := ["internal/bytealg.IndexByteString", "internal/bytealg.IndexString", "internal/abi.NoEscape", "internal/bytealg.MakeNoZero"], unfollowed := true, recurses := true, named := ["unicode/utf8.first", "unicode/utf8.acceptRanges", "internal/bytealg.MaxLen"], apart := false, laid := [("unicode/utf8.acceptRanges", laid_unicode_utf8_acceptRanges), ("unicode/utf8.first", laid_unicode_utf8_first)] }
def FnExactEncodeListSaid : Prop := fnExactEncodeListRow.holds Tryd.pinned (OpenSpec.ofChange fnExactEncodeListSpec)

/-- ITS FALSE NEIGHBOUR: 'it returns false'. Refute it at one input. -/
def fnExactEncodeListWrong : ChangeSpec := { name := "fnExactEncodeList", fn := fun _ => fun
  | [d1, d2] => { results := [.lit (.bool false)], args := [d1, d2] }
  | _ => none }
def FnExactEncodeListWrongFalsely : Prop := fnExactEncodeListRow.holds Tryd.pinned (OpenSpec.ofChange fnExactEncodeListWrong)

/-- 'laws.FnExactDecodeList': WHATEVER THE INPUT: true; the input reads as it did. -/
def fnExactDecodeListSpec : ChangeSpec := { name := "fnExactDecodeList", fn := fun _ => fun
  | [d1, d2] => { results := [.lit (.bool true)], args := [d1, d2] }
  | _ => none }
def fnExactDecodeListRow : OpenClaim := { program := "ytlhipceepoenfaadoor", sum := "09338c70365521c961834d212f938d2d328e0135ccf8a643e1ca40ccde4fb80a", func := "loop.example/g00294/laws.FnExactDecodeList", spec := "fnExactDecodeList", inPlace := ["internal/bytealg.IndexByteString", "internal/bytealg.IndexString", "internal/abi.NoEscape", "internal/bytealg.MakeNoZero"], unfollowed := true, recurses := true, named := ["unicode/utf8.first", "unicode/utf8.acceptRanges", "internal/bytealg.MaxLen"], apart := false, laid := [("unicode/utf8.acceptRanges", laid_unicode_utf8_acceptRanges), ("unicode/utf8.first", laid_unicode_utf8_first)] }
def FnExactDecodeListSaid : Prop := fnExactDecodeListRow.holds Tryd.pinned (OpenSpec.ofChange fnExactDecodeListSpec)

/-- ITS FALSE NEIGHBOUR: 'it returns false'. Refute it at one input. -/
def fnExactDecodeListWrong : ChangeSpec := { name := "fnExactDecodeList", fn := fun _ => fun
  | [d1, d2] => { results := [.lit (.bool false)], args := [d1, d2] }
  | _ => none }
def FnExactDecodeListWrongFalsely : Prop := fnExactDecodeListRow.holds Tryd.pinned (OpenSpec.ofChange fnExactDecodeListWrong)

/- THE SECOND FORM. 'bulk': how many values and letters a reading holds, each counted each time it is reached (what is shared counts as often as it is met; a slice's spare places count too). A statement '..UptoSaid' is the law's where the arguments, and the package variables that the reading takes, are together of bulk at most 1048576: NARROWER than '..Said'. Prove '..Said' where nothing that the law and all that it calls make is longer than what came in: it says more and counts as full. Else prove '..UptoSaid'. A law counts once. -/
mutual
def uptoBulk {H : Type} : DataW H → Nat
  | .lit (.string bytes) => bytes.length + 1
  | .lit _ => 1
  | .nil => 1
  | .ptr d => uptoBulk d + 1
  | .slice elems spare => uptoBulkAll elems + uptoBulkAll spare + 1
  | .agg parts => uptoBulkAll parts + 1
  | .iface _ d => uptoBulk d + 1
  | .map entries => uptoBulkEntries entries + 1
  | .held _ => 1
def uptoBulkAll {H : Type} : List (DataW H) → Nat
  | [] => 0
  | d :: r => uptoBulk d + uptoBulkAll r
def uptoBulkEntries {H : Type} : List (Lit × DataW H) → Nat
  | [] => 0
  | x :: r => uptoBulkEntry x + uptoBulkEntries r
def uptoBulkEntry {H : Type} : Lit × DataW H → Nat
  | (.string bytes, d) => bytes.length + uptoBulk d + 1
  | (_, d) => uptoBulk d + 1
 end
def uptoSmall : (H : Type) → List (DataW H) → Bool := fun _ ds => decide (uptoBulkAll ds ≤ 1048576)
def OpenSpec.upto (s : _root_.Go.ChangeSpec) : _root_.Go.OpenSpec := { _root_.Go.OpenSpec.ofChange s with cond := some uptoSmall }

/-- 'laws.FnExactTakeGamma', WHERE WHAT IT READS IS OF BULK AT MOST 1048576: true; the input reads as it did. -/
def fnExactTakeGammaUptoRow : OpenClaim := { program := "ytlhipceepoenfaadoor", sum := "09338c70365521c961834d212f938d2d328e0135ccf8a643e1ca40ccde4fb80a", func := "loop.example/g00294/laws.FnExactTakeGamma", spec := "fnExactTakeGamma", inPlace := ["internal/bytealg.IndexByteString", "internal/bytealg.IndexString"], unfollowed := true, recurses := true, named := ["unicode/utf8.first", "unicode/utf8.acceptRanges", "internal/bytealg.MaxLen"], apart := false, laid := [("unicode/utf8.acceptRanges", laid_unicode_utf8_acceptRanges), ("unicode/utf8.first", laid_unicode_utf8_first)], narrowed := true }
def FnExactTakeGammaUptoSaid : Prop := fnExactTakeGammaUptoRow.holds Tryd.pinned (OpenSpec.upto fnExactTakeGammaSpec)

/-- 'laws.FnExactTakeDelta', WHERE WHAT IT READS IS OF BULK AT MOST 1048576: true; the input reads as it did. -/
def fnExactTakeDeltaUptoRow : OpenClaim := { program := "ytlhipceepoenfaadoor", sum := "09338c70365521c961834d212f938d2d328e0135ccf8a643e1ca40ccde4fb80a", func := "loop.example/g00294/laws.FnExactTakeDelta", spec := "fnExactTakeDelta", inPlace := ["internal/bytealg.IndexByteString", "internal/bytealg.IndexString"], unfollowed := true, recurses := true, named := ["unicode/utf8.first", "unicode/utf8.acceptRanges", "internal/bytealg.MaxLen"], apart := false, laid := [("unicode/utf8.acceptRanges", laid_unicode_utf8_acceptRanges), ("unicode/utf8.first", laid_unicode_utf8_first)], narrowed := true }
def FnExactTakeDeltaUptoSaid : Prop := fnExactTakeDeltaUptoRow.holds Tryd.pinned (OpenSpec.upto fnExactTakeDeltaSpec)

/-- 'laws.FnExactTakeRice', WHERE WHAT IT READS IS OF BULK AT MOST 1048576: true; the input reads as it did. -/
def fnExactTakeRiceUptoRow : OpenClaim := { program := "ytlhipceepoenfaadoor", sum := "09338c70365521c961834d212f938d2d328e0135ccf8a643e1ca40ccde4fb80a", func := "loop.example/g00294/laws.FnExactTakeRice", spec := "fnExactTakeRice", inPlace := ["internal/bytealg.IndexByteString", "internal/bytealg.IndexString"], unfollowed := true, recurses := true, named := ["unicode/utf8.first", "unicode/utf8.acceptRanges", "internal/bytealg.MaxLen"], apart := false, laid := [("unicode/utf8.acceptRanges", laid_unicode_utf8_acceptRanges), ("unicode/utf8.first", laid_unicode_utf8_first)], narrowed := true }
def FnExactTakeRiceUptoSaid : Prop := fnExactTakeRiceUptoRow.holds Tryd.pinned (OpenSpec.upto fnExactTakeRiceSpec)

/-- 'laws.FnExactEncodeList', WHERE WHAT IT READS IS OF BULK AT MOST 1048576: true; the input reads as it did. -/
def fnExactEncodeListUptoRow : OpenClaim := { program := "ytlhipceepoenfaadoor", sum := "09338c70365521c961834d212f938d2d328e0135ccf8a643e1ca40ccde4fb80a", func := "loop.example/g00294/laws.FnExactEncodeList", spec := "fnExactEncodeList", inPlace := ["internal/bytealg.IndexByteString", "internal/bytealg.IndexString", "internal/abi.NoEscape", "internal/bytealg.MakeNoZero"], unfollowed := true, recurses := true, named := ["unicode/utf8.first", "unicode/utf8.acceptRanges", "internal/bytealg.MaxLen"], apart := false, laid := [("unicode/utf8.acceptRanges", laid_unicode_utf8_acceptRanges), ("unicode/utf8.first", laid_unicode_utf8_first)], narrowed := true }
def FnExactEncodeListUptoSaid : Prop := fnExactEncodeListUptoRow.holds Tryd.pinned (OpenSpec.upto fnExactEncodeListSpec)

/-- 'laws.FnExactDecodeList', WHERE WHAT IT READS IS OF BULK AT MOST 1048576: true; the input reads as it did. -/
def fnExactDecodeListUptoRow : OpenClaim := { program := "ytlhipceepoenfaadoor", sum := "09338c70365521c961834d212f938d2d328e0135ccf8a643e1ca40ccde4fb80a", func := "loop.example/g00294/laws.FnExactDecodeList", spec := "fnExactDecodeList", inPlace := ["internal/bytealg.IndexByteString", "internal/bytealg.IndexString", "internal/abi.NoEscape", "internal/bytealg.MakeNoZero"], unfollowed := true, recurses := true, named := ["unicode/utf8.first", "unicode/utf8.acceptRanges", "internal/bytealg.MaxLen"], apart := false, laid := [("unicode/utf8.acceptRanges", laid_unicode_utf8_acceptRanges), ("unicode/utf8.first", laid_unicode_utf8_first)], narrowed := true }
def FnExactDecodeListUptoSaid : Prop := fnExactDecodeListUptoRow.holds Tryd.pinned (OpenSpec.upto fnExactDecodeListSpec)

end Rows
end Go.Proofs.YtlhipceepoenfaaDoor
