/-
  NARROWER THAN 'FOR EVERY INPUT', by the rows' own cells (each row's printed sentence says how): FnField: laid · FnVectors: laid · FnExactTimes: laid · FnExactInverse: laid · FnExactPower: laid · FnExactLogOf: laid · FnExactScaleVector: laid · FnExactDotVectors: laid.
  DERIVED. THE GIVEN ROWS OF THIS SEAT. 8 by the template 'for every input the law returns true; each argument reads behind the call as it read before'; 0 by the template 'total and deterministic' (their statements: YtmkihipjfcknfaaDoorTotals.lean).
  GIVEN WITH THE SEED: the statements are not yours to turn. If you find one false, say at which input.
  Laid BY PROGRAM, IN A SANDBOX (cutbox-rows.mjs): the forced cells as the released guide's own fill.sh prints them over the translation 2e8a7f939122be6c… (all of the seat's roots in one cut). By AI agents, Wed Nov 11 2026. No macro, syntax, notation, axiom, sorry.
-/
import Derived.Test.YtmkihipjfcknfaaDoorChecked
import GoSem.Claim
import GoSem.ClaimJoined
import GoSem.ClaimMapViews
import Derived.JoinedTies
import Derived.KernelRfl
namespace Go.Proofs.YtmkihipjfcknfaaDoor
/- THE CELL 'sum', in the pinned program and in every row, IS THE sha256 OF THE DUMP (.gsa) THAT YtmkihipjfcknfaaDoorProg.lean LOADS. Nothing in Lean hashes anything: it is a label: what it is worth is what the hold of that sum in a sandbox is worth. -/
noncomputable def Tryd.pinned : Pinned := { name := "ytmkihipjfcknfaadoor", sum := "2e8a7f939122be6c1806cc916b9ca8d6485133be4311f2c98a8921208a10012b", checked := Tryd.checked }
namespace Rows
def none {H : Type} : Left H := { results := [], args := [] }

/- WHAT THE LISTED PACKAGE-LEVEL VARIABLES READ AS WHEN THE CALL BEGINS. Each datum BY PROGRAM (the guide's laid-datum.mjs) off the statement by which the dump's own 'gosem.cut.vars' lays the variable. In a bare row this is a premise. The card (YtmkihipjfcknfaaDoorCards.lean) ties it to the program's text. -/
def laid_loop_example_g00294_impl_remainders {H : Type} : DataW H := .agg [.lit (.int .u8 27), .lit (.int .u8 54), .lit (.int .u8 108), .lit (.int .u8 216), .lit (.int .u8 171), .lit (.int .u8 77), .lit (.int .u8 154)]

/-- 'laws.FnField': WHATEVER THE INPUT: true; the input reads as it did. -/
def fnFieldSpec : ChangeSpec := { name := "fnField", vars := ["loop.example/g00294/impl.remainders"], fn := fun _ => fun
  | [d1, d2, g1] => { results := [.lit (.bool true)], args := [d1, d2], vars := [g1] }
  | _ => none }
def fnFieldRow : OpenClaim := { program := "ytmkihipjfcknfaadoor", sum := "2e8a7f939122be6c1806cc916b9ca8d6485133be4311f2c98a8921208a10012b", func := "loop.example/g00294/laws.FnField", spec := "fnField", named := ["loop.example/g00294/impl.remainders"], apart := false, laid := [("loop.example/g00294/impl.remainders", laid_loop_example_g00294_impl_remainders)] }
def FnFieldSaid : Prop := fnFieldRow.holds Tryd.pinned (OpenSpec.ofChange fnFieldSpec)

/-- ITS FALSE NEIGHBOUR: 'it returns false'. Refute it at one input. -/
def fnFieldWrong : ChangeSpec := { name := "fnField", vars := ["loop.example/g00294/impl.remainders"], fn := fun _ => fun
  | [d1, d2, g1] => { results := [.lit (.bool false)], args := [d1, d2], vars := [g1] }
  | _ => none }
def FnFieldWrongFalsely : Prop := fnFieldRow.holds Tryd.pinned (OpenSpec.ofChange fnFieldWrong)

/-- 'laws.FnVectors': WHATEVER THE INPUT: true; the input reads as it did. -/
def fnVectorsSpec : ChangeSpec := { name := "fnVectors", vars := ["loop.example/g00294/impl.remainders"], fn := fun _ => fun
  | [d1, d2, g1] => { results := [.lit (.bool true)], args := [d1, d2], vars := [g1] }
  | _ => none }
def fnVectorsRow : OpenClaim := { program := "ytmkihipjfcknfaadoor", sum := "2e8a7f939122be6c1806cc916b9ca8d6485133be4311f2c98a8921208a10012b", func := "loop.example/g00294/laws.FnVectors", spec := "fnVectors", named := ["loop.example/g00294/impl.remainders"], apart := false, laid := [("loop.example/g00294/impl.remainders", laid_loop_example_g00294_impl_remainders)] }
def FnVectorsSaid : Prop := fnVectorsRow.holds Tryd.pinned (OpenSpec.ofChange fnVectorsSpec)

/-- ITS FALSE NEIGHBOUR: 'it returns false'. Refute it at one input. -/
def fnVectorsWrong : ChangeSpec := { name := "fnVectors", vars := ["loop.example/g00294/impl.remainders"], fn := fun _ => fun
  | [d1, d2, g1] => { results := [.lit (.bool false)], args := [d1, d2], vars := [g1] }
  | _ => none }
def FnVectorsWrongFalsely : Prop := fnVectorsRow.holds Tryd.pinned (OpenSpec.ofChange fnVectorsWrong)

/-- 'laws.FnExactTimes': WHATEVER THE INPUT: true; the input reads as it did. -/
def fnExactTimesSpec : ChangeSpec := { name := "fnExactTimes", vars := ["loop.example/g00294/impl.remainders"], fn := fun _ => fun
  | [d1, d2, g1] => { results := [.lit (.bool true)], args := [d1, d2], vars := [g1] }
  | _ => none }
def fnExactTimesRow : OpenClaim := { program := "ytmkihipjfcknfaadoor", sum := "2e8a7f939122be6c1806cc916b9ca8d6485133be4311f2c98a8921208a10012b", func := "loop.example/g00294/laws.FnExactTimes", spec := "fnExactTimes", named := ["loop.example/g00294/impl.remainders"], apart := false, laid := [("loop.example/g00294/impl.remainders", laid_loop_example_g00294_impl_remainders)] }
def FnExactTimesSaid : Prop := fnExactTimesRow.holds Tryd.pinned (OpenSpec.ofChange fnExactTimesSpec)

/-- ITS FALSE NEIGHBOUR: 'it returns false'. Refute it at one input. -/
def fnExactTimesWrong : ChangeSpec := { name := "fnExactTimes", vars := ["loop.example/g00294/impl.remainders"], fn := fun _ => fun
  | [d1, d2, g1] => { results := [.lit (.bool false)], args := [d1, d2], vars := [g1] }
  | _ => none }
def FnExactTimesWrongFalsely : Prop := fnExactTimesRow.holds Tryd.pinned (OpenSpec.ofChange fnExactTimesWrong)

/-- 'laws.FnExactInverse': WHATEVER THE INPUT: true; the input reads as it did. -/
def fnExactInverseSpec : ChangeSpec := { name := "fnExactInverse", vars := ["loop.example/g00294/impl.remainders"], fn := fun _ => fun
  | [d, g1] => { results := [.lit (.bool true)], args := [d], vars := [g1] }
  | _ => none }
def fnExactInverseRow : OpenClaim := { program := "ytmkihipjfcknfaadoor", sum := "2e8a7f939122be6c1806cc916b9ca8d6485133be4311f2c98a8921208a10012b", func := "loop.example/g00294/laws.FnExactInverse", spec := "fnExactInverse", named := ["loop.example/g00294/impl.remainders"], apart := false, laid := [("loop.example/g00294/impl.remainders", laid_loop_example_g00294_impl_remainders)] }
def FnExactInverseSaid : Prop := fnExactInverseRow.holds Tryd.pinned (OpenSpec.ofChange fnExactInverseSpec)

/-- ITS FALSE NEIGHBOUR: 'it returns false'. Refute it at one input. -/
def fnExactInverseWrong : ChangeSpec := { name := "fnExactInverse", vars := ["loop.example/g00294/impl.remainders"], fn := fun _ => fun
  | [d, g1] => { results := [.lit (.bool false)], args := [d], vars := [g1] }
  | _ => none }
def FnExactInverseWrongFalsely : Prop := fnExactInverseRow.holds Tryd.pinned (OpenSpec.ofChange fnExactInverseWrong)

/-- 'laws.FnExactPower': WHATEVER THE INPUT: true; the input reads as it did. -/
def fnExactPowerSpec : ChangeSpec := { name := "fnExactPower", vars := ["loop.example/g00294/impl.remainders"], fn := fun _ => fun
  | [d1, d2, g1] => { results := [.lit (.bool true)], args := [d1, d2], vars := [g1] }
  | _ => none }
def fnExactPowerRow : OpenClaim := { program := "ytmkihipjfcknfaadoor", sum := "2e8a7f939122be6c1806cc916b9ca8d6485133be4311f2c98a8921208a10012b", func := "loop.example/g00294/laws.FnExactPower", spec := "fnExactPower", named := ["loop.example/g00294/impl.remainders"], apart := false, laid := [("loop.example/g00294/impl.remainders", laid_loop_example_g00294_impl_remainders)] }
def FnExactPowerSaid : Prop := fnExactPowerRow.holds Tryd.pinned (OpenSpec.ofChange fnExactPowerSpec)

/-- ITS FALSE NEIGHBOUR: 'it returns false'. Refute it at one input. -/
def fnExactPowerWrong : ChangeSpec := { name := "fnExactPower", vars := ["loop.example/g00294/impl.remainders"], fn := fun _ => fun
  | [d1, d2, g1] => { results := [.lit (.bool false)], args := [d1, d2], vars := [g1] }
  | _ => none }
def FnExactPowerWrongFalsely : Prop := fnExactPowerRow.holds Tryd.pinned (OpenSpec.ofChange fnExactPowerWrong)

/-- 'laws.FnExactLogOf': WHATEVER THE INPUT: true; the input reads as it did. -/
def fnExactLogOfSpec : ChangeSpec := { name := "fnExactLogOf", vars := ["loop.example/g00294/impl.remainders"], fn := fun _ => fun
  | [d, g1] => { results := [.lit (.bool true)], args := [d], vars := [g1] }
  | _ => none }
def fnExactLogOfRow : OpenClaim := { program := "ytmkihipjfcknfaadoor", sum := "2e8a7f939122be6c1806cc916b9ca8d6485133be4311f2c98a8921208a10012b", func := "loop.example/g00294/laws.FnExactLogOf", spec := "fnExactLogOf", named := ["loop.example/g00294/impl.remainders"], apart := false, laid := [("loop.example/g00294/impl.remainders", laid_loop_example_g00294_impl_remainders)] }
def FnExactLogOfSaid : Prop := fnExactLogOfRow.holds Tryd.pinned (OpenSpec.ofChange fnExactLogOfSpec)

/-- ITS FALSE NEIGHBOUR: 'it returns false'. Refute it at one input. -/
def fnExactLogOfWrong : ChangeSpec := { name := "fnExactLogOf", vars := ["loop.example/g00294/impl.remainders"], fn := fun _ => fun
  | [d, g1] => { results := [.lit (.bool false)], args := [d], vars := [g1] }
  | _ => none }
def FnExactLogOfWrongFalsely : Prop := fnExactLogOfRow.holds Tryd.pinned (OpenSpec.ofChange fnExactLogOfWrong)

/-- 'laws.FnExactScaleVector': WHATEVER THE INPUT: true; the input reads as it did. -/
def fnExactScaleVectorSpec : ChangeSpec := { name := "fnExactScaleVector", vars := ["loop.example/g00294/impl.remainders"], fn := fun _ => fun
  | [d1, d2, g1] => { results := [.lit (.bool true)], args := [d1, d2], vars := [g1] }
  | _ => none }
def fnExactScaleVectorRow : OpenClaim := { program := "ytmkihipjfcknfaadoor", sum := "2e8a7f939122be6c1806cc916b9ca8d6485133be4311f2c98a8921208a10012b", func := "loop.example/g00294/laws.FnExactScaleVector", spec := "fnExactScaleVector", named := ["loop.example/g00294/impl.remainders"], apart := false, laid := [("loop.example/g00294/impl.remainders", laid_loop_example_g00294_impl_remainders)] }
def FnExactScaleVectorSaid : Prop := fnExactScaleVectorRow.holds Tryd.pinned (OpenSpec.ofChange fnExactScaleVectorSpec)

/-- ITS FALSE NEIGHBOUR: 'it returns false'. Refute it at one input. -/
def fnExactScaleVectorWrong : ChangeSpec := { name := "fnExactScaleVector", vars := ["loop.example/g00294/impl.remainders"], fn := fun _ => fun
  | [d1, d2, g1] => { results := [.lit (.bool false)], args := [d1, d2], vars := [g1] }
  | _ => none }
def FnExactScaleVectorWrongFalsely : Prop := fnExactScaleVectorRow.holds Tryd.pinned (OpenSpec.ofChange fnExactScaleVectorWrong)

/-- 'laws.FnExactDotVectors': WHATEVER THE INPUT: true; the input reads as it did. -/
def fnExactDotVectorsSpec : ChangeSpec := { name := "fnExactDotVectors", vars := ["loop.example/g00294/impl.remainders"], fn := fun _ => fun
  | [d1, d2, g1] => { results := [.lit (.bool true)], args := [d1, d2], vars := [g1] }
  | _ => none }
def fnExactDotVectorsRow : OpenClaim := { program := "ytmkihipjfcknfaadoor", sum := "2e8a7f939122be6c1806cc916b9ca8d6485133be4311f2c98a8921208a10012b", func := "loop.example/g00294/laws.FnExactDotVectors", spec := "fnExactDotVectors", named := ["loop.example/g00294/impl.remainders"], apart := false, laid := [("loop.example/g00294/impl.remainders", laid_loop_example_g00294_impl_remainders)] }
def FnExactDotVectorsSaid : Prop := fnExactDotVectorsRow.holds Tryd.pinned (OpenSpec.ofChange fnExactDotVectorsSpec)

/-- ITS FALSE NEIGHBOUR: 'it returns false'. Refute it at one input. -/
def fnExactDotVectorsWrong : ChangeSpec := { name := "fnExactDotVectors", vars := ["loop.example/g00294/impl.remainders"], fn := fun _ => fun
  | [d1, d2, g1] => { results := [.lit (.bool false)], args := [d1, d2], vars := [g1] }
  | _ => none }
def FnExactDotVectorsWrongFalsely : Prop := fnExactDotVectorsRow.holds Tryd.pinned (OpenSpec.ofChange fnExactDotVectorsWrong)

/- THE SECOND FORM. 'bulk': how many values and letters a reading holds, each counted each time it is reached (what is shared counts as often as it is met; a slice's spare places count too). A statement '..UptoSaid' is the law's where the arguments, and the package variables that the reading takes, are together of bulk at most 1048576: NARROWER than '..Said'. Prove '..Said' where nothing that the law and all that it calls make is longer than what came in: it says more and counts as full. Else prove '..UptoSaid'. A law counts once. -/
mutual
def uptoBulk {H : Type} : DataW H → Nat
  | .lit (.string bytes) => bytes.length + 1
  | .lit _ => 1
  | .nil => 1
  | .ptr d => uptoBulk d + 1
  | .slice elems spare => uptoBulkAll elems + uptoBulkAll spare + 1
  | .agg parts => uptoBulkAll parts + 1
  | .iface _ d => uptoBulk d + 1
  | .map entries => uptoBulkEntries entries + 1
  | .held _ => 1
def uptoBulkAll {H : Type} : List (DataW H) → Nat
  | [] => 0
  | d :: r => uptoBulk d + uptoBulkAll r
def uptoBulkEntries {H : Type} : List (Lit × DataW H) → Nat
  | [] => 0
  | x :: r => uptoBulkEntry x + uptoBulkEntries r
def uptoBulkEntry {H : Type} : Lit × DataW H → Nat
  | (.string bytes, d) => bytes.length + uptoBulk d + 1
  | (_, d) => uptoBulk d + 1
 end
def uptoSmall : (H : Type) → List (DataW H) → Bool := fun _ ds => decide (uptoBulkAll ds ≤ 1048576)
def OpenSpec.upto (s : _root_.Go.ChangeSpec) : _root_.Go.OpenSpec := { _root_.Go.OpenSpec.ofChange s with cond := some uptoSmall }

/-- 'laws.FnField', WHERE WHAT IT READS IS OF BULK AT MOST 1048576: true; the input reads as it did. -/
def fnFieldUptoRow : OpenClaim := { program := "ytmkihipjfcknfaadoor", sum := "2e8a7f939122be6c1806cc916b9ca8d6485133be4311f2c98a8921208a10012b", func := "loop.example/g00294/laws.FnField", spec := "fnField", named := ["loop.example/g00294/impl.remainders"], apart := false, laid := [("loop.example/g00294/impl.remainders", laid_loop_example_g00294_impl_remainders)], narrowed := true }
def FnFieldUptoSaid : Prop := fnFieldUptoRow.holds Tryd.pinned (OpenSpec.upto fnFieldSpec)

/-- 'laws.FnVectors', WHERE WHAT IT READS IS OF BULK AT MOST 1048576: true; the input reads as it did. -/
def fnVectorsUptoRow : OpenClaim := { program := "ytmkihipjfcknfaadoor", sum := "2e8a7f939122be6c1806cc916b9ca8d6485133be4311f2c98a8921208a10012b", func := "loop.example/g00294/laws.FnVectors", spec := "fnVectors", named := ["loop.example/g00294/impl.remainders"], apart := false, laid := [("loop.example/g00294/impl.remainders", laid_loop_example_g00294_impl_remainders)], narrowed := true }
def FnVectorsUptoSaid : Prop := fnVectorsUptoRow.holds Tryd.pinned (OpenSpec.upto fnVectorsSpec)

/-- 'laws.FnExactTimes', WHERE WHAT IT READS IS OF BULK AT MOST 1048576: true; the input reads as it did. -/
def fnExactTimesUptoRow : OpenClaim := { program := "ytmkihipjfcknfaadoor", sum := "2e8a7f939122be6c1806cc916b9ca8d6485133be4311f2c98a8921208a10012b", func := "loop.example/g00294/laws.FnExactTimes", spec := "fnExactTimes", named := ["loop.example/g00294/impl.remainders"], apart := false, laid := [("loop.example/g00294/impl.remainders", laid_loop_example_g00294_impl_remainders)], narrowed := true }
def FnExactTimesUptoSaid : Prop := fnExactTimesUptoRow.holds Tryd.pinned (OpenSpec.upto fnExactTimesSpec)

/-- 'laws.FnExactInverse', WHERE WHAT IT READS IS OF BULK AT MOST 1048576: true; the input reads as it did. -/
def fnExactInverseUptoRow : OpenClaim := { program := "ytmkihipjfcknfaadoor", sum := "2e8a7f939122be6c1806cc916b9ca8d6485133be4311f2c98a8921208a10012b", func := "loop.example/g00294/laws.FnExactInverse", spec := "fnExactInverse", named := ["loop.example/g00294/impl.remainders"], apart := false, laid := [("loop.example/g00294/impl.remainders", laid_loop_example_g00294_impl_remainders)], narrowed := true }
def FnExactInverseUptoSaid : Prop := fnExactInverseUptoRow.holds Tryd.pinned (OpenSpec.upto fnExactInverseSpec)

/-- 'laws.FnExactPower', WHERE WHAT IT READS IS OF BULK AT MOST 1048576: true; the input reads as it did. -/
def fnExactPowerUptoRow : OpenClaim := { program := "ytmkihipjfcknfaadoor", sum := "2e8a7f939122be6c1806cc916b9ca8d6485133be4311f2c98a8921208a10012b", func := "loop.example/g00294/laws.FnExactPower", spec := "fnExactPower", named := ["loop.example/g00294/impl.remainders"], apart := false, laid := [("loop.example/g00294/impl.remainders", laid_loop_example_g00294_impl_remainders)], narrowed := true }
def FnExactPowerUptoSaid : Prop := fnExactPowerUptoRow.holds Tryd.pinned (OpenSpec.upto fnExactPowerSpec)

/-- 'laws.FnExactLogOf', WHERE WHAT IT READS IS OF BULK AT MOST 1048576: true; the input reads as it did. -/
def fnExactLogOfUptoRow : OpenClaim := { program := "ytmkihipjfcknfaadoor", sum := "2e8a7f939122be6c1806cc916b9ca8d6485133be4311f2c98a8921208a10012b", func := "loop.example/g00294/laws.FnExactLogOf", spec := "fnExactLogOf", named := ["loop.example/g00294/impl.remainders"], apart := false, laid := [("loop.example/g00294/impl.remainders", laid_loop_example_g00294_impl_remainders)], narrowed := true }
def FnExactLogOfUptoSaid : Prop := fnExactLogOfUptoRow.holds Tryd.pinned (OpenSpec.upto fnExactLogOfSpec)

/-- 'laws.FnExactScaleVector', WHERE WHAT IT READS IS OF BULK AT MOST 1048576: true; the input reads as it did. -/
def fnExactScaleVectorUptoRow : OpenClaim := { program := "ytmkihipjfcknfaadoor", sum := "2e8a7f939122be6c1806cc916b9ca8d6485133be4311f2c98a8921208a10012b", func := "loop.example/g00294/laws.FnExactScaleVector", spec := "fnExactScaleVector", named := ["loop.example/g00294/impl.remainders"], apart := false, laid := [("loop.example/g00294/impl.remainders", laid_loop_example_g00294_impl_remainders)], narrowed := true }
def FnExactScaleVectorUptoSaid : Prop := fnExactScaleVectorUptoRow.holds Tryd.pinned (OpenSpec.upto fnExactScaleVectorSpec)

/-- 'laws.FnExactDotVectors', WHERE WHAT IT READS IS OF BULK AT MOST 1048576: true; the input reads as it did. -/
def fnExactDotVectorsUptoRow : OpenClaim := { program := "ytmkihipjfcknfaadoor", sum := "2e8a7f939122be6c1806cc916b9ca8d6485133be4311f2c98a8921208a10012b", func := "loop.example/g00294/laws.FnExactDotVectors", spec := "fnExactDotVectors", named := ["loop.example/g00294/impl.remainders"], apart := false, laid := [("loop.example/g00294/impl.remainders", laid_loop_example_g00294_impl_remainders)], narrowed := true }
def FnExactDotVectorsUptoSaid : Prop := fnExactDotVectorsUptoRow.holds Tryd.pinned (OpenSpec.upto fnExactDotVectorsSpec)

end Rows
end Go.Proofs.YtmkihipjfcknfaaDoor
