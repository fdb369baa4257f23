/-
  NARROWER THAN 'FOR EVERY INPUT', by the rows' own cells (each row's printed sentence says how): FnMerged: laid · FnMended: laid · FnExactParityMatrix: laid · FnExactMakeStripe: laid · FnExactIsRight: laid · FnExactMergeStripes: laid · FnExactChangeStripe: laid · FnExactAddStripes: laid · FnExactMendStripe: laid.
  DERIVED. THE GIVEN ROWS OF THIS SEAT. 9 by the template 'for every input the law returns true; each argument reads behind the call as it read before'; 0 by the template 'total and deterministic' (their statements: YtbopocpmodpfcaaDoorTotals.lean).
  GIVEN WITH THE SEED: the statements are not yours to turn. If you find one false, say at which input.
  Laid BY PROGRAM, IN A SANDBOX (cutbox-rows.mjs): the forced cells as the released guide's own fill.sh prints them over the translation 7d60f601a0f23acb… (all of the seat's roots in one cut). By AI agents, Wed Nov 11 2026. No macro, syntax, notation, axiom, sorry.
-/
import Derived.Test.YtbopocpmodpfcaaDoorChecked
import GoSem.Claim
import GoSem.ClaimJoined
import GoSem.ClaimMapViews
import Derived.JoinedTies
import Derived.KernelRfl
namespace Go.Proofs.YtbopocpmodpfcaaDoor
/- THE CELL 'sum', in the pinned program and in every row, IS THE sha256 OF THE DUMP (.gsa) THAT YtbopocpmodpfcaaDoorProg.lean LOADS. Nothing in Lean hashes anything: it is a label: what it is worth is what the hold of that sum in a sandbox is worth. -/
noncomputable def Tryd.pinned : Pinned := { name := "ytbopocpmodpfcaadoor", sum := "7d60f601a0f23acb5dd39dd73416c2a632bafcd7415eea5755ba5bdf5c5cbbf3", checked := Tryd.checked }
namespace Rows
def none {H : Type} : Left H := { results := [], args := [] }

/- WHAT THE LISTED PACKAGE-LEVEL VARIABLES READ AS WHEN THE CALL BEGINS. Each datum BY PROGRAM (the guide's laid-datum.mjs) off the statement by which the dump's own 'gosem.cut.vars' lays the variable. In a bare row this is a premise. The card (YtbopocpmodpfcaaDoorCards.lean) ties it to the program's text. -/
def laid_loop_example_g00294_impl_remainders {H : Type} : DataW H := .agg [.lit (.int .u8 27), .lit (.int .u8 54), .lit (.int .u8 108), .lit (.int .u8 216), .lit (.int .u8 171), .lit (.int .u8 77), .lit (.int .u8 154)]

/-- 'laws.FnMerged': WHATEVER THE INPUT: true; the input reads as it did. -/
def fnMergedSpec : ChangeSpec := { name := "fnMerged", vars := ["loop.example/g00294/impl.remainders"], fn := fun _ => fun
  | [d1, d2, g1] => { results := [.lit (.bool true)], args := [d1, d2], vars := [g1] }
  | _ => none }
def fnMergedRow : OpenClaim := { program := "ytbopocpmodpfcaadoor", sum := "7d60f601a0f23acb5dd39dd73416c2a632bafcd7415eea5755ba5bdf5c5cbbf3", func := "loop.example/g00294/laws.FnMerged", spec := "fnMerged", unfollowed := true, recurses := true, named := ["loop.example/g00294/impl.remainders"], apart := false, laid := [("loop.example/g00294/impl.remainders", laid_loop_example_g00294_impl_remainders)] }
def FnMergedSaid : Prop := fnMergedRow.holds Tryd.pinned (OpenSpec.ofChange fnMergedSpec)

/-- ITS FALSE NEIGHBOUR: 'it returns false'. Refute it at one input. -/
def fnMergedWrong : ChangeSpec := { name := "fnMerged", vars := ["loop.example/g00294/impl.remainders"], fn := fun _ => fun
  | [d1, d2, g1] => { results := [.lit (.bool false)], args := [d1, d2], vars := [g1] }
  | _ => none }
def FnMergedWrongFalsely : Prop := fnMergedRow.holds Tryd.pinned (OpenSpec.ofChange fnMergedWrong)

/-- 'laws.FnMended': WHATEVER THE INPUT: true; the input reads as it did. -/
def fnMendedSpec : ChangeSpec := { name := "fnMended", vars := ["loop.example/g00294/impl.remainders"], fn := fun _ => fun
  | [d1, d2, g1] => { results := [.lit (.bool true)], args := [d1, d2], vars := [g1] }
  | _ => none }
def fnMendedRow : OpenClaim := { program := "ytbopocpmodpfcaadoor", sum := "7d60f601a0f23acb5dd39dd73416c2a632bafcd7415eea5755ba5bdf5c5cbbf3", func := "loop.example/g00294/laws.FnMended", spec := "fnMended", unfollowed := true, recurses := true, named := ["loop.example/g00294/impl.remainders"], apart := false, laid := [("loop.example/g00294/impl.remainders", laid_loop_example_g00294_impl_remainders)] }
def FnMendedSaid : Prop := fnMendedRow.holds Tryd.pinned (OpenSpec.ofChange fnMendedSpec)

/-- ITS FALSE NEIGHBOUR: 'it returns false'. Refute it at one input. -/
def fnMendedWrong : ChangeSpec := { name := "fnMended", vars := ["loop.example/g00294/impl.remainders"], fn := fun _ => fun
  | [d1, d2, g1] => { results := [.lit (.bool false)], args := [d1, d2], vars := [g1] }
  | _ => none }
def FnMendedWrongFalsely : Prop := fnMendedRow.holds Tryd.pinned (OpenSpec.ofChange fnMendedWrong)

/-- 'laws.FnExactParityMatrix': WHATEVER THE INPUT: true; the input reads as it did. -/
def fnExactParityMatrixSpec : ChangeSpec := { name := "fnExactParityMatrix", vars := ["loop.example/g00294/impl.remainders"], fn := fun _ => fun
  | [d1, d2, g1] => { results := [.lit (.bool true)], args := [d1, d2], vars := [g1] }
  | _ => none }
def fnExactParityMatrixRow : OpenClaim := { program := "ytbopocpmodpfcaadoor", sum := "7d60f601a0f23acb5dd39dd73416c2a632bafcd7415eea5755ba5bdf5c5cbbf3", func := "loop.example/g00294/laws.FnExactParityMatrix", spec := "fnExactParityMatrix", unfollowed := true, recurses := true, named := ["loop.example/g00294/impl.remainders"], apart := false, laid := [("loop.example/g00294/impl.remainders", laid_loop_example_g00294_impl_remainders)] }
def FnExactParityMatrixSaid : Prop := fnExactParityMatrixRow.holds Tryd.pinned (OpenSpec.ofChange fnExactParityMatrixSpec)

/-- ITS FALSE NEIGHBOUR: 'it returns false'. Refute it at one input. -/
def fnExactParityMatrixWrong : ChangeSpec := { name := "fnExactParityMatrix", vars := ["loop.example/g00294/impl.remainders"], fn := fun _ => fun
  | [d1, d2, g1] => { results := [.lit (.bool false)], args := [d1, d2], vars := [g1] }
  | _ => none }
def FnExactParityMatrixWrongFalsely : Prop := fnExactParityMatrixRow.holds Tryd.pinned (OpenSpec.ofChange fnExactParityMatrixWrong)

/-- 'laws.FnExactMakeStripe': WHATEVER THE INPUT: true; the input reads as it did. -/
def fnExactMakeStripeSpec : ChangeSpec := { name := "fnExactMakeStripe", vars := ["loop.example/g00294/impl.remainders"], fn := fun _ => fun
  | [d1, d2, g1] => { results := [.lit (.bool true)], args := [d1, d2], vars := [g1] }
  | _ => none }
def fnExactMakeStripeRow : OpenClaim := { program := "ytbopocpmodpfcaadoor", sum := "7d60f601a0f23acb5dd39dd73416c2a632bafcd7415eea5755ba5bdf5c5cbbf3", func := "loop.example/g00294/laws.FnExactMakeStripe", spec := "fnExactMakeStripe", unfollowed := true, recurses := true, named := ["loop.example/g00294/impl.remainders"], apart := false, laid := [("loop.example/g00294/impl.remainders", laid_loop_example_g00294_impl_remainders)] }
def FnExactMakeStripeSaid : Prop := fnExactMakeStripeRow.holds Tryd.pinned (OpenSpec.ofChange fnExactMakeStripeSpec)

/-- ITS FALSE NEIGHBOUR: 'it returns false'. Refute it at one input. -/
def fnExactMakeStripeWrong : ChangeSpec := { name := "fnExactMakeStripe", vars := ["loop.example/g00294/impl.remainders"], fn := fun _ => fun
  | [d1, d2, g1] => { results := [.lit (.bool false)], args := [d1, d2], vars := [g1] }
  | _ => none }
def FnExactMakeStripeWrongFalsely : Prop := fnExactMakeStripeRow.holds Tryd.pinned (OpenSpec.ofChange fnExactMakeStripeWrong)

/-- 'laws.FnExactIsRight': WHATEVER THE INPUT: true; the input reads as it did. -/
def fnExactIsRightSpec : ChangeSpec := { name := "fnExactIsRight", vars := ["loop.example/g00294/impl.remainders"], fn := fun _ => fun
  | [d, g1] => { results := [.lit (.bool true)], args := [d], vars := [g1] }
  | _ => none }
def fnExactIsRightRow : OpenClaim := { program := "ytbopocpmodpfcaadoor", sum := "7d60f601a0f23acb5dd39dd73416c2a632bafcd7415eea5755ba5bdf5c5cbbf3", func := "loop.example/g00294/laws.FnExactIsRight", spec := "fnExactIsRight", unfollowed := true, recurses := true, named := ["loop.example/g00294/impl.remainders"], apart := false, laid := [("loop.example/g00294/impl.remainders", laid_loop_example_g00294_impl_remainders)] }
def FnExactIsRightSaid : Prop := fnExactIsRightRow.holds Tryd.pinned (OpenSpec.ofChange fnExactIsRightSpec)

/-- ITS FALSE NEIGHBOUR: 'it returns false'. Refute it at one input. -/
def fnExactIsRightWrong : ChangeSpec := { name := "fnExactIsRight", vars := ["loop.example/g00294/impl.remainders"], fn := fun _ => fun
  | [d, g1] => { results := [.lit (.bool false)], args := [d], vars := [g1] }
  | _ => none }
def FnExactIsRightWrongFalsely : Prop := fnExactIsRightRow.holds Tryd.pinned (OpenSpec.ofChange fnExactIsRightWrong)

/-- 'laws.FnExactMergeStripes': WHATEVER THE INPUT: true; the input reads as it did. -/
def fnExactMergeStripesSpec : ChangeSpec := { name := "fnExactMergeStripes", vars := ["loop.example/g00294/impl.remainders"], fn := fun _ => fun
  | [d1, d2, g1] => { results := [.lit (.bool true)], args := [d1, d2], vars := [g1] }
  | _ => none }
def fnExactMergeStripesRow : OpenClaim := { program := "ytbopocpmodpfcaadoor", sum := "7d60f601a0f23acb5dd39dd73416c2a632bafcd7415eea5755ba5bdf5c5cbbf3", func := "loop.example/g00294/laws.FnExactMergeStripes", spec := "fnExactMergeStripes", unfollowed := true, recurses := true, named := ["loop.example/g00294/impl.remainders"], apart := false, laid := [("loop.example/g00294/impl.remainders", laid_loop_example_g00294_impl_remainders)] }
def FnExactMergeStripesSaid : Prop := fnExactMergeStripesRow.holds Tryd.pinned (OpenSpec.ofChange fnExactMergeStripesSpec)

/-- ITS FALSE NEIGHBOUR: 'it returns false'. Refute it at one input. -/
def fnExactMergeStripesWrong : ChangeSpec := { name := "fnExactMergeStripes", vars := ["loop.example/g00294/impl.remainders"], fn := fun _ => fun
  | [d1, d2, g1] => { results := [.lit (.bool false)], args := [d1, d2], vars := [g1] }
  | _ => none }
def FnExactMergeStripesWrongFalsely : Prop := fnExactMergeStripesRow.holds Tryd.pinned (OpenSpec.ofChange fnExactMergeStripesWrong)

/-- 'laws.FnExactChangeStripe': WHATEVER THE INPUT: true; the input reads as it did. -/
def fnExactChangeStripeSpec : ChangeSpec := { name := "fnExactChangeStripe", vars := ["loop.example/g00294/impl.remainders"], fn := fun _ => fun
  | [d1, d2, d3, g1] => { results := [.lit (.bool true)], args := [d1, d2, d3], vars := [g1] }
  | _ => none }
def fnExactChangeStripeRow : OpenClaim := { program := "ytbopocpmodpfcaadoor", sum := "7d60f601a0f23acb5dd39dd73416c2a632bafcd7415eea5755ba5bdf5c5cbbf3", func := "loop.example/g00294/laws.FnExactChangeStripe", spec := "fnExactChangeStripe", unfollowed := true, recurses := true, named := ["loop.example/g00294/impl.remainders"], apart := false, laid := [("loop.example/g00294/impl.remainders", laid_loop_example_g00294_impl_remainders)] }
def FnExactChangeStripeSaid : Prop := fnExactChangeStripeRow.holds Tryd.pinned (OpenSpec.ofChange fnExactChangeStripeSpec)

/-- ITS FALSE NEIGHBOUR: 'it returns false'. Refute it at one input. -/
def fnExactChangeStripeWrong : ChangeSpec := { name := "fnExactChangeStripe", vars := ["loop.example/g00294/impl.remainders"], fn := fun _ => fun
  | [d1, d2, d3, g1] => { results := [.lit (.bool false)], args := [d1, d2, d3], vars := [g1] }
  | _ => none }
def FnExactChangeStripeWrongFalsely : Prop := fnExactChangeStripeRow.holds Tryd.pinned (OpenSpec.ofChange fnExactChangeStripeWrong)

/-- 'laws.FnExactAddStripes': WHATEVER THE INPUT: true; the input reads as it did. -/
def fnExactAddStripesSpec : ChangeSpec := { name := "fnExactAddStripes", vars := ["loop.example/g00294/impl.remainders"], fn := fun _ => fun
  | [d1, d2, g1] => { results := [.lit (.bool true)], args := [d1, d2], vars := [g1] }
  | _ => none }
def fnExactAddStripesRow : OpenClaim := { program := "ytbopocpmodpfcaadoor", sum := "7d60f601a0f23acb5dd39dd73416c2a632bafcd7415eea5755ba5bdf5c5cbbf3", func := "loop.example/g00294/laws.FnExactAddStripes", spec := "fnExactAddStripes", unfollowed := true, recurses := true, named := ["loop.example/g00294/impl.remainders"], apart := false, laid := [("loop.example/g00294/impl.remainders", laid_loop_example_g00294_impl_remainders)] }
def FnExactAddStripesSaid : Prop := fnExactAddStripesRow.holds Tryd.pinned (OpenSpec.ofChange fnExactAddStripesSpec)

/-- ITS FALSE NEIGHBOUR: 'it returns false'. Refute it at one input. -/
def fnExactAddStripesWrong : ChangeSpec := { name := "fnExactAddStripes", vars := ["loop.example/g00294/impl.remainders"], fn := fun _ => fun
  | [d1, d2, g1] => { results := [.lit (.bool false)], args := [d1, d2], vars := [g1] }
  | _ => none }
def FnExactAddStripesWrongFalsely : Prop := fnExactAddStripesRow.holds Tryd.pinned (OpenSpec.ofChange fnExactAddStripesWrong)

/-- 'laws.FnExactMendStripe': WHATEVER THE INPUT: true; the input reads as it did. -/
def fnExactMendStripeSpec : ChangeSpec := { name := "fnExactMendStripe", vars := ["loop.example/g00294/impl.remainders"], fn := fun _ => fun
  | [d1, d2, g1] => { results := [.lit (.bool true)], args := [d1, d2], vars := [g1] }
  | _ => none }
def fnExactMendStripeRow : OpenClaim := { program := "ytbopocpmodpfcaadoor", sum := "7d60f601a0f23acb5dd39dd73416c2a632bafcd7415eea5755ba5bdf5c5cbbf3", func := "loop.example/g00294/laws.FnExactMendStripe", spec := "fnExactMendStripe", unfollowed := true, recurses := true, named := ["loop.example/g00294/impl.remainders"], apart := false, laid := [("loop.example/g00294/impl.remainders", laid_loop_example_g00294_impl_remainders)] }
def FnExactMendStripeSaid : Prop := fnExactMendStripeRow.holds Tryd.pinned (OpenSpec.ofChange fnExactMendStripeSpec)

/-- ITS FALSE NEIGHBOUR: 'it returns false'. Refute it at one input. -/
def fnExactMendStripeWrong : ChangeSpec := { name := "fnExactMendStripe", vars := ["loop.example/g00294/impl.remainders"], fn := fun _ => fun
  | [d1, d2, g1] => { results := [.lit (.bool false)], args := [d1, d2], vars := [g1] }
  | _ => none }
def FnExactMendStripeWrongFalsely : Prop := fnExactMendStripeRow.holds Tryd.pinned (OpenSpec.ofChange fnExactMendStripeWrong)

/- THE SECOND FORM. 'bulk': how many values and letters a reading holds, each counted each time it is reached (what is shared counts as often as it is met; a slice's spare places count too). A statement '..UptoSaid' is the law's where the arguments, and the package variables that the reading takes, are together of bulk at most 1048576: NARROWER than '..Said'. Prove '..Said' where nothing that the law and all that it calls make is longer than what came in: it says more and counts as full. Else prove '..UptoSaid'. A law counts once. -/
mutual
def uptoBulk {H : Type} : DataW H → Nat
  | .lit (.string bytes) => bytes.length + 1
  | .lit _ => 1
  | .nil => 1
  | .ptr d => uptoBulk d + 1
  | .slice elems spare => uptoBulkAll elems + uptoBulkAll spare + 1
  | .agg parts => uptoBulkAll parts + 1
  | .iface _ d => uptoBulk d + 1
  | .map entries => uptoBulkEntries entries + 1
  | .held _ => 1
def uptoBulkAll {H : Type} : List (DataW H) → Nat
  | [] => 0
  | d :: r => uptoBulk d + uptoBulkAll r
def uptoBulkEntries {H : Type} : List (Lit × DataW H) → Nat
  | [] => 0
  | x :: r => uptoBulkEntry x + uptoBulkEntries r
def uptoBulkEntry {H : Type} : Lit × DataW H → Nat
  | (.string bytes, d) => bytes.length + uptoBulk d + 1
  | (_, d) => uptoBulk d + 1
 end
def uptoSmall : (H : Type) → List (DataW H) → Bool := fun _ ds => decide (uptoBulkAll ds ≤ 1048576)
def OpenSpec.upto (s : _root_.Go.ChangeSpec) : _root_.Go.OpenSpec := { _root_.Go.OpenSpec.ofChange s with cond := some uptoSmall }

/-- 'laws.FnMerged', WHERE WHAT IT READS IS OF BULK AT MOST 1048576: true; the input reads as it did. -/
def fnMergedUptoRow : OpenClaim := { program := "ytbopocpmodpfcaadoor", sum := "7d60f601a0f23acb5dd39dd73416c2a632bafcd7415eea5755ba5bdf5c5cbbf3", func := "loop.example/g00294/laws.FnMerged", spec := "fnMerged", unfollowed := true, recurses := true, named := ["loop.example/g00294/impl.remainders"], apart := false, laid := [("loop.example/g00294/impl.remainders", laid_loop_example_g00294_impl_remainders)], narrowed := true }
def FnMergedUptoSaid : Prop := fnMergedUptoRow.holds Tryd.pinned (OpenSpec.upto fnMergedSpec)

/-- 'laws.FnMended', WHERE WHAT IT READS IS OF BULK AT MOST 1048576: true; the input reads as it did. -/
def fnMendedUptoRow : OpenClaim := { program := "ytbopocpmodpfcaadoor", sum := "7d60f601a0f23acb5dd39dd73416c2a632bafcd7415eea5755ba5bdf5c5cbbf3", func := "loop.example/g00294/laws.FnMended", spec := "fnMended", unfollowed := true, recurses := true, named := ["loop.example/g00294/impl.remainders"], apart := false, laid := [("loop.example/g00294/impl.remainders", laid_loop_example_g00294_impl_remainders)], narrowed := true }
def FnMendedUptoSaid : Prop := fnMendedUptoRow.holds Tryd.pinned (OpenSpec.upto fnMendedSpec)

/-- 'laws.FnExactParityMatrix', WHERE WHAT IT READS IS OF BULK AT MOST 1048576: true; the input reads as it did. -/
def fnExactParityMatrixUptoRow : OpenClaim := { program := "ytbopocpmodpfcaadoor", sum := "7d60f601a0f23acb5dd39dd73416c2a632bafcd7415eea5755ba5bdf5c5cbbf3", func := "loop.example/g00294/laws.FnExactParityMatrix", spec := "fnExactParityMatrix", unfollowed := true, recurses := true, named := ["loop.example/g00294/impl.remainders"], apart := false, laid := [("loop.example/g00294/impl.remainders", laid_loop_example_g00294_impl_remainders)], narrowed := true }
def FnExactParityMatrixUptoSaid : Prop := fnExactParityMatrixUptoRow.holds Tryd.pinned (OpenSpec.upto fnExactParityMatrixSpec)

/-- 'laws.FnExactMakeStripe', WHERE WHAT IT READS IS OF BULK AT MOST 1048576: true; the input reads as it did. -/
def fnExactMakeStripeUptoRow : OpenClaim := { program := "ytbopocpmodpfcaadoor", sum := "7d60f601a0f23acb5dd39dd73416c2a632bafcd7415eea5755ba5bdf5c5cbbf3", func := "loop.example/g00294/laws.FnExactMakeStripe", spec := "fnExactMakeStripe", unfollowed := true, recurses := true, named := ["loop.example/g00294/impl.remainders"], apart := false, laid := [("loop.example/g00294/impl.remainders", laid_loop_example_g00294_impl_remainders)], narrowed := true }
def FnExactMakeStripeUptoSaid : Prop := fnExactMakeStripeUptoRow.holds Tryd.pinned (OpenSpec.upto fnExactMakeStripeSpec)

/-- 'laws.FnExactIsRight', WHERE WHAT IT READS IS OF BULK AT MOST 1048576: true; the input reads as it did. -/
def fnExactIsRightUptoRow : OpenClaim := { program := "ytbopocpmodpfcaadoor", sum := "7d60f601a0f23acb5dd39dd73416c2a632bafcd7415eea5755ba5bdf5c5cbbf3", func := "loop.example/g00294/laws.FnExactIsRight", spec := "fnExactIsRight", unfollowed := true, recurses := true, named := ["loop.example/g00294/impl.remainders"], apart := false, laid := [("loop.example/g00294/impl.remainders", laid_loop_example_g00294_impl_remainders)], narrowed := true }
def FnExactIsRightUptoSaid : Prop := fnExactIsRightUptoRow.holds Tryd.pinned (OpenSpec.upto fnExactIsRightSpec)

/-- 'laws.FnExactMergeStripes', WHERE WHAT IT READS IS OF BULK AT MOST 1048576: true; the input reads as it did. -/
def fnExactMergeStripesUptoRow : OpenClaim := { program := "ytbopocpmodpfcaadoor", sum := "7d60f601a0f23acb5dd39dd73416c2a632bafcd7415eea5755ba5bdf5c5cbbf3", func := "loop.example/g00294/laws.FnExactMergeStripes", spec := "fnExactMergeStripes", unfollowed := true, recurses := true, named := ["loop.example/g00294/impl.remainders"], apart := false, laid := [("loop.example/g00294/impl.remainders", laid_loop_example_g00294_impl_remainders)], narrowed := true }
def FnExactMergeStripesUptoSaid : Prop := fnExactMergeStripesUptoRow.holds Tryd.pinned (OpenSpec.upto fnExactMergeStripesSpec)

/-- 'laws.FnExactChangeStripe', WHERE WHAT IT READS IS OF BULK AT MOST 1048576: true; the input reads as it did. -/
def fnExactChangeStripeUptoRow : OpenClaim := { program := "ytbopocpmodpfcaadoor", sum := "7d60f601a0f23acb5dd39dd73416c2a632bafcd7415eea5755ba5bdf5c5cbbf3", func := "loop.example/g00294/laws.FnExactChangeStripe", spec := "fnExactChangeStripe", unfollowed := true, recurses := true, named := ["loop.example/g00294/impl.remainders"], apart := false, laid := [("loop.example/g00294/impl.remainders", laid_loop_example_g00294_impl_remainders)], narrowed := true }
def FnExactChangeStripeUptoSaid : Prop := fnExactChangeStripeUptoRow.holds Tryd.pinned (OpenSpec.upto fnExactChangeStripeSpec)

/-- 'laws.FnExactAddStripes', WHERE WHAT IT READS IS OF BULK AT MOST 1048576: true; the input reads as it did. -/
def fnExactAddStripesUptoRow : OpenClaim := { program := "ytbopocpmodpfcaadoor", sum := "7d60f601a0f23acb5dd39dd73416c2a632bafcd7415eea5755ba5bdf5c5cbbf3", func := "loop.example/g00294/laws.FnExactAddStripes", spec := "fnExactAddStripes", unfollowed := true, recurses := true, named := ["loop.example/g00294/impl.remainders"], apart := false, laid := [("loop.example/g00294/impl.remainders", laid_loop_example_g00294_impl_remainders)], narrowed := true }
def FnExactAddStripesUptoSaid : Prop := fnExactAddStripesUptoRow.holds Tryd.pinned (OpenSpec.upto fnExactAddStripesSpec)

/-- 'laws.FnExactMendStripe', WHERE WHAT IT READS IS OF BULK AT MOST 1048576: true; the input reads as it did. -/
def fnExactMendStripeUptoRow : OpenClaim := { program := "ytbopocpmodpfcaadoor", sum := "7d60f601a0f23acb5dd39dd73416c2a632bafcd7415eea5755ba5bdf5c5cbbf3", func := "loop.example/g00294/laws.FnExactMendStripe", spec := "fnExactMendStripe", unfollowed := true, recurses := true, named := ["loop.example/g00294/impl.remainders"], apart := false, laid := [("loop.example/g00294/impl.remainders", laid_loop_example_g00294_impl_remainders)], narrowed := true }
def FnExactMendStripeUptoSaid : Prop := fnExactMendStripeUptoRow.holds Tryd.pinned (OpenSpec.upto fnExactMendStripeSpec)

end Rows
end Go.Proofs.YtbopocpmodpfcaaDoor
