/-
  NARROWER THAN 'FOR EVERY INPUT', by the rows' own cells (each row's printed sentence says how): FnMerged: laid · FnMended: laid · FnExactGeneratorOf: laid · FnExactEncodeWord: laid · FnExactSyndromesOf: laid · FnExactIsWord: ifaces, laid · FnExactDataOf: ifaces, laid.
  DERIVED. THE GIVEN ROWS OF THIS SEAT. 7 by the template 'for every input the law returns true; each argument reads behind the call as it read before'; 0 by the template 'total and deterministic' (their statements: YtfglkgeeelapgaaDoorTotals.lean).
  GIVEN WITH THE SEED: the statements are not yours to turn. If you find one false, say at which input.
  Laid BY PROGRAM, IN A SANDBOX (cutbox-rows.mjs): the forced cells as the released guide's own fill.sh prints them over the translation 88d93fa411b39300… (all of the seat's roots in one cut). By AI agents, Wed Nov 11 2026. No macro, syntax, notation, axiom, sorry.
-/
import Derived.Test.YtfglkgeeelapgaaDoorChecked
import GoSem.Claim
import GoSem.ClaimJoined
import GoSem.ClaimMapViews
import Derived.JoinedTies
import Derived.KernelRfl
namespace Go.Proofs.YtfglkgeeelapgaaDoor
/- THE CELL 'sum', in the pinned program and in every row, IS THE sha256 OF THE DUMP (.gsa) THAT YtfglkgeeelapgaaDoorProg.lean LOADS. Nothing in Lean hashes anything: it is a label: what it is worth is what the hold of that sum in a sandbox is worth. -/
noncomputable def Tryd.pinned : Pinned := { name := "ytfglkgeeelapgaadoor", sum := "88d93fa411b393009317d60366483e6996b6e056a56fa84cec7c6a63eb2142f6", checked := Tryd.checked }
namespace Rows
def none {H : Type} : Left H := { results := [], args := [] }

/- WHAT THE LISTED PACKAGE-LEVEL VARIABLES READ AS WHEN THE CALL BEGINS. Each datum BY PROGRAM (the guide's laid-datum.mjs) off the statement by which the dump's own 'gosem.cut.vars' lays the variable. In a bare row this is a premise. The card (YtfglkgeeelapgaaDoorCards.lean) ties it to the program's text. -/
def laid_loop_example_g00294_impl_remainders {H : Type} : DataW H := .agg [.lit (.int .u8 27), .lit (.int .u8 54), .lit (.int .u8 108), .lit (.int .u8 216), .lit (.int .u8 171), .lit (.int .u8 77), .lit (.int .u8 154)]
def laid_loop_example_g00294_impl_errWordSize {H : Type} : DataW H := .iface "*errors.errorString" (.ptr (.agg [.lit (.string [110, 111, 116, 32, 116, 104, 101, 32, 115, 105, 122, 101, 32, 111, 102, 32, 97, 32, 99, 111, 100, 101, 32, 119, 111, 114, 100])]))
def laid_loop_example_g00294_impl_errNoWord {H : Type} : DataW H := .iface "*errors.errorString" (.ptr (.agg [.lit (.string [110, 111, 116, 32, 97, 32, 99, 111, 100, 101, 32, 119, 111, 114, 100])]))

/-- 'laws.FnMerged': WHATEVER THE INPUT: true; the input reads as it did. -/
def fnMergedSpec : ChangeSpec := { name := "fnMerged", vars := ["loop.example/g00294/impl.remainders"], fn := fun _ => fun
  | [d1, d2, g1] => { results := [.lit (.bool true)], args := [d1, d2], vars := [g1] }
  | _ => none }
def fnMergedRow : OpenClaim := { program := "ytfglkgeeelapgaadoor", sum := "88d93fa411b393009317d60366483e6996b6e056a56fa84cec7c6a63eb2142f6", func := "loop.example/g00294/laws.FnMerged", spec := "fnMerged", unfollowed := true, recurses := true, named := ["loop.example/g00294/impl.remainders"], apart := false, laid := [("loop.example/g00294/impl.remainders", laid_loop_example_g00294_impl_remainders)] }
def FnMergedSaid : Prop := fnMergedRow.holds Tryd.pinned (OpenSpec.ofChange fnMergedSpec)

/-- ITS FALSE NEIGHBOUR: 'it returns false'. Refute it at one input. -/
def fnMergedWrong : ChangeSpec := { name := "fnMerged", vars := ["loop.example/g00294/impl.remainders"], fn := fun _ => fun
  | [d1, d2, g1] => { results := [.lit (.bool false)], args := [d1, d2], vars := [g1] }
  | _ => none }
def FnMergedWrongFalsely : Prop := fnMergedRow.holds Tryd.pinned (OpenSpec.ofChange fnMergedWrong)

/-- 'laws.FnMended': WHATEVER THE INPUT: true; the input reads as it did. -/
def fnMendedSpec : ChangeSpec := { name := "fnMended", vars := ["loop.example/g00294/impl.remainders"], fn := fun _ => fun
  | [d1, d2, g1] => { results := [.lit (.bool true)], args := [d1, d2], vars := [g1] }
  | _ => none }
def fnMendedRow : OpenClaim := { program := "ytfglkgeeelapgaadoor", sum := "88d93fa411b393009317d60366483e6996b6e056a56fa84cec7c6a63eb2142f6", func := "loop.example/g00294/laws.FnMended", spec := "fnMended", unfollowed := true, recurses := true, named := ["loop.example/g00294/impl.remainders"], apart := false, laid := [("loop.example/g00294/impl.remainders", laid_loop_example_g00294_impl_remainders)] }
def FnMendedSaid : Prop := fnMendedRow.holds Tryd.pinned (OpenSpec.ofChange fnMendedSpec)

/-- ITS FALSE NEIGHBOUR: 'it returns false'. Refute it at one input. -/
def fnMendedWrong : ChangeSpec := { name := "fnMended", vars := ["loop.example/g00294/impl.remainders"], fn := fun _ => fun
  | [d1, d2, g1] => { results := [.lit (.bool false)], args := [d1, d2], vars := [g1] }
  | _ => none }
def FnMendedWrongFalsely : Prop := fnMendedRow.holds Tryd.pinned (OpenSpec.ofChange fnMendedWrong)

/-- 'laws.FnExactGeneratorOf': WHATEVER THE INPUT: true; the input reads as it did. -/
def fnExactGeneratorOfSpec : ChangeSpec := { name := "fnExactGeneratorOf", vars := ["loop.example/g00294/impl.remainders"], fn := fun _ => fun
  | [d, g1] => { results := [.lit (.bool true)], args := [d], vars := [g1] }
  | _ => none }
def fnExactGeneratorOfRow : OpenClaim := { program := "ytfglkgeeelapgaadoor", sum := "88d93fa411b393009317d60366483e6996b6e056a56fa84cec7c6a63eb2142f6", func := "loop.example/g00294/laws.FnExactGeneratorOf", spec := "fnExactGeneratorOf", named := ["loop.example/g00294/impl.remainders"], apart := false, laid := [("loop.example/g00294/impl.remainders", laid_loop_example_g00294_impl_remainders)] }
def FnExactGeneratorOfSaid : Prop := fnExactGeneratorOfRow.holds Tryd.pinned (OpenSpec.ofChange fnExactGeneratorOfSpec)

/-- ITS FALSE NEIGHBOUR: 'it returns false'. Refute it at one input. -/
def fnExactGeneratorOfWrong : ChangeSpec := { name := "fnExactGeneratorOf", vars := ["loop.example/g00294/impl.remainders"], fn := fun _ => fun
  | [d, g1] => { results := [.lit (.bool false)], args := [d], vars := [g1] }
  | _ => none }
def FnExactGeneratorOfWrongFalsely : Prop := fnExactGeneratorOfRow.holds Tryd.pinned (OpenSpec.ofChange fnExactGeneratorOfWrong)

/-- 'laws.FnExactEncodeWord': WHATEVER THE INPUT: true; the input reads as it did. -/
def fnExactEncodeWordSpec : ChangeSpec := { name := "fnExactEncodeWord", vars := ["loop.example/g00294/impl.remainders"], fn := fun _ => fun
  | [d1, d2, g1] => { results := [.lit (.bool true)], args := [d1, d2], vars := [g1] }
  | _ => none }
def fnExactEncodeWordRow : OpenClaim := { program := "ytfglkgeeelapgaadoor", sum := "88d93fa411b393009317d60366483e6996b6e056a56fa84cec7c6a63eb2142f6", func := "loop.example/g00294/laws.FnExactEncodeWord", spec := "fnExactEncodeWord", named := ["loop.example/g00294/impl.remainders"], apart := false, laid := [("loop.example/g00294/impl.remainders", laid_loop_example_g00294_impl_remainders)] }
def FnExactEncodeWordSaid : Prop := fnExactEncodeWordRow.holds Tryd.pinned (OpenSpec.ofChange fnExactEncodeWordSpec)

/-- ITS FALSE NEIGHBOUR: 'it returns false'. Refute it at one input. -/
def fnExactEncodeWordWrong : ChangeSpec := { name := "fnExactEncodeWord", vars := ["loop.example/g00294/impl.remainders"], fn := fun _ => fun
  | [d1, d2, g1] => { results := [.lit (.bool false)], args := [d1, d2], vars := [g1] }
  | _ => none }
def FnExactEncodeWordWrongFalsely : Prop := fnExactEncodeWordRow.holds Tryd.pinned (OpenSpec.ofChange fnExactEncodeWordWrong)

/-- 'laws.FnExactSyndromesOf': WHATEVER THE INPUT: true; the input reads as it did. -/
def fnExactSyndromesOfSpec : ChangeSpec := { name := "fnExactSyndromesOf", vars := ["loop.example/g00294/impl.remainders"], fn := fun _ => fun
  | [d1, d2, g1] => { results := [.lit (.bool true)], args := [d1, d2], vars := [g1] }
  | _ => none }
def fnExactSyndromesOfRow : OpenClaim := { program := "ytfglkgeeelapgaadoor", sum := "88d93fa411b393009317d60366483e6996b6e056a56fa84cec7c6a63eb2142f6", func := "loop.example/g00294/laws.FnExactSyndromesOf", spec := "fnExactSyndromesOf", unfollowed := true, recurses := true, named := ["loop.example/g00294/impl.remainders"], apart := false, laid := [("loop.example/g00294/impl.remainders", laid_loop_example_g00294_impl_remainders)] }
def FnExactSyndromesOfSaid : Prop := fnExactSyndromesOfRow.holds Tryd.pinned (OpenSpec.ofChange fnExactSyndromesOfSpec)

/-- ITS FALSE NEIGHBOUR: 'it returns false'. Refute it at one input. -/
def fnExactSyndromesOfWrong : ChangeSpec := { name := "fnExactSyndromesOf", vars := ["loop.example/g00294/impl.remainders"], fn := fun _ => fun
  | [d1, d2, g1] => { results := [.lit (.bool false)], args := [d1, d2], vars := [g1] }
  | _ => none }
def FnExactSyndromesOfWrongFalsely : Prop := fnExactSyndromesOfRow.holds Tryd.pinned (OpenSpec.ofChange fnExactSyndromesOfWrong)

/-- 'laws.FnExactIsWord': WHATEVER THE INPUT: true; the input reads as it did. -/
def fnExactIsWordSpec : ChangeSpec := { name := "fnExactIsWord", vars := ["loop.example/g00294/impl.errNoWord", "loop.example/g00294/impl.errWordSize", "loop.example/g00294/impl.remainders"], fn := fun _ => fun
  | [d1, d2, g1, g2, g3] => { results := [.lit (.bool true)], args := [d1, d2], vars := [g1, g2, g3] }
  | _ => none }
def fnExactIsWordRow : OpenClaim := { program := "ytfglkgeeelapgaadoor", sum := "88d93fa411b393009317d60366483e6996b6e056a56fa84cec7c6a63eb2142f6", func := "loop.example/g00294/laws.FnExactIsWord", spec := "fnExactIsWord", inPlace := ["internal/reflectlite.TypeOf"], unfollowed := true, recurses := true, named := ["loop.example/g00294/impl.errNoWord", "loop.example/g00294/impl.errWordSize", "loop.example/g00294/impl.remainders"], ifaces := true, apart := false, laid := [("loop.example/g00294/impl.remainders", laid_loop_example_g00294_impl_remainders), ("loop.example/g00294/impl.errWordSize", laid_loop_example_g00294_impl_errWordSize), ("loop.example/g00294/impl.errNoWord", laid_loop_example_g00294_impl_errNoWord)] }
def FnExactIsWordSaid : Prop := fnExactIsWordRow.holds Tryd.pinned (OpenSpec.ofChange fnExactIsWordSpec)

/-- ITS FALSE NEIGHBOUR: 'it returns false'. Refute it at one input. -/
def fnExactIsWordWrong : ChangeSpec := { name := "fnExactIsWord", vars := ["loop.example/g00294/impl.errNoWord", "loop.example/g00294/impl.errWordSize", "loop.example/g00294/impl.remainders"], fn := fun _ => fun
  | [d1, d2, g1, g2, g3] => { results := [.lit (.bool false)], args := [d1, d2], vars := [g1, g2, g3] }
  | _ => none }
def FnExactIsWordWrongFalsely : Prop := fnExactIsWordRow.holds Tryd.pinned (OpenSpec.ofChange fnExactIsWordWrong)

/-- 'laws.FnExactDataOf': WHATEVER THE INPUT: true; the input reads as it did. -/
def fnExactDataOfSpec : ChangeSpec := { name := "fnExactDataOf", vars := ["loop.example/g00294/impl.errWordSize", "loop.example/g00294/impl.remainders"], fn := fun _ => fun
  | [d1, d2, g1, g2] => { results := [.lit (.bool true)], args := [d1, d2], vars := [g1, g2] }
  | _ => none }
def fnExactDataOfRow : OpenClaim := { program := "ytfglkgeeelapgaadoor", sum := "88d93fa411b393009317d60366483e6996b6e056a56fa84cec7c6a63eb2142f6", func := "loop.example/g00294/laws.FnExactDataOf", spec := "fnExactDataOf", unfollowed := true, recurses := true, named := ["loop.example/g00294/impl.errWordSize", "loop.example/g00294/impl.remainders"], ifaces := true, apart := false, laid := [("loop.example/g00294/impl.remainders", laid_loop_example_g00294_impl_remainders), ("loop.example/g00294/impl.errWordSize", laid_loop_example_g00294_impl_errWordSize)] }
def FnExactDataOfSaid : Prop := fnExactDataOfRow.holds Tryd.pinned (OpenSpec.ofChange fnExactDataOfSpec)

/-- ITS FALSE NEIGHBOUR: 'it returns false'. Refute it at one input. -/
def fnExactDataOfWrong : ChangeSpec := { name := "fnExactDataOf", vars := ["loop.example/g00294/impl.errWordSize", "loop.example/g00294/impl.remainders"], fn := fun _ => fun
  | [d1, d2, g1, g2] => { results := [.lit (.bool false)], args := [d1, d2], vars := [g1, g2] }
  | _ => none }
def FnExactDataOfWrongFalsely : Prop := fnExactDataOfRow.holds Tryd.pinned (OpenSpec.ofChange fnExactDataOfWrong)

/- THE SECOND FORM. 'bulk': how many values and letters a reading holds, each counted each time it is reached (what is shared counts as often as it is met; a slice's spare places count too). A statement '..UptoSaid' is the law's where the arguments, and the package variables that the reading takes, are together of bulk at most 1048576: NARROWER than '..Said'. Prove '..Said' where nothing that the law and all that it calls make is longer than what came in: it says more and counts as full. Else prove '..UptoSaid'. A law counts once. -/
mutual
def uptoBulk {H : Type} : DataW H → Nat
  | .lit (.string bytes) => bytes.length + 1
  | .lit _ => 1
  | .nil => 1
  | .ptr d => uptoBulk d + 1
  | .slice elems spare => uptoBulkAll elems + uptoBulkAll spare + 1
  | .agg parts => uptoBulkAll parts + 1
  | .iface _ d => uptoBulk d + 1
  | .map entries => uptoBulkEntries entries + 1
  | .held _ => 1
def uptoBulkAll {H : Type} : List (DataW H) → Nat
  | [] => 0
  | d :: r => uptoBulk d + uptoBulkAll r
def uptoBulkEntries {H : Type} : List (Lit × DataW H) → Nat
  | [] => 0
  | x :: r => uptoBulkEntry x + uptoBulkEntries r
def uptoBulkEntry {H : Type} : Lit × DataW H → Nat
  | (.string bytes, d) => bytes.length + uptoBulk d + 1
  | (_, d) => uptoBulk d + 1
 end
def uptoSmall : (H : Type) → List (DataW H) → Bool := fun _ ds => decide (uptoBulkAll ds ≤ 1048576)
def OpenSpec.upto (s : _root_.Go.ChangeSpec) : _root_.Go.OpenSpec := { _root_.Go.OpenSpec.ofChange s with cond := some uptoSmall }

/-- 'laws.FnMerged', WHERE WHAT IT READS IS OF BULK AT MOST 1048576: true; the input reads as it did. -/
def fnMergedUptoRow : OpenClaim := { program := "ytfglkgeeelapgaadoor", sum := "88d93fa411b393009317d60366483e6996b6e056a56fa84cec7c6a63eb2142f6", func := "loop.example/g00294/laws.FnMerged", spec := "fnMerged", unfollowed := true, recurses := true, named := ["loop.example/g00294/impl.remainders"], apart := false, laid := [("loop.example/g00294/impl.remainders", laid_loop_example_g00294_impl_remainders)], narrowed := true }
def FnMergedUptoSaid : Prop := fnMergedUptoRow.holds Tryd.pinned (OpenSpec.upto fnMergedSpec)

/-- 'laws.FnMended', WHERE WHAT IT READS IS OF BULK AT MOST 1048576: true; the input reads as it did. -/
def fnMendedUptoRow : OpenClaim := { program := "ytfglkgeeelapgaadoor", sum := "88d93fa411b393009317d60366483e6996b6e056a56fa84cec7c6a63eb2142f6", func := "loop.example/g00294/laws.FnMended", spec := "fnMended", unfollowed := true, recurses := true, named := ["loop.example/g00294/impl.remainders"], apart := false, laid := [("loop.example/g00294/impl.remainders", laid_loop_example_g00294_impl_remainders)], narrowed := true }
def FnMendedUptoSaid : Prop := fnMendedUptoRow.holds Tryd.pinned (OpenSpec.upto fnMendedSpec)

/-- 'laws.FnExactGeneratorOf', WHERE WHAT IT READS IS OF BULK AT MOST 1048576: true; the input reads as it did. -/
def fnExactGeneratorOfUptoRow : OpenClaim := { program := "ytfglkgeeelapgaadoor", sum := "88d93fa411b393009317d60366483e6996b6e056a56fa84cec7c6a63eb2142f6", func := "loop.example/g00294/laws.FnExactGeneratorOf", spec := "fnExactGeneratorOf", named := ["loop.example/g00294/impl.remainders"], apart := false, laid := [("loop.example/g00294/impl.remainders", laid_loop_example_g00294_impl_remainders)], narrowed := true }
def FnExactGeneratorOfUptoSaid : Prop := fnExactGeneratorOfUptoRow.holds Tryd.pinned (OpenSpec.upto fnExactGeneratorOfSpec)

/-- 'laws.FnExactEncodeWord', WHERE WHAT IT READS IS OF BULK AT MOST 1048576: true; the input reads as it did. -/
def fnExactEncodeWordUptoRow : OpenClaim := { program := "ytfglkgeeelapgaadoor", sum := "88d93fa411b393009317d60366483e6996b6e056a56fa84cec7c6a63eb2142f6", func := "loop.example/g00294/laws.FnExactEncodeWord", spec := "fnExactEncodeWord", named := ["loop.example/g00294/impl.remainders"], apart := false, laid := [("loop.example/g00294/impl.remainders", laid_loop_example_g00294_impl_remainders)], narrowed := true }
def FnExactEncodeWordUptoSaid : Prop := fnExactEncodeWordUptoRow.holds Tryd.pinned (OpenSpec.upto fnExactEncodeWordSpec)

/-- 'laws.FnExactSyndromesOf', WHERE WHAT IT READS IS OF BULK AT MOST 1048576: true; the input reads as it did. -/
def fnExactSyndromesOfUptoRow : OpenClaim := { program := "ytfglkgeeelapgaadoor", sum := "88d93fa411b393009317d60366483e6996b6e056a56fa84cec7c6a63eb2142f6", func := "loop.example/g00294/laws.FnExactSyndromesOf", spec := "fnExactSyndromesOf", unfollowed := true, recurses := true, named := ["loop.example/g00294/impl.remainders"], apart := false, laid := [("loop.example/g00294/impl.remainders", laid_loop_example_g00294_impl_remainders)], narrowed := true }
def FnExactSyndromesOfUptoSaid : Prop := fnExactSyndromesOfUptoRow.holds Tryd.pinned (OpenSpec.upto fnExactSyndromesOfSpec)

/-- 'laws.FnExactIsWord', WHERE WHAT IT READS IS OF BULK AT MOST 1048576: true; the input reads as it did. -/
def fnExactIsWordUptoRow : OpenClaim := { program := "ytfglkgeeelapgaadoor", sum := "88d93fa411b393009317d60366483e6996b6e056a56fa84cec7c6a63eb2142f6", func := "loop.example/g00294/laws.FnExactIsWord", spec := "fnExactIsWord", inPlace := ["internal/reflectlite.TypeOf"], unfollowed := true, recurses := true, named := ["loop.example/g00294/impl.errNoWord", "loop.example/g00294/impl.errWordSize", "loop.example/g00294/impl.remainders"], ifaces := true, apart := false, laid := [("loop.example/g00294/impl.remainders", laid_loop_example_g00294_impl_remainders), ("loop.example/g00294/impl.errWordSize", laid_loop_example_g00294_impl_errWordSize), ("loop.example/g00294/impl.errNoWord", laid_loop_example_g00294_impl_errNoWord)], narrowed := true }
def FnExactIsWordUptoSaid : Prop := fnExactIsWordUptoRow.holds Tryd.pinned (OpenSpec.upto fnExactIsWordSpec)

/-- 'laws.FnExactDataOf', WHERE WHAT IT READS IS OF BULK AT MOST 1048576: true; the input reads as it did. -/
def fnExactDataOfUptoRow : OpenClaim := { program := "ytfglkgeeelapgaadoor", sum := "88d93fa411b393009317d60366483e6996b6e056a56fa84cec7c6a63eb2142f6", func := "loop.example/g00294/laws.FnExactDataOf", spec := "fnExactDataOf", unfollowed := true, recurses := true, named := ["loop.example/g00294/impl.errWordSize", "loop.example/g00294/impl.remainders"], ifaces := true, apart := false, laid := [("loop.example/g00294/impl.remainders", laid_loop_example_g00294_impl_remainders), ("loop.example/g00294/impl.errWordSize", laid_loop_example_g00294_impl_errWordSize)], narrowed := true }
def FnExactDataOfUptoSaid : Prop := fnExactDataOfUptoRow.holds Tryd.pinned (OpenSpec.upto fnExactDataOfSpec)

end Rows
end Go.Proofs.YtfglkgeeelapgaaDoor
