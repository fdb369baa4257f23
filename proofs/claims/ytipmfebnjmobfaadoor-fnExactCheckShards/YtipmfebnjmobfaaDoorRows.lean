/-
  NARROWER THAN 'FOR EVERY INPUT', by the rows' own cells (each row's printed sentence says how): FnExactDecodeShards: laid · FnExactRebuildShard: laid · FnExactCheckShards: laid · FnRebuilt: laid · FnAnyFew: laid · FnExactLocalMatrix: laid · FnExactEncodeLocal: laid · FnExactMendLocal: laid · FnExactCanDecode: laid.
  DERIVED. THE GIVEN ROWS OF THIS SEAT. 9 by the template 'for every input the law returns true; each argument reads behind the call as it read before'; 0 by the template 'total and deterministic' (their statements: YtipmfebnjmobfaaDoorTotals.lean).
  GIVEN WITH THE SEED: the statements are not yours to turn. If you find one false, say at which input.
  Laid BY PROGRAM, IN A SANDBOX (cutbox-rows.mjs): the forced cells as the released guide's own fill.sh prints them over the translation d5dc850d15ddd617… (all of the seat's roots in one cut). By AI agents, Wed Nov 11 2026. No macro, syntax, notation, axiom, sorry.
-/
import Derived.Test.YtipmfebnjmobfaaDoorChecked
import GoSem.Claim
import GoSem.ClaimJoined
import GoSem.ClaimMapViews
import Derived.JoinedTies
import Derived.KernelRfl
namespace Go.Proofs.YtipmfebnjmobfaaDoor
/- THE CELL 'sum', in the pinned program and in every row, IS THE sha256 OF THE DUMP (.gsa) THAT YtipmfebnjmobfaaDoorProg.lean LOADS. Nothing in Lean hashes anything: it is a label: what it is worth is what the hold of that sum in a sandbox is worth. -/
noncomputable def Tryd.pinned : Pinned := { name := "ytipmfebnjmobfaadoor", sum := "d5dc850d15ddd617bcdc7165a82b4d604a9b853fed94e76f9b2ecd7b9502a0a9", checked := Tryd.checked }
namespace Rows
def none {H : Type} : Left H := { results := [], args := [] }

/- WHAT THE LISTED PACKAGE-LEVEL VARIABLES READ AS WHEN THE CALL BEGINS. Each datum BY PROGRAM (the guide's laid-datum.mjs) off the statement by which the dump's own 'gosem.cut.vars' lays the variable. In a bare row this is a premise. The card (YtipmfebnjmobfaaDoorCards.lean) ties it to the program's text. -/
def laid_loop_example_g00294_impl_remainders {H : Type} : DataW H := .agg [.lit (.int .u8 27), .lit (.int .u8 54), .lit (.int .u8 108), .lit (.int .u8 216), .lit (.int .u8 171), .lit (.int .u8 77), .lit (.int .u8 154)]

/-- 'laws.FnExactDecodeShards': WHATEVER THE INPUT: true; the input reads as it did. -/
def fnExactDecodeShardsSpec : ChangeSpec := { name := "fnExactDecodeShards", vars := ["loop.example/g00294/impl.remainders"], fn := fun _ => fun
  | [d1, d2, d3, g1] => { results := [.lit (.bool true)], args := [d1, d2, d3], vars := [g1] }
  | _ => none }
def fnExactDecodeShardsRow : OpenClaim := { program := "ytipmfebnjmobfaadoor", sum := "d5dc850d15ddd617bcdc7165a82b4d604a9b853fed94e76f9b2ecd7b9502a0a9", func := "loop.example/g00294/laws.FnExactDecodeShards", spec := "fnExactDecodeShards", unfollowed := true, recurses := true, named := ["loop.example/g00294/impl.remainders"], apart := false, laid := [("loop.example/g00294/impl.remainders", laid_loop_example_g00294_impl_remainders)] }
def FnExactDecodeShardsSaid : Prop := fnExactDecodeShardsRow.holds Tryd.pinned (OpenSpec.ofChange fnExactDecodeShardsSpec)

/-- ITS FALSE NEIGHBOUR: 'it returns false'. Refute it at one input. -/
def fnExactDecodeShardsWrong : ChangeSpec := { name := "fnExactDecodeShards", vars := ["loop.example/g00294/impl.remainders"], fn := fun _ => fun
  | [d1, d2, d3, g1] => { results := [.lit (.bool false)], args := [d1, d2, d3], vars := [g1] }
  | _ => none }
def FnExactDecodeShardsWrongFalsely : Prop := fnExactDecodeShardsRow.holds Tryd.pinned (OpenSpec.ofChange fnExactDecodeShardsWrong)

/-- 'laws.FnExactRebuildShard': WHATEVER THE INPUT: true; the input reads as it did. -/
def fnExactRebuildShardSpec : ChangeSpec := { name := "fnExactRebuildShard", vars := ["loop.example/g00294/impl.remainders"], fn := fun _ => fun
  | [d1, d2, d3, d4, g1] => { results := [.lit (.bool true)], args := [d1, d2, d3, d4], vars := [g1] }
  | _ => none }
def fnExactRebuildShardRow : OpenClaim := { program := "ytipmfebnjmobfaadoor", sum := "d5dc850d15ddd617bcdc7165a82b4d604a9b853fed94e76f9b2ecd7b9502a0a9", func := "loop.example/g00294/laws.FnExactRebuildShard", spec := "fnExactRebuildShard", unfollowed := true, recurses := true, named := ["loop.example/g00294/impl.remainders"], apart := false, laid := [("loop.example/g00294/impl.remainders", laid_loop_example_g00294_impl_remainders)] }
def FnExactRebuildShardSaid : Prop := fnExactRebuildShardRow.holds Tryd.pinned (OpenSpec.ofChange fnExactRebuildShardSpec)

/-- ITS FALSE NEIGHBOUR: 'it returns false'. Refute it at one input. -/
def fnExactRebuildShardWrong : ChangeSpec := { name := "fnExactRebuildShard", vars := ["loop.example/g00294/impl.remainders"], fn := fun _ => fun
  | [d1, d2, d3, d4, g1] => { results := [.lit (.bool false)], args := [d1, d2, d3, d4], vars := [g1] }
  | _ => none }
def FnExactRebuildShardWrongFalsely : Prop := fnExactRebuildShardRow.holds Tryd.pinned (OpenSpec.ofChange fnExactRebuildShardWrong)

/-- 'laws.FnExactCheckShards': WHATEVER THE INPUT: true; the input reads as it did. -/
def fnExactCheckShardsSpec : ChangeSpec := { name := "fnExactCheckShards", vars := ["loop.example/g00294/impl.remainders"], fn := fun _ => fun
  | [d1, d2, d3, g1] => { results := [.lit (.bool true)], args := [d1, d2, d3], vars := [g1] }
  | _ => none }
def fnExactCheckShardsRow : OpenClaim := { program := "ytipmfebnjmobfaadoor", sum := "d5dc850d15ddd617bcdc7165a82b4d604a9b853fed94e76f9b2ecd7b9502a0a9", func := "loop.example/g00294/laws.FnExactCheckShards", spec := "fnExactCheckShards", unfollowed := true, recurses := true, named := ["loop.example/g00294/impl.remainders"], apart := false, laid := [("loop.example/g00294/impl.remainders", laid_loop_example_g00294_impl_remainders)] }
def FnExactCheckShardsSaid : Prop := fnExactCheckShardsRow.holds Tryd.pinned (OpenSpec.ofChange fnExactCheckShardsSpec)

/-- ITS FALSE NEIGHBOUR: 'it returns false'. Refute it at one input. -/
def fnExactCheckShardsWrong : ChangeSpec := { name := "fnExactCheckShards", vars := ["loop.example/g00294/impl.remainders"], fn := fun _ => fun
  | [d1, d2, d3, g1] => { results := [.lit (.bool false)], args := [d1, d2, d3], vars := [g1] }
  | _ => none }
def FnExactCheckShardsWrongFalsely : Prop := fnExactCheckShardsRow.holds Tryd.pinned (OpenSpec.ofChange fnExactCheckShardsWrong)

/-- 'laws.FnRebuilt': WHATEVER THE INPUT: true; the input reads as it did. -/
def fnRebuiltSpec : ChangeSpec := { name := "fnRebuilt", vars := ["loop.example/g00294/impl.remainders"], fn := fun _ => fun
  | [d1, d2, g1] => { results := [.lit (.bool true)], args := [d1, d2], vars := [g1] }
  | _ => none }
def fnRebuiltRow : OpenClaim := { program := "ytipmfebnjmobfaadoor", sum := "d5dc850d15ddd617bcdc7165a82b4d604a9b853fed94e76f9b2ecd7b9502a0a9", func := "loop.example/g00294/laws.FnRebuilt", spec := "fnRebuilt", unfollowed := true, recurses := true, named := ["loop.example/g00294/impl.remainders"], apart := false, laid := [("loop.example/g00294/impl.remainders", laid_loop_example_g00294_impl_remainders)] }
def FnRebuiltSaid : Prop := fnRebuiltRow.holds Tryd.pinned (OpenSpec.ofChange fnRebuiltSpec)

/-- ITS FALSE NEIGHBOUR: 'it returns false'. Refute it at one input. -/
def fnRebuiltWrong : ChangeSpec := { name := "fnRebuilt", vars := ["loop.example/g00294/impl.remainders"], fn := fun _ => fun
  | [d1, d2, g1] => { results := [.lit (.bool false)], args := [d1, d2], vars := [g1] }
  | _ => none }
def FnRebuiltWrongFalsely : Prop := fnRebuiltRow.holds Tryd.pinned (OpenSpec.ofChange fnRebuiltWrong)

/-- 'laws.FnAnyFew': WHATEVER THE INPUT: true; the input reads as it did. -/
def fnAnyFewSpec : ChangeSpec := { name := "fnAnyFew", vars := ["loop.example/g00294/impl.remainders"], fn := fun _ => fun
  | [d1, d2, g1] => { results := [.lit (.bool true)], args := [d1, d2], vars := [g1] }
  | _ => none }
def fnAnyFewRow : OpenClaim := { program := "ytipmfebnjmobfaadoor", sum := "d5dc850d15ddd617bcdc7165a82b4d604a9b853fed94e76f9b2ecd7b9502a0a9", func := "loop.example/g00294/laws.FnAnyFew", spec := "fnAnyFew", unfollowed := true, recurses := true, named := ["loop.example/g00294/impl.remainders"], apart := false, laid := [("loop.example/g00294/impl.remainders", laid_loop_example_g00294_impl_remainders)] }
def FnAnyFewSaid : Prop := fnAnyFewRow.holds Tryd.pinned (OpenSpec.ofChange fnAnyFewSpec)

/-- ITS FALSE NEIGHBOUR: 'it returns false'. Refute it at one input. -/
def fnAnyFewWrong : ChangeSpec := { name := "fnAnyFew", vars := ["loop.example/g00294/impl.remainders"], fn := fun _ => fun
  | [d1, d2, g1] => { results := [.lit (.bool false)], args := [d1, d2], vars := [g1] }
  | _ => none }
def FnAnyFewWrongFalsely : Prop := fnAnyFewRow.holds Tryd.pinned (OpenSpec.ofChange fnAnyFewWrong)

/-- 'laws.FnExactLocalMatrix': WHATEVER THE INPUT: true; the input reads as it did. -/
def fnExactLocalMatrixSpec : ChangeSpec := { name := "fnExactLocalMatrix", vars := ["loop.example/g00294/impl.remainders"], fn := fun _ => fun
  | [d, g1] => { results := [.lit (.bool true)], args := [d], vars := [g1] }
  | _ => none }
def fnExactLocalMatrixRow : OpenClaim := { program := "ytipmfebnjmobfaadoor", sum := "d5dc850d15ddd617bcdc7165a82b4d604a9b853fed94e76f9b2ecd7b9502a0a9", func := "loop.example/g00294/laws.FnExactLocalMatrix", spec := "fnExactLocalMatrix", unfollowed := true, recurses := true, named := ["loop.example/g00294/impl.remainders"], apart := false, laid := [("loop.example/g00294/impl.remainders", laid_loop_example_g00294_impl_remainders)] }
def FnExactLocalMatrixSaid : Prop := fnExactLocalMatrixRow.holds Tryd.pinned (OpenSpec.ofChange fnExactLocalMatrixSpec)

/-- ITS FALSE NEIGHBOUR: 'it returns false'. Refute it at one input. -/
def fnExactLocalMatrixWrong : ChangeSpec := { name := "fnExactLocalMatrix", vars := ["loop.example/g00294/impl.remainders"], fn := fun _ => fun
  | [d, g1] => { results := [.lit (.bool false)], args := [d], vars := [g1] }
  | _ => none }
def FnExactLocalMatrixWrongFalsely : Prop := fnExactLocalMatrixRow.holds Tryd.pinned (OpenSpec.ofChange fnExactLocalMatrixWrong)

/-- 'laws.FnExactEncodeLocal': WHATEVER THE INPUT: true; the input reads as it did. -/
def fnExactEncodeLocalSpec : ChangeSpec := { name := "fnExactEncodeLocal", vars := ["loop.example/g00294/impl.remainders"], fn := fun _ => fun
  | [d1, d2, g1] => { results := [.lit (.bool true)], args := [d1, d2], vars := [g1] }
  | _ => none }
def fnExactEncodeLocalRow : OpenClaim := { program := "ytipmfebnjmobfaadoor", sum := "d5dc850d15ddd617bcdc7165a82b4d604a9b853fed94e76f9b2ecd7b9502a0a9", func := "loop.example/g00294/laws.FnExactEncodeLocal", spec := "fnExactEncodeLocal", unfollowed := true, recurses := true, named := ["loop.example/g00294/impl.remainders"], apart := false, laid := [("loop.example/g00294/impl.remainders", laid_loop_example_g00294_impl_remainders)] }
def FnExactEncodeLocalSaid : Prop := fnExactEncodeLocalRow.holds Tryd.pinned (OpenSpec.ofChange fnExactEncodeLocalSpec)

/-- ITS FALSE NEIGHBOUR: 'it returns false'. Refute it at one input. -/
def fnExactEncodeLocalWrong : ChangeSpec := { name := "fnExactEncodeLocal", vars := ["loop.example/g00294/impl.remainders"], fn := fun _ => fun
  | [d1, d2, g1] => { results := [.lit (.bool false)], args := [d1, d2], vars := [g1] }
  | _ => none }
def FnExactEncodeLocalWrongFalsely : Prop := fnExactEncodeLocalRow.holds Tryd.pinned (OpenSpec.ofChange fnExactEncodeLocalWrong)

/-- 'laws.FnExactMendLocal': WHATEVER THE INPUT: true; the input reads as it did. -/
def fnExactMendLocalSpec : ChangeSpec := { name := "fnExactMendLocal", vars := ["loop.example/g00294/impl.remainders"], fn := fun _ => fun
  | [d1, d2, d3, g1] => { results := [.lit (.bool true)], args := [d1, d2, d3], vars := [g1] }
  | _ => none }
def fnExactMendLocalRow : OpenClaim := { program := "ytipmfebnjmobfaadoor", sum := "d5dc850d15ddd617bcdc7165a82b4d604a9b853fed94e76f9b2ecd7b9502a0a9", func := "loop.example/g00294/laws.FnExactMendLocal", spec := "fnExactMendLocal", inPlace := ["internal/bytealg.MakeNoZero"], recurses := true, named := ["loop.example/g00294/impl.remainders"], apart := false, laid := [("loop.example/g00294/impl.remainders", laid_loop_example_g00294_impl_remainders)] }
def FnExactMendLocalSaid : Prop := fnExactMendLocalRow.holds Tryd.pinned (OpenSpec.ofChange fnExactMendLocalSpec)

/-- ITS FALSE NEIGHBOUR: 'it returns false'. Refute it at one input. -/
def fnExactMendLocalWrong : ChangeSpec := { name := "fnExactMendLocal", vars := ["loop.example/g00294/impl.remainders"], fn := fun _ => fun
  | [d1, d2, d3, g1] => { results := [.lit (.bool false)], args := [d1, d2, d3], vars := [g1] }
  | _ => none }
def FnExactMendLocalWrongFalsely : Prop := fnExactMendLocalRow.holds Tryd.pinned (OpenSpec.ofChange fnExactMendLocalWrong)

/-- 'laws.FnExactCanDecode': WHATEVER THE INPUT: true; the input reads as it did. -/
def fnExactCanDecodeSpec : ChangeSpec := { name := "fnExactCanDecode", vars := ["loop.example/g00294/impl.remainders"], fn := fun _ => fun
  | [d1, d2, g1] => { results := [.lit (.bool true)], args := [d1, d2], vars := [g1] }
  | _ => none }
def fnExactCanDecodeRow : OpenClaim := { program := "ytipmfebnjmobfaadoor", sum := "d5dc850d15ddd617bcdc7165a82b4d604a9b853fed94e76f9b2ecd7b9502a0a9", func := "loop.example/g00294/laws.FnExactCanDecode", spec := "fnExactCanDecode", unfollowed := true, recurses := true, named := ["loop.example/g00294/impl.remainders"], apart := false, laid := [("loop.example/g00294/impl.remainders", laid_loop_example_g00294_impl_remainders)] }
def FnExactCanDecodeSaid : Prop := fnExactCanDecodeRow.holds Tryd.pinned (OpenSpec.ofChange fnExactCanDecodeSpec)

/-- ITS FALSE NEIGHBOUR: 'it returns false'. Refute it at one input. -/
def fnExactCanDecodeWrong : ChangeSpec := { name := "fnExactCanDecode", vars := ["loop.example/g00294/impl.remainders"], fn := fun _ => fun
  | [d1, d2, g1] => { results := [.lit (.bool false)], args := [d1, d2], vars := [g1] }
  | _ => none }
def FnExactCanDecodeWrongFalsely : Prop := fnExactCanDecodeRow.holds Tryd.pinned (OpenSpec.ofChange fnExactCanDecodeWrong)

/- THE SECOND FORM. 'bulk': how many values and letters a reading holds, each counted each time it is reached (what is shared counts as often as it is met; a slice's spare places count too). A statement '..UptoSaid' is the law's where the arguments, and the package variables that the reading takes, are together of bulk at most 1048576: NARROWER than '..Said'. Prove '..Said' where nothing that the law and all that it calls make is longer than what came in: it says more and counts as full. Else prove '..UptoSaid'. A law counts once. -/
mutual
def uptoBulk {H : Type} : DataW H → Nat
  | .lit (.string bytes) => bytes.length + 1
  | .lit _ => 1
  | .nil => 1
  | .ptr d => uptoBulk d + 1
  | .slice elems spare => uptoBulkAll elems + uptoBulkAll spare + 1
  | .agg parts => uptoBulkAll parts + 1
  | .iface _ d => uptoBulk d + 1
  | .map entries => uptoBulkEntries entries + 1
  | .held _ => 1
def uptoBulkAll {H : Type} : List (DataW H) → Nat
  | [] => 0
  | d :: r => uptoBulk d + uptoBulkAll r
def uptoBulkEntries {H : Type} : List (Lit × DataW H) → Nat
  | [] => 0
  | x :: r => uptoBulkEntry x + uptoBulkEntries r
def uptoBulkEntry {H : Type} : Lit × DataW H → Nat
  | (.string bytes, d) => bytes.length + uptoBulk d + 1
  | (_, d) => uptoBulk d + 1
 end
def uptoSmall : (H : Type) → List (DataW H) → Bool := fun _ ds => decide (uptoBulkAll ds ≤ 1048576)
def OpenSpec.upto (s : _root_.Go.ChangeSpec) : _root_.Go.OpenSpec := { _root_.Go.OpenSpec.ofChange s with cond := some uptoSmall }

/-- 'laws.FnExactDecodeShards', WHERE WHAT IT READS IS OF BULK AT MOST 1048576: true; the input reads as it did. -/
def fnExactDecodeShardsUptoRow : OpenClaim := { program := "ytipmfebnjmobfaadoor", sum := "d5dc850d15ddd617bcdc7165a82b4d604a9b853fed94e76f9b2ecd7b9502a0a9", func := "loop.example/g00294/laws.FnExactDecodeShards", spec := "fnExactDecodeShards", unfollowed := true, recurses := true, named := ["loop.example/g00294/impl.remainders"], apart := false, laid := [("loop.example/g00294/impl.remainders", laid_loop_example_g00294_impl_remainders)], narrowed := true }
def FnExactDecodeShardsUptoSaid : Prop := fnExactDecodeShardsUptoRow.holds Tryd.pinned (OpenSpec.upto fnExactDecodeShardsSpec)

/-- 'laws.FnExactRebuildShard', WHERE WHAT IT READS IS OF BULK AT MOST 1048576: true; the input reads as it did. -/
def fnExactRebuildShardUptoRow : OpenClaim := { program := "ytipmfebnjmobfaadoor", sum := "d5dc850d15ddd617bcdc7165a82b4d604a9b853fed94e76f9b2ecd7b9502a0a9", func := "loop.example/g00294/laws.FnExactRebuildShard", spec := "fnExactRebuildShard", unfollowed := true, recurses := true, named := ["loop.example/g00294/impl.remainders"], apart := false, laid := [("loop.example/g00294/impl.remainders", laid_loop_example_g00294_impl_remainders)], narrowed := true }
def FnExactRebuildShardUptoSaid : Prop := fnExactRebuildShardUptoRow.holds Tryd.pinned (OpenSpec.upto fnExactRebuildShardSpec)

/-- 'laws.FnExactCheckShards', WHERE WHAT IT READS IS OF BULK AT MOST 1048576: true; the input reads as it did. -/
def fnExactCheckShardsUptoRow : OpenClaim := { program := "ytipmfebnjmobfaadoor", sum := "d5dc850d15ddd617bcdc7165a82b4d604a9b853fed94e76f9b2ecd7b9502a0a9", func := "loop.example/g00294/laws.FnExactCheckShards", spec := "fnExactCheckShards", unfollowed := true, recurses := true, named := ["loop.example/g00294/impl.remainders"], apart := false, laid := [("loop.example/g00294/impl.remainders", laid_loop_example_g00294_impl_remainders)], narrowed := true }
def FnExactCheckShardsUptoSaid : Prop := fnExactCheckShardsUptoRow.holds Tryd.pinned (OpenSpec.upto fnExactCheckShardsSpec)

/-- 'laws.FnRebuilt', WHERE WHAT IT READS IS OF BULK AT MOST 1048576: true; the input reads as it did. -/
def fnRebuiltUptoRow : OpenClaim := { program := "ytipmfebnjmobfaadoor", sum := "d5dc850d15ddd617bcdc7165a82b4d604a9b853fed94e76f9b2ecd7b9502a0a9", func := "loop.example/g00294/laws.FnRebuilt", spec := "fnRebuilt", unfollowed := true, recurses := true, named := ["loop.example/g00294/impl.remainders"], apart := false, laid := [("loop.example/g00294/impl.remainders", laid_loop_example_g00294_impl_remainders)], narrowed := true }
def FnRebuiltUptoSaid : Prop := fnRebuiltUptoRow.holds Tryd.pinned (OpenSpec.upto fnRebuiltSpec)

/-- 'laws.FnAnyFew', WHERE WHAT IT READS IS OF BULK AT MOST 1048576: true; the input reads as it did. -/
def fnAnyFewUptoRow : OpenClaim := { program := "ytipmfebnjmobfaadoor", sum := "d5dc850d15ddd617bcdc7165a82b4d604a9b853fed94e76f9b2ecd7b9502a0a9", func := "loop.example/g00294/laws.FnAnyFew", spec := "fnAnyFew", unfollowed := true, recurses := true, named := ["loop.example/g00294/impl.remainders"], apart := false, laid := [("loop.example/g00294/impl.remainders", laid_loop_example_g00294_impl_remainders)], narrowed := true }
def FnAnyFewUptoSaid : Prop := fnAnyFewUptoRow.holds Tryd.pinned (OpenSpec.upto fnAnyFewSpec)

/-- 'laws.FnExactLocalMatrix', WHERE WHAT IT READS IS OF BULK AT MOST 1048576: true; the input reads as it did. -/
def fnExactLocalMatrixUptoRow : OpenClaim := { program := "ytipmfebnjmobfaadoor", sum := "d5dc850d15ddd617bcdc7165a82b4d604a9b853fed94e76f9b2ecd7b9502a0a9", func := "loop.example/g00294/laws.FnExactLocalMatrix", spec := "fnExactLocalMatrix", unfollowed := true, recurses := true, named := ["loop.example/g00294/impl.remainders"], apart := false, laid := [("loop.example/g00294/impl.remainders", laid_loop_example_g00294_impl_remainders)], narrowed := true }
def FnExactLocalMatrixUptoSaid : Prop := fnExactLocalMatrixUptoRow.holds Tryd.pinned (OpenSpec.upto fnExactLocalMatrixSpec)

/-- 'laws.FnExactEncodeLocal', WHERE WHAT IT READS IS OF BULK AT MOST 1048576: true; the input reads as it did. -/
def fnExactEncodeLocalUptoRow : OpenClaim := { program := "ytipmfebnjmobfaadoor", sum := "d5dc850d15ddd617bcdc7165a82b4d604a9b853fed94e76f9b2ecd7b9502a0a9", func := "loop.example/g00294/laws.FnExactEncodeLocal", spec := "fnExactEncodeLocal", unfollowed := true, recurses := true, named := ["loop.example/g00294/impl.remainders"], apart := false, laid := [("loop.example/g00294/impl.remainders", laid_loop_example_g00294_impl_remainders)], narrowed := true }
def FnExactEncodeLocalUptoSaid : Prop := fnExactEncodeLocalUptoRow.holds Tryd.pinned (OpenSpec.upto fnExactEncodeLocalSpec)

/-- 'laws.FnExactMendLocal', WHERE WHAT IT READS IS OF BULK AT MOST 1048576: true; the input reads as it did. -/
def fnExactMendLocalUptoRow : OpenClaim := { program := "ytipmfebnjmobfaadoor", sum := "d5dc850d15ddd617bcdc7165a82b4d604a9b853fed94e76f9b2ecd7b9502a0a9", func := "loop.example/g00294/laws.FnExactMendLocal", spec := "fnExactMendLocal", inPlace := ["internal/bytealg.MakeNoZero"], recurses := true, named := ["loop.example/g00294/impl.remainders"], apart := false, laid := [("loop.example/g00294/impl.remainders", laid_loop_example_g00294_impl_remainders)], narrowed := true }
def FnExactMendLocalUptoSaid : Prop := fnExactMendLocalUptoRow.holds Tryd.pinned (OpenSpec.upto fnExactMendLocalSpec)

/-- 'laws.FnExactCanDecode', WHERE WHAT IT READS IS OF BULK AT MOST 1048576: true; the input reads as it did. -/
def fnExactCanDecodeUptoRow : OpenClaim := { program := "ytipmfebnjmobfaadoor", sum := "d5dc850d15ddd617bcdc7165a82b4d604a9b853fed94e76f9b2ecd7b9502a0a9", func := "loop.example/g00294/laws.FnExactCanDecode", spec := "fnExactCanDecode", unfollowed := true, recurses := true, named := ["loop.example/g00294/impl.remainders"], apart := false, laid := [("loop.example/g00294/impl.remainders", laid_loop_example_g00294_impl_remainders)], narrowed := true }
def FnExactCanDecodeUptoSaid : Prop := fnExactCanDecodeUptoRow.holds Tryd.pinned (OpenSpec.upto fnExactCanDecodeSpec)

end Rows
end Go.Proofs.YtipmfebnjmobfaaDoor
