/-
  No cell of these rows narrows 'for every input' (looked for: loops, veiled, ifaces, maps, wideKeys, modest, calm, conditions, laid).
  DERIVED. THE GIVEN ROWS OF THIS SEAT. 10 by the template 'for every input the law returns true; each argument reads behind the call as it read before'; 0 by the template 'total and deterministic' (their statements: YtjgmegfbfjmnfaaTotals.lean).
  GIVEN WITH THE SEED: the statements are not yours to turn. If you find one false, say at which input.
  Laid BY PROGRAM, IN A SANDBOX (cutbox-rows.mjs): the forced cells as the released guide's own fill.sh prints them over the translation 4ee7d12225686c8c… (all of the seat's roots in one cut). By AI agents, Wed Nov 11 2026. No macro, syntax, notation, axiom, sorry.
-/
import Derived.Test.YtjgmegfbfjmnfaaChecked
import GoSem.Claim
import GoSem.ClaimJoined
import GoSem.ClaimMapViews
import Derived.JoinedTies
import Derived.KernelRfl
namespace Go.Proofs.Ytjgmegfbfjmnfaa
/- THE CELL 'sum', in the pinned program and in every row, IS THE sha256 OF THE DUMP (.gsa) THAT YtjgmegfbfjmnfaaProg.lean LOADS. Nothing in Lean hashes anything: it is a label: what it is worth is what the hold of that sum in a sandbox is worth. -/
noncomputable def Try.pinned : Pinned := { name := "ytjgmegfbfjmnfaa", sum := "4ee7d12225686c8ccb5b4b5b475766886f173724ffdf19fde3edca353b980ab8", checked := Try.checked }
namespace Rows
def none {H : Type} : Left H := { results := [], args := [] }

/-- 'laws.FnViterbi': WHATEVER THE INPUT: true; the input reads as it did. -/
def fnViterbiSpec : ChangeSpec := { name := "fnViterbi", fn := fun _ => fun
  | [d1, d2] => { results := [.lit (.bool true)], args := [d1, d2] }
  | _ => none }
def fnViterbiRow : OpenClaim := { program := "ytjgmegfbfjmnfaa", sum := "4ee7d12225686c8ccb5b4b5b475766886f173724ffdf19fde3edca353b980ab8", func := "loop.example/g00294/laws.FnViterbi", spec := "fnViterbi", apart := false }
def FnViterbiSaid : Prop := fnViterbiRow.holds Try.pinned (OpenSpec.ofChange fnViterbiSpec)

/-- ITS FALSE NEIGHBOUR: 'it returns false'. Refute it at one input. -/
def fnViterbiWrong : ChangeSpec := { name := "fnViterbi", fn := fun _ => fun
  | [d1, d2] => { results := [.lit (.bool false)], args := [d1, d2] }
  | _ => none }
def FnViterbiWrongFalsely : Prop := fnViterbiRow.holds Try.pinned (OpenSpec.ofChange fnViterbiWrong)

/-- 'laws.FnFree': WHATEVER THE INPUT: true; the input reads as it did. -/
def fnFreeSpec : ChangeSpec := { name := "fnFree", fn := fun _ => fun
  | [d1, d2] => { results := [.lit (.bool true)], args := [d1, d2] }
  | _ => none }
def fnFreeRow : OpenClaim := { program := "ytjgmegfbfjmnfaa", sum := "4ee7d12225686c8ccb5b4b5b475766886f173724ffdf19fde3edca353b980ab8", func := "loop.example/g00294/laws.FnFree", spec := "fnFree", apart := false }
def FnFreeSaid : Prop := fnFreeRow.holds Try.pinned (OpenSpec.ofChange fnFreeSpec)

/-- ITS FALSE NEIGHBOUR: 'it returns false'. Refute it at one input. -/
def fnFreeWrong : ChangeSpec := { name := "fnFree", fn := fun _ => fun
  | [d1, d2] => { results := [.lit (.bool false)], args := [d1, d2] }
  | _ => none }
def FnFreeWrongFalsely : Prop := fnFreeRow.holds Try.pinned (OpenSpec.ofChange fnFreeWrong)

/-- 'laws.FnExactEncodeBits': WHATEVER THE INPUT: true; the input reads as it did. -/
def fnExactEncodeBitsSpec : ChangeSpec := { name := "fnExactEncodeBits", fn := fun _ => fun
  | [d] => { results := [.lit (.bool true)], args := [d] }
  | _ => none }
def fnExactEncodeBitsRow : OpenClaim := { program := "ytjgmegfbfjmnfaa", sum := "4ee7d12225686c8ccb5b4b5b475766886f173724ffdf19fde3edca353b980ab8", func := "loop.example/g00294/laws.FnExactEncodeBits", spec := "fnExactEncodeBits", apart := false }
def FnExactEncodeBitsSaid : Prop := fnExactEncodeBitsRow.holds Try.pinned (OpenSpec.ofChange fnExactEncodeBitsSpec)

/-- ITS FALSE NEIGHBOUR: 'it returns false'. Refute it at one input. -/
def fnExactEncodeBitsWrong : ChangeSpec := { name := "fnExactEncodeBits", fn := fun _ => fun
  | [d] => { results := [.lit (.bool false)], args := [d] }
  | _ => none }
def FnExactEncodeBitsWrongFalsely : Prop := fnExactEncodeBitsRow.holds Try.pinned (OpenSpec.ofChange fnExactEncodeBitsWrong)

/-- 'laws.FnExactOutputsAt': WHATEVER THE INPUT: true; the input reads as it did. -/
def fnExactOutputsAtSpec : ChangeSpec := { name := "fnExactOutputsAt", fn := fun _ => fun
  | [d1, d2] => { results := [.lit (.bool true)], args := [d1, d2] }
  | _ => none }
def fnExactOutputsAtRow : OpenClaim := { program := "ytjgmegfbfjmnfaa", sum := "4ee7d12225686c8ccb5b4b5b475766886f173724ffdf19fde3edca353b980ab8", func := "loop.example/g00294/laws.FnExactOutputsAt", spec := "fnExactOutputsAt", apart := false }
def FnExactOutputsAtSaid : Prop := fnExactOutputsAtRow.holds Try.pinned (OpenSpec.ofChange fnExactOutputsAtSpec)

/-- ITS FALSE NEIGHBOUR: 'it returns false'. Refute it at one input. -/
def fnExactOutputsAtWrong : ChangeSpec := { name := "fnExactOutputsAt", fn := fun _ => fun
  | [d1, d2] => { results := [.lit (.bool false)], args := [d1, d2] }
  | _ => none }
def FnExactOutputsAtWrongFalsely : Prop := fnExactOutputsAtRow.holds Try.pinned (OpenSpec.ofChange fnExactOutputsAtWrong)

/-- 'laws.FnExactDistanceBits': WHATEVER THE INPUT: true; the input reads as it did. -/
def fnExactDistanceBitsSpec : ChangeSpec := { name := "fnExactDistanceBits", fn := fun _ => fun
  | [d1, d2] => { results := [.lit (.bool true)], args := [d1, d2] }
  | _ => none }
def fnExactDistanceBitsRow : OpenClaim := { program := "ytjgmegfbfjmnfaa", sum := "4ee7d12225686c8ccb5b4b5b475766886f173724ffdf19fde3edca353b980ab8", func := "loop.example/g00294/laws.FnExactDistanceBits", spec := "fnExactDistanceBits", apart := false }
def FnExactDistanceBitsSaid : Prop := fnExactDistanceBitsRow.holds Try.pinned (OpenSpec.ofChange fnExactDistanceBitsSpec)

/-- ITS FALSE NEIGHBOUR: 'it returns false'. Refute it at one input. -/
def fnExactDistanceBitsWrong : ChangeSpec := { name := "fnExactDistanceBits", fn := fun _ => fun
  | [d1, d2] => { results := [.lit (.bool false)], args := [d1, d2] }
  | _ => none }
def FnExactDistanceBitsWrongFalsely : Prop := fnExactDistanceBitsRow.holds Try.pinned (OpenSpec.ofChange fnExactDistanceBitsWrong)

/-- 'laws.FnExactDecodeBits': WHATEVER THE INPUT: true; the input reads as it did. -/
def fnExactDecodeBitsSpec : ChangeSpec := { name := "fnExactDecodeBits", fn := fun _ => fun
  | [d] => { results := [.lit (.bool true)], args := [d] }
  | _ => none }
def fnExactDecodeBitsRow : OpenClaim := { program := "ytjgmegfbfjmnfaa", sum := "4ee7d12225686c8ccb5b4b5b475766886f173724ffdf19fde3edca353b980ab8", func := "loop.example/g00294/laws.FnExactDecodeBits", spec := "fnExactDecodeBits", apart := false }
def FnExactDecodeBitsSaid : Prop := fnExactDecodeBitsRow.holds Try.pinned (OpenSpec.ofChange fnExactDecodeBitsSpec)

/-- ITS FALSE NEIGHBOUR: 'it returns false'. Refute it at one input. -/
def fnExactDecodeBitsWrong : ChangeSpec := { name := "fnExactDecodeBits", fn := fun _ => fun
  | [d] => { results := [.lit (.bool false)], args := [d] }
  | _ => none }
def FnExactDecodeBitsWrongFalsely : Prop := fnExactDecodeBitsRow.holds Try.pinned (OpenSpec.ofChange fnExactDecodeBitsWrong)

/-- 'laws.FnExactBestPaths': WHATEVER THE INPUT: true; the input reads as it did. -/
def fnExactBestPathsSpec : ChangeSpec := { name := "fnExactBestPaths", fn := fun _ => fun
  | [d] => { results := [.lit (.bool true)], args := [d] }
  | _ => none }
def fnExactBestPathsRow : OpenClaim := { program := "ytjgmegfbfjmnfaa", sum := "4ee7d12225686c8ccb5b4b5b475766886f173724ffdf19fde3edca353b980ab8", func := "loop.example/g00294/laws.FnExactBestPaths", spec := "fnExactBestPaths", apart := false }
def FnExactBestPathsSaid : Prop := fnExactBestPathsRow.holds Try.pinned (OpenSpec.ofChange fnExactBestPathsSpec)

/-- ITS FALSE NEIGHBOUR: 'it returns false'. Refute it at one input. -/
def fnExactBestPathsWrong : ChangeSpec := { name := "fnExactBestPaths", fn := fun _ => fun
  | [d] => { results := [.lit (.bool false)], args := [d] }
  | _ => none }
def FnExactBestPathsWrongFalsely : Prop := fnExactBestPathsRow.holds Try.pinned (OpenSpec.ofChange fnExactBestPathsWrong)

/-- 'laws.FnExactCostOf': WHATEVER THE INPUT: true; the input reads as it did. -/
def fnExactCostOfSpec : ChangeSpec := { name := "fnExactCostOf", fn := fun _ => fun
  | [d1, d2] => { results := [.lit (.bool true)], args := [d1, d2] }
  | _ => none }
def fnExactCostOfRow : OpenClaim := { program := "ytjgmegfbfjmnfaa", sum := "4ee7d12225686c8ccb5b4b5b475766886f173724ffdf19fde3edca353b980ab8", func := "loop.example/g00294/laws.FnExactCostOf", spec := "fnExactCostOf", apart := false }
def FnExactCostOfSaid : Prop := fnExactCostOfRow.holds Try.pinned (OpenSpec.ofChange fnExactCostOfSpec)

/-- ITS FALSE NEIGHBOUR: 'it returns false'. Refute it at one input. -/
def fnExactCostOfWrong : ChangeSpec := { name := "fnExactCostOf", fn := fun _ => fun
  | [d1, d2] => { results := [.lit (.bool false)], args := [d1, d2] }
  | _ => none }
def FnExactCostOfWrongFalsely : Prop := fnExactCostOfRow.holds Try.pinned (OpenSpec.ofChange fnExactCostOfWrong)

/-- 'laws.FnExactFlipBits': WHATEVER THE INPUT: true; the input reads as it did. -/
def fnExactFlipBitsSpec : ChangeSpec := { name := "fnExactFlipBits", fn := fun _ => fun
  | [d1, d2] => { results := [.lit (.bool true)], args := [d1, d2] }
  | _ => none }
def fnExactFlipBitsRow : OpenClaim := { program := "ytjgmegfbfjmnfaa", sum := "4ee7d12225686c8ccb5b4b5b475766886f173724ffdf19fde3edca353b980ab8", func := "loop.example/g00294/laws.FnExactFlipBits", spec := "fnExactFlipBits", apart := false }
def FnExactFlipBitsSaid : Prop := fnExactFlipBitsRow.holds Try.pinned (OpenSpec.ofChange fnExactFlipBitsSpec)

/-- ITS FALSE NEIGHBOUR: 'it returns false'. Refute it at one input. -/
def fnExactFlipBitsWrong : ChangeSpec := { name := "fnExactFlipBits", fn := fun _ => fun
  | [d1, d2] => { results := [.lit (.bool false)], args := [d1, d2] }
  | _ => none }
def FnExactFlipBitsWrongFalsely : Prop := fnExactFlipBitsRow.holds Try.pinned (OpenSpec.ofChange fnExactFlipBitsWrong)

/-- 'laws.FnExactDistanceOf': WHATEVER THE INPUT: true; the input reads as it did. -/
def fnExactDistanceOfSpec : ChangeSpec := { name := "fnExactDistanceOf", fn := fun _ => fun
  | [d1, d2] => { results := [.lit (.bool true)], args := [d1, d2] }
  | _ => none }
def fnExactDistanceOfRow : OpenClaim := { program := "ytjgmegfbfjmnfaa", sum := "4ee7d12225686c8ccb5b4b5b475766886f173724ffdf19fde3edca353b980ab8", func := "loop.example/g00294/laws.FnExactDistanceOf", spec := "fnExactDistanceOf", apart := false }
def FnExactDistanceOfSaid : Prop := fnExactDistanceOfRow.holds Try.pinned (OpenSpec.ofChange fnExactDistanceOfSpec)

/-- ITS FALSE NEIGHBOUR: 'it returns false'. Refute it at one input. -/
def fnExactDistanceOfWrong : ChangeSpec := { name := "fnExactDistanceOf", fn := fun _ => fun
  | [d1, d2] => { results := [.lit (.bool false)], args := [d1, d2] }
  | _ => none }
def FnExactDistanceOfWrongFalsely : Prop := fnExactDistanceOfRow.holds Try.pinned (OpenSpec.ofChange fnExactDistanceOfWrong)

/- THE SECOND FORM. 'bulk': how many values and letters a reading holds, each counted each time it is reached (what is shared counts as often as it is met; a slice's spare places count too). A statement '..UptoSaid' is the law's where the arguments, and the package variables that the reading takes, are together of bulk at most 1048576: NARROWER than '..Said'. Prove '..Said' where nothing that the law and all that it calls make is longer than what came in: it says more and counts as full. Else prove '..UptoSaid'. A law counts once. -/
mutual
def uptoBulk {H : Type} : DataW H → Nat
  | .lit (.string bytes) => bytes.length + 1
  | .lit _ => 1
  | .nil => 1
  | .ptr d => uptoBulk d + 1
  | .slice elems spare => uptoBulkAll elems + uptoBulkAll spare + 1
  | .agg parts => uptoBulkAll parts + 1
  | .iface _ d => uptoBulk d + 1
  | .map entries => uptoBulkEntries entries + 1
  | .held _ => 1
def uptoBulkAll {H : Type} : List (DataW H) → Nat
  | [] => 0
  | d :: r => uptoBulk d + uptoBulkAll r
def uptoBulkEntries {H : Type} : List (Lit × DataW H) → Nat
  | [] => 0
  | x :: r => uptoBulkEntry x + uptoBulkEntries r
def uptoBulkEntry {H : Type} : Lit × DataW H → Nat
  | (.string bytes, d) => bytes.length + uptoBulk d + 1
  | (_, d) => uptoBulk d + 1
 end
def uptoSmall : (H : Type) → List (DataW H) → Bool := fun _ ds => decide (uptoBulkAll ds ≤ 1048576)
def OpenSpec.upto (s : _root_.Go.ChangeSpec) : _root_.Go.OpenSpec := { _root_.Go.OpenSpec.ofChange s with cond := some uptoSmall }

/-- 'laws.FnViterbi', WHERE WHAT IT READS IS OF BULK AT MOST 1048576: true; the input reads as it did. -/
def fnViterbiUptoRow : OpenClaim := { program := "ytjgmegfbfjmnfaa", sum := "4ee7d12225686c8ccb5b4b5b475766886f173724ffdf19fde3edca353b980ab8", func := "loop.example/g00294/laws.FnViterbi", spec := "fnViterbi", apart := false, narrowed := true }
def FnViterbiUptoSaid : Prop := fnViterbiUptoRow.holds Try.pinned (OpenSpec.upto fnViterbiSpec)

/-- 'laws.FnFree', WHERE WHAT IT READS IS OF BULK AT MOST 1048576: true; the input reads as it did. -/
def fnFreeUptoRow : OpenClaim := { program := "ytjgmegfbfjmnfaa", sum := "4ee7d12225686c8ccb5b4b5b475766886f173724ffdf19fde3edca353b980ab8", func := "loop.example/g00294/laws.FnFree", spec := "fnFree", apart := false, narrowed := true }
def FnFreeUptoSaid : Prop := fnFreeUptoRow.holds Try.pinned (OpenSpec.upto fnFreeSpec)

/-- 'laws.FnExactEncodeBits', WHERE WHAT IT READS IS OF BULK AT MOST 1048576: true; the input reads as it did. -/
def fnExactEncodeBitsUptoRow : OpenClaim := { program := "ytjgmegfbfjmnfaa", sum := "4ee7d12225686c8ccb5b4b5b475766886f173724ffdf19fde3edca353b980ab8", func := "loop.example/g00294/laws.FnExactEncodeBits", spec := "fnExactEncodeBits", apart := false, narrowed := true }
def FnExactEncodeBitsUptoSaid : Prop := fnExactEncodeBitsUptoRow.holds Try.pinned (OpenSpec.upto fnExactEncodeBitsSpec)

/-- 'laws.FnExactOutputsAt', WHERE WHAT IT READS IS OF BULK AT MOST 1048576: true; the input reads as it did. -/
def fnExactOutputsAtUptoRow : OpenClaim := { program := "ytjgmegfbfjmnfaa", sum := "4ee7d12225686c8ccb5b4b5b475766886f173724ffdf19fde3edca353b980ab8", func := "loop.example/g00294/laws.FnExactOutputsAt", spec := "fnExactOutputsAt", apart := false, narrowed := true }
def FnExactOutputsAtUptoSaid : Prop := fnExactOutputsAtUptoRow.holds Try.pinned (OpenSpec.upto fnExactOutputsAtSpec)

/-- 'laws.FnExactDistanceBits', WHERE WHAT IT READS IS OF BULK AT MOST 1048576: true; the input reads as it did. -/
def fnExactDistanceBitsUptoRow : OpenClaim := { program := "ytjgmegfbfjmnfaa", sum := "4ee7d12225686c8ccb5b4b5b475766886f173724ffdf19fde3edca353b980ab8", func := "loop.example/g00294/laws.FnExactDistanceBits", spec := "fnExactDistanceBits", apart := false, narrowed := true }
def FnExactDistanceBitsUptoSaid : Prop := fnExactDistanceBitsUptoRow.holds Try.pinned (OpenSpec.upto fnExactDistanceBitsSpec)

/-- 'laws.FnExactDecodeBits', WHERE WHAT IT READS IS OF BULK AT MOST 1048576: true; the input reads as it did. -/
def fnExactDecodeBitsUptoRow : OpenClaim := { program := "ytjgmegfbfjmnfaa", sum := "4ee7d12225686c8ccb5b4b5b475766886f173724ffdf19fde3edca353b980ab8", func := "loop.example/g00294/laws.FnExactDecodeBits", spec := "fnExactDecodeBits", apart := false, narrowed := true }
def FnExactDecodeBitsUptoSaid : Prop := fnExactDecodeBitsUptoRow.holds Try.pinned (OpenSpec.upto fnExactDecodeBitsSpec)

/-- 'laws.FnExactBestPaths', WHERE WHAT IT READS IS OF BULK AT MOST 1048576: true; the input reads as it did. -/
def fnExactBestPathsUptoRow : OpenClaim := { program := "ytjgmegfbfjmnfaa", sum := "4ee7d12225686c8ccb5b4b5b475766886f173724ffdf19fde3edca353b980ab8", func := "loop.example/g00294/laws.FnExactBestPaths", spec := "fnExactBestPaths", apart := false, narrowed := true }
def FnExactBestPathsUptoSaid : Prop := fnExactBestPathsUptoRow.holds Try.pinned (OpenSpec.upto fnExactBestPathsSpec)

/-- 'laws.FnExactCostOf', WHERE WHAT IT READS IS OF BULK AT MOST 1048576: true; the input reads as it did. -/
def fnExactCostOfUptoRow : OpenClaim := { program := "ytjgmegfbfjmnfaa", sum := "4ee7d12225686c8ccb5b4b5b475766886f173724ffdf19fde3edca353b980ab8", func := "loop.example/g00294/laws.FnExactCostOf", spec := "fnExactCostOf", apart := false, narrowed := true }
def FnExactCostOfUptoSaid : Prop := fnExactCostOfUptoRow.holds Try.pinned (OpenSpec.upto fnExactCostOfSpec)

/-- 'laws.FnExactFlipBits', WHERE WHAT IT READS IS OF BULK AT MOST 1048576: true; the input reads as it did. -/
def fnExactFlipBitsUptoRow : OpenClaim := { program := "ytjgmegfbfjmnfaa", sum := "4ee7d12225686c8ccb5b4b5b475766886f173724ffdf19fde3edca353b980ab8", func := "loop.example/g00294/laws.FnExactFlipBits", spec := "fnExactFlipBits", apart := false, narrowed := true }
def FnExactFlipBitsUptoSaid : Prop := fnExactFlipBitsUptoRow.holds Try.pinned (OpenSpec.upto fnExactFlipBitsSpec)

/-- 'laws.FnExactDistanceOf', WHERE WHAT IT READS IS OF BULK AT MOST 1048576: true; the input reads as it did. -/
def fnExactDistanceOfUptoRow : OpenClaim := { program := "ytjgmegfbfjmnfaa", sum := "4ee7d12225686c8ccb5b4b5b475766886f173724ffdf19fde3edca353b980ab8", func := "loop.example/g00294/laws.FnExactDistanceOf", spec := "fnExactDistanceOf", apart := false, narrowed := true }
def FnExactDistanceOfUptoSaid : Prop := fnExactDistanceOfUptoRow.holds Try.pinned (OpenSpec.upto fnExactDistanceOfSpec)

end Rows
end Go.Proofs.Ytjgmegfbfjmnfaa
