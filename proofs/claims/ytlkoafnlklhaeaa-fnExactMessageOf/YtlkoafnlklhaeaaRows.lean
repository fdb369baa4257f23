/-
  No cell of these rows narrows 'for every input' (looked for: loops, veiled, ifaces, maps, wideKeys, modest, calm, conditions, laid).
  DERIVED. THE GIVEN ROWS OF THIS SEAT. 3 by the template 'for every input the law returns true; each argument reads behind the call as it read before'; 0 by the template 'total and deterministic' (their statements: YtlkoafnlklhaeaaTotals.lean).
  GIVEN WITH THE SEED: the statements are not yours to turn. If you find one false, say at which input.
  Laid BY PROGRAM, IN A SANDBOX (cutbox-rows.mjs): the forced cells as the released guide's own fill.sh prints them over the translation fc28ebd32a08d92d… (all of the seat's roots in one cut). By AI agents, Wed Nov 11 2026. No macro, syntax, notation, axiom, sorry.
-/
import Derived.Test.YtlkoafnlklhaeaaChecked
import GoSem.Claim
import GoSem.ClaimJoined
import GoSem.ClaimMapViews
import Derived.JoinedTies
import Derived.KernelRfl
namespace Go.Proofs.Ytlkoafnlklhaeaa
/- THE CELL 'sum', in the pinned program and in every row, IS THE sha256 OF THE DUMP (.gsa) THAT YtlkoafnlklhaeaaProg.lean LOADS. Nothing in Lean hashes anything: it is a label: what it is worth is what the hold of that sum in a sandbox is worth. -/
noncomputable def Try.pinned : Pinned := { name := "ytlkoafnlklhaeaa", sum := "fc28ebd32a08d92d37dfbeb31f02c1bb9bac1bd1acb8fbb865756bfa5dfcbf1f", checked := Try.checked }
namespace Rows
def none {H : Type} : Left H := { results := [], args := [] }

/-- 'laws.FnExactGoodMsr': WHATEVER THE INPUT: true; the input reads as it did. -/
def fnExactGoodMsrSpec : ChangeSpec := { name := "fnExactGoodMsr", fn := fun _ => fun
  | [d] => { results := [.lit (.bool true)], args := [d] }
  | _ => none }
def fnExactGoodMsrRow : OpenClaim := { program := "ytlkoafnlklhaeaa", sum := "fc28ebd32a08d92d37dfbeb31f02c1bb9bac1bd1acb8fbb865756bfa5dfcbf1f", func := "loop.example/g00294/laws.FnExactGoodMsr", spec := "fnExactGoodMsr", apart := false }
def FnExactGoodMsrSaid : Prop := fnExactGoodMsrRow.holds Try.pinned (OpenSpec.ofChange fnExactGoodMsrSpec)

/-- ITS FALSE NEIGHBOUR: 'it returns false'. Refute it at one input. -/
def fnExactGoodMsrWrong : ChangeSpec := { name := "fnExactGoodMsr", fn := fun _ => fun
  | [d] => { results := [.lit (.bool false)], args := [d] }
  | _ => none }
def FnExactGoodMsrWrongFalsely : Prop := fnExactGoodMsrRow.holds Try.pinned (OpenSpec.ofChange fnExactGoodMsrWrong)

/-- 'laws.FnExactMsrSizes': WHATEVER THE INPUT: true; the input reads as it did. -/
def fnExactMsrSizesSpec : ChangeSpec := { name := "fnExactMsrSizes", fn := fun _ => fun
  | [d] => { results := [.lit (.bool true)], args := [d] }
  | _ => none }
def fnExactMsrSizesRow : OpenClaim := { program := "ytlkoafnlklhaeaa", sum := "fc28ebd32a08d92d37dfbeb31f02c1bb9bac1bd1acb8fbb865756bfa5dfcbf1f", func := "loop.example/g00294/laws.FnExactMsrSizes", spec := "fnExactMsrSizes", apart := false }
def FnExactMsrSizesSaid : Prop := fnExactMsrSizesRow.holds Try.pinned (OpenSpec.ofChange fnExactMsrSizesSpec)

/-- ITS FALSE NEIGHBOUR: 'it returns false'. Refute it at one input. -/
def fnExactMsrSizesWrong : ChangeSpec := { name := "fnExactMsrSizes", fn := fun _ => fun
  | [d] => { results := [.lit (.bool false)], args := [d] }
  | _ => none }
def FnExactMsrSizesWrongFalsely : Prop := fnExactMsrSizesRow.holds Try.pinned (OpenSpec.ofChange fnExactMsrSizesWrong)

/-- 'laws.FnExactMessageOf': WHATEVER THE INPUT: true; the input reads as it did. -/
def fnExactMessageOfSpec : ChangeSpec := { name := "fnExactMessageOf", fn := fun _ => fun
  | [d1, d2] => { results := [.lit (.bool true)], args := [d1, d2] }
  | _ => none }
def fnExactMessageOfRow : OpenClaim := { program := "ytlkoafnlklhaeaa", sum := "fc28ebd32a08d92d37dfbeb31f02c1bb9bac1bd1acb8fbb865756bfa5dfcbf1f", func := "loop.example/g00294/laws.FnExactMessageOf", spec := "fnExactMessageOf", unfollowed := true, recurses := true, apart := false }
def FnExactMessageOfSaid : Prop := fnExactMessageOfRow.holds Try.pinned (OpenSpec.ofChange fnExactMessageOfSpec)

/-- ITS FALSE NEIGHBOUR: 'it returns false'. Refute it at one input. -/
def fnExactMessageOfWrong : ChangeSpec := { name := "fnExactMessageOf", fn := fun _ => fun
  | [d1, d2] => { results := [.lit (.bool false)], args := [d1, d2] }
  | _ => none }
def FnExactMessageOfWrongFalsely : Prop := fnExactMessageOfRow.holds Try.pinned (OpenSpec.ofChange fnExactMessageOfWrong)

/- THE SECOND FORM. 'bulk': how many values and letters a reading holds, each counted each time it is reached (what is shared counts as often as it is met; a slice's spare places count too). A statement '..UptoSaid' is the law's where the arguments, and the package variables that the reading takes, are together of bulk at most 1048576: NARROWER than '..Said'. Prove '..Said' where nothing that the law and all that it calls make is longer than what came in: it says more and counts as full. Else prove '..UptoSaid'. A law counts once. -/
mutual
def uptoBulk {H : Type} : DataW H → Nat
  | .lit (.string bytes) => bytes.length + 1
  | .lit _ => 1
  | .nil => 1
  | .ptr d => uptoBulk d + 1
  | .slice elems spare => uptoBulkAll elems + uptoBulkAll spare + 1
  | .agg parts => uptoBulkAll parts + 1
  | .iface _ d => uptoBulk d + 1
  | .map entries => uptoBulkEntries entries + 1
  | .held _ => 1
def uptoBulkAll {H : Type} : List (DataW H) → Nat
  | [] => 0
  | d :: r => uptoBulk d + uptoBulkAll r
def uptoBulkEntries {H : Type} : List (Lit × DataW H) → Nat
  | [] => 0
  | x :: r => uptoBulkEntry x + uptoBulkEntries r
def uptoBulkEntry {H : Type} : Lit × DataW H → Nat
  | (.string bytes, d) => bytes.length + uptoBulk d + 1
  | (_, d) => uptoBulk d + 1
 end
def uptoSmall : (H : Type) → List (DataW H) → Bool := fun _ ds => decide (uptoBulkAll ds ≤ 1048576)
def OpenSpec.upto (s : _root_.Go.ChangeSpec) : _root_.Go.OpenSpec := { _root_.Go.OpenSpec.ofChange s with cond := some uptoSmall }

/-- 'laws.FnExactGoodMsr', WHERE WHAT IT READS IS OF BULK AT MOST 1048576: true; the input reads as it did. -/
def fnExactGoodMsrUptoRow : OpenClaim := { program := "ytlkoafnlklhaeaa", sum := "fc28ebd32a08d92d37dfbeb31f02c1bb9bac1bd1acb8fbb865756bfa5dfcbf1f", func := "loop.example/g00294/laws.FnExactGoodMsr", spec := "fnExactGoodMsr", apart := false, narrowed := true }
def FnExactGoodMsrUptoSaid : Prop := fnExactGoodMsrUptoRow.holds Try.pinned (OpenSpec.upto fnExactGoodMsrSpec)

/-- 'laws.FnExactMsrSizes', WHERE WHAT IT READS IS OF BULK AT MOST 1048576: true; the input reads as it did. -/
def fnExactMsrSizesUptoRow : OpenClaim := { program := "ytlkoafnlklhaeaa", sum := "fc28ebd32a08d92d37dfbeb31f02c1bb9bac1bd1acb8fbb865756bfa5dfcbf1f", func := "loop.example/g00294/laws.FnExactMsrSizes", spec := "fnExactMsrSizes", apart := false, narrowed := true }
def FnExactMsrSizesUptoSaid : Prop := fnExactMsrSizesUptoRow.holds Try.pinned (OpenSpec.upto fnExactMsrSizesSpec)

/-- 'laws.FnExactMessageOf', WHERE WHAT IT READS IS OF BULK AT MOST 1048576: true; the input reads as it did. -/
def fnExactMessageOfUptoRow : OpenClaim := { program := "ytlkoafnlklhaeaa", sum := "fc28ebd32a08d92d37dfbeb31f02c1bb9bac1bd1acb8fbb865756bfa5dfcbf1f", func := "loop.example/g00294/laws.FnExactMessageOf", spec := "fnExactMessageOf", unfollowed := true, recurses := true, apart := false, narrowed := true }
def FnExactMessageOfUptoSaid : Prop := fnExactMessageOfUptoRow.holds Try.pinned (OpenSpec.upto fnExactMessageOfSpec)

end Rows
end Go.Proofs.Ytlkoafnlklhaeaa
