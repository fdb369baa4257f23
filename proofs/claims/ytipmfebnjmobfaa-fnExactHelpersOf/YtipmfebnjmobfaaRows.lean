/-
  No cell of these rows narrows 'for every input' (looked for: loops, veiled, ifaces, maps, wideKeys, modest, calm, conditions, laid).
  DERIVED. THE GIVEN ROWS OF THIS SEAT. 3 by the template 'for every input the law returns true; each argument reads behind the call as it read before'; 0 by the template 'total and deterministic' (their statements: YtipmfebnjmobfaaTotals.lean).
  GIVEN WITH THE SEED: the statements are not yours to turn. If you find one false, say at which input.
  Laid BY PROGRAM, IN A SANDBOX (cutbox-rows.mjs): the forced cells as the released guide's own fill.sh prints them over the translation 42a621f46dadf17b… (all of the seat's roots in one cut). By AI agents, Wed Nov 11 2026. No macro, syntax, notation, axiom, sorry.
-/
import Derived.Test.YtipmfebnjmobfaaChecked
import GoSem.Claim
import GoSem.ClaimJoined
import GoSem.ClaimMapViews
import Derived.JoinedTies
import Derived.KernelRfl
namespace Go.Proofs.Ytipmfebnjmobfaa
/- THE CELL 'sum', in the pinned program and in every row, IS THE sha256 OF THE DUMP (.gsa) THAT YtipmfebnjmobfaaProg.lean LOADS. Nothing in Lean hashes anything: it is a label: what it is worth is what the hold of that sum in a sandbox is worth. -/
noncomputable def Try.pinned : Pinned := { name := "ytipmfebnjmobfaa", sum := "42a621f46dadf17b91e82e4dcc5bee9c0f00954576c55e7415c8a0cfce072721", checked := Try.checked }
namespace Rows
def none {H : Type} : Left H := { results := [], args := [] }

/-- 'laws.FnExactGoodLocal': WHATEVER THE INPUT: true; the input reads as it did. -/
def fnExactGoodLocalSpec : ChangeSpec := { name := "fnExactGoodLocal", fn := fun _ => fun
  | [d] => { results := [.lit (.bool true)], args := [d] }
  | _ => none }
def fnExactGoodLocalRow : OpenClaim := { program := "ytipmfebnjmobfaa", sum := "42a621f46dadf17b91e82e4dcc5bee9c0f00954576c55e7415c8a0cfce072721", func := "loop.example/g00294/laws.FnExactGoodLocal", spec := "fnExactGoodLocal", apart := false }
def FnExactGoodLocalSaid : Prop := fnExactGoodLocalRow.holds Try.pinned (OpenSpec.ofChange fnExactGoodLocalSpec)

/-- ITS FALSE NEIGHBOUR: 'it returns false'. Refute it at one input. -/
def fnExactGoodLocalWrong : ChangeSpec := { name := "fnExactGoodLocal", fn := fun _ => fun
  | [d] => { results := [.lit (.bool false)], args := [d] }
  | _ => none }
def FnExactGoodLocalWrongFalsely : Prop := fnExactGoodLocalRow.holds Try.pinned (OpenSpec.ofChange fnExactGoodLocalWrong)

/-- 'laws.FnExactGroupOf': WHATEVER THE INPUT: true; the input reads as it did. -/
def fnExactGroupOfSpec : ChangeSpec := { name := "fnExactGroupOf", fn := fun _ => fun
  | [d1, d2] => { results := [.lit (.bool true)], args := [d1, d2] }
  | _ => none }
def fnExactGroupOfRow : OpenClaim := { program := "ytipmfebnjmobfaa", sum := "42a621f46dadf17b91e82e4dcc5bee9c0f00954576c55e7415c8a0cfce072721", func := "loop.example/g00294/laws.FnExactGroupOf", spec := "fnExactGroupOf", recurses := true, apart := false }
def FnExactGroupOfSaid : Prop := fnExactGroupOfRow.holds Try.pinned (OpenSpec.ofChange fnExactGroupOfSpec)

/-- ITS FALSE NEIGHBOUR: 'it returns false'. Refute it at one input. -/
def fnExactGroupOfWrong : ChangeSpec := { name := "fnExactGroupOf", fn := fun _ => fun
  | [d1, d2] => { results := [.lit (.bool false)], args := [d1, d2] }
  | _ => none }
def FnExactGroupOfWrongFalsely : Prop := fnExactGroupOfRow.holds Try.pinned (OpenSpec.ofChange fnExactGroupOfWrong)

/-- 'laws.FnExactHelpersOf': WHATEVER THE INPUT: true; the input reads as it did. -/
def fnExactHelpersOfSpec : ChangeSpec := { name := "fnExactHelpersOf", fn := fun _ => fun
  | [d1, d2] => { results := [.lit (.bool true)], args := [d1, d2] }
  | _ => none }
def fnExactHelpersOfRow : OpenClaim := { program := "ytipmfebnjmobfaa", sum := "42a621f46dadf17b91e82e4dcc5bee9c0f00954576c55e7415c8a0cfce072721", func := "loop.example/g00294/laws.FnExactHelpersOf", spec := "fnExactHelpersOf", recurses := true, apart := false }
def FnExactHelpersOfSaid : Prop := fnExactHelpersOfRow.holds Try.pinned (OpenSpec.ofChange fnExactHelpersOfSpec)

/-- ITS FALSE NEIGHBOUR: 'it returns false'. Refute it at one input. -/
def fnExactHelpersOfWrong : ChangeSpec := { name := "fnExactHelpersOf", fn := fun _ => fun
  | [d1, d2] => { results := [.lit (.bool false)], args := [d1, d2] }
  | _ => none }
def FnExactHelpersOfWrongFalsely : Prop := fnExactHelpersOfRow.holds Try.pinned (OpenSpec.ofChange fnExactHelpersOfWrong)

/- THE SECOND FORM. 'bulk': how many values and letters a reading holds, each counted each time it is reached (what is shared counts as often as it is met; a slice's spare places count too). A statement '..UptoSaid' is the law's where the arguments, and the package variables that the reading takes, are together of bulk at most 1048576: NARROWER than '..Said'. Prove '..Said' where nothing that the law and all that it calls make is longer than what came in: it says more and counts as full. Else prove '..UptoSaid'. A law counts once. -/
mutual
def uptoBulk {H : Type} : DataW H → Nat
  | .lit (.string bytes) => bytes.length + 1
  | .lit _ => 1
  | .nil => 1
  | .ptr d => uptoBulk d + 1
  | .slice elems spare => uptoBulkAll elems + uptoBulkAll spare + 1
  | .agg parts => uptoBulkAll parts + 1
  | .iface _ d => uptoBulk d + 1
  | .map entries => uptoBulkEntries entries + 1
  | .held _ => 1
def uptoBulkAll {H : Type} : List (DataW H) → Nat
  | [] => 0
  | d :: r => uptoBulk d + uptoBulkAll r
def uptoBulkEntries {H : Type} : List (Lit × DataW H) → Nat
  | [] => 0
  | x :: r => uptoBulkEntry x + uptoBulkEntries r
def uptoBulkEntry {H : Type} : Lit × DataW H → Nat
  | (.string bytes, d) => bytes.length + uptoBulk d + 1
  | (_, d) => uptoBulk d + 1
 end
def uptoSmall : (H : Type) → List (DataW H) → Bool := fun _ ds => decide (uptoBulkAll ds ≤ 1048576)
def OpenSpec.upto (s : _root_.Go.ChangeSpec) : _root_.Go.OpenSpec := { _root_.Go.OpenSpec.ofChange s with cond := some uptoSmall }

/-- 'laws.FnExactGoodLocal', WHERE WHAT IT READS IS OF BULK AT MOST 1048576: true; the input reads as it did. -/
def fnExactGoodLocalUptoRow : OpenClaim := { program := "ytipmfebnjmobfaa", sum := "42a621f46dadf17b91e82e4dcc5bee9c0f00954576c55e7415c8a0cfce072721", func := "loop.example/g00294/laws.FnExactGoodLocal", spec := "fnExactGoodLocal", apart := false, narrowed := true }
def FnExactGoodLocalUptoSaid : Prop := fnExactGoodLocalUptoRow.holds Try.pinned (OpenSpec.upto fnExactGoodLocalSpec)

/-- 'laws.FnExactGroupOf', WHERE WHAT IT READS IS OF BULK AT MOST 1048576: true; the input reads as it did. -/
def fnExactGroupOfUptoRow : OpenClaim := { program := "ytipmfebnjmobfaa", sum := "42a621f46dadf17b91e82e4dcc5bee9c0f00954576c55e7415c8a0cfce072721", func := "loop.example/g00294/laws.FnExactGroupOf", spec := "fnExactGroupOf", recurses := true, apart := false, narrowed := true }
def FnExactGroupOfUptoSaid : Prop := fnExactGroupOfUptoRow.holds Try.pinned (OpenSpec.upto fnExactGroupOfSpec)

/-- 'laws.FnExactHelpersOf', WHERE WHAT IT READS IS OF BULK AT MOST 1048576: true; the input reads as it did. -/
def fnExactHelpersOfUptoRow : OpenClaim := { program := "ytipmfebnjmobfaa", sum := "42a621f46dadf17b91e82e4dcc5bee9c0f00954576c55e7415c8a0cfce072721", func := "loop.example/g00294/laws.FnExactHelpersOf", spec := "fnExactHelpersOf", recurses := true, apart := false, narrowed := true }
def FnExactHelpersOfUptoSaid : Prop := fnExactHelpersOfUptoRow.holds Try.pinned (OpenSpec.upto fnExactHelpersOfSpec)

end Rows
end Go.Proofs.Ytipmfebnjmobfaa
