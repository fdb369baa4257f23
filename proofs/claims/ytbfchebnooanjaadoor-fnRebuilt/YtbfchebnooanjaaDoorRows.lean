/-
  NARROWER THAN 'FOR EVERY INPUT', by the rows' own cells (each row's printed sentence says how): FnRebuilt: laid · FnExactSolveDrops: laid.
  DERIVED. THE GIVEN ROWS OF THIS SEAT. 2 by the template 'for every input the law returns true; each argument reads behind the call as it read before'; 0 by the template 'total and deterministic' (their statements: YtbfchebnooanjaaDoorTotals.lean).
  GIVEN WITH THE SEED: the statements are not yours to turn. If you find one false, say at which input.
  Laid BY PROGRAM, IN A SANDBOX (cutbox-rows.mjs): the forced cells as the released guide's own fill.sh prints them over the translation d8923dcbc776c0c7… (all of the seat's roots in one cut). By AI agents, Wed Nov 11 2026. No macro, syntax, notation, axiom, sorry.
-/
import Derived.Test.YtbfchebnooanjaaDoorChecked
import GoSem.Claim
import GoSem.ClaimJoined
import GoSem.ClaimMapViews
import Derived.JoinedTies
import Derived.KernelRfl
namespace Go.Proofs.YtbfchebnooanjaaDoor
/- THE CELL 'sum', in the pinned program and in every row, IS THE sha256 OF THE DUMP (.gsa) THAT YtbfchebnooanjaaDoorProg.lean LOADS. Nothing in Lean hashes anything: it is a label: what it is worth is what the hold of that sum in a sandbox is worth. -/
noncomputable def Tryd.pinned : Pinned := { name := "ytbfchebnooanjaadoor", sum := "d8923dcbc776c0c7d37d9b6036969e7f04f948c645a7afbb6996eb7576efda80", checked := Tryd.checked }
namespace Rows
def none {H : Type} : Left H := { results := [], args := [] }

/- WHAT THE LISTED PACKAGE-LEVEL VARIABLES READ AS WHEN THE CALL BEGINS. Each datum BY PROGRAM (the guide's laid-datum.mjs) off the statement by which the dump's own 'gosem.cut.vars' lays the variable. In a bare row this is a premise. The card (YtbfchebnooanjaaDoorCards.lean) ties it to the program's text. -/
def laid_loop_example_g00294_impl_remainders {H : Type} : DataW H := .agg [.lit (.int .u8 27), .lit (.int .u8 54), .lit (.int .u8 108), .lit (.int .u8 216), .lit (.int .u8 171), .lit (.int .u8 77), .lit (.int .u8 154)]

/-- 'laws.FnRebuilt': WHATEVER THE INPUT: true; the input reads as it did. -/
def fnRebuiltSpec : ChangeSpec := { name := "fnRebuilt", vars := ["loop.example/g00294/impl.remainders"], fn := fun _ => fun
  | [d1, d2, g1] => { results := [.lit (.bool true)], args := [d1, d2], vars := [g1] }
  | _ => none }
def fnRebuiltRow : OpenClaim := { program := "ytbfchebnooanjaadoor", sum := "d8923dcbc776c0c7d37d9b6036969e7f04f948c645a7afbb6996eb7576efda80", func := "loop.example/g00294/laws.FnRebuilt", spec := "fnRebuilt", unfollowed := true, recurses := true, named := ["loop.example/g00294/impl.remainders"], apart := false, laid := [("loop.example/g00294/impl.remainders", laid_loop_example_g00294_impl_remainders)] }
def FnRebuiltSaid : Prop := fnRebuiltRow.holds Tryd.pinned (OpenSpec.ofChange fnRebuiltSpec)

/-- ITS FALSE NEIGHBOUR: 'it returns false'. Refute it at one input. -/
def fnRebuiltWrong : ChangeSpec := { name := "fnRebuilt", vars := ["loop.example/g00294/impl.remainders"], fn := fun _ => fun
  | [d1, d2, g1] => { results := [.lit (.bool false)], args := [d1, d2], vars := [g1] }
  | _ => none }
def FnRebuiltWrongFalsely : Prop := fnRebuiltRow.holds Tryd.pinned (OpenSpec.ofChange fnRebuiltWrong)

/-- 'laws.FnExactSolveDrops': WHATEVER THE INPUT: true; the input reads as it did. -/
def fnExactSolveDropsSpec : ChangeSpec := { name := "fnExactSolveDrops", vars := ["loop.example/g00294/impl.remainders"], fn := fun _ => fun
  | [d1, d2, g1] => { results := [.lit (.bool true)], args := [d1, d2], vars := [g1] }
  | _ => none }
def fnExactSolveDropsRow : OpenClaim := { program := "ytbfchebnooanjaadoor", sum := "d8923dcbc776c0c7d37d9b6036969e7f04f948c645a7afbb6996eb7576efda80", func := "loop.example/g00294/laws.FnExactSolveDrops", spec := "fnExactSolveDrops", unfollowed := true, recurses := true, named := ["loop.example/g00294/impl.remainders"], apart := false, laid := [("loop.example/g00294/impl.remainders", laid_loop_example_g00294_impl_remainders)] }
def FnExactSolveDropsSaid : Prop := fnExactSolveDropsRow.holds Tryd.pinned (OpenSpec.ofChange fnExactSolveDropsSpec)

/-- ITS FALSE NEIGHBOUR: 'it returns false'. Refute it at one input. -/
def fnExactSolveDropsWrong : ChangeSpec := { name := "fnExactSolveDrops", vars := ["loop.example/g00294/impl.remainders"], fn := fun _ => fun
  | [d1, d2, g1] => { results := [.lit (.bool false)], args := [d1, d2], vars := [g1] }
  | _ => none }
def FnExactSolveDropsWrongFalsely : Prop := fnExactSolveDropsRow.holds Tryd.pinned (OpenSpec.ofChange fnExactSolveDropsWrong)

/- THE SECOND FORM. 'bulk': how many values and letters a reading holds, each counted each time it is reached (what is shared counts as often as it is met; a slice's spare places count too). A statement '..UptoSaid' is the law's where the arguments, and the package variables that the reading takes, are together of bulk at most 1048576: NARROWER than '..Said'. Prove '..Said' where nothing that the law and all that it calls make is longer than what came in: it says more and counts as full. Else prove '..UptoSaid'. A law counts once. -/
mutual
def uptoBulk {H : Type} : DataW H → Nat
  | .lit (.string bytes) => bytes.length + 1
  | .lit _ => 1
  | .nil => 1
  | .ptr d => uptoBulk d + 1
  | .slice elems spare => uptoBulkAll elems + uptoBulkAll spare + 1
  | .agg parts => uptoBulkAll parts + 1
  | .iface _ d => uptoBulk d + 1
  | .map entries => uptoBulkEntries entries + 1
  | .held _ => 1
def uptoBulkAll {H : Type} : List (DataW H) → Nat
  | [] => 0
  | d :: r => uptoBulk d + uptoBulkAll r
def uptoBulkEntries {H : Type} : List (Lit × DataW H) → Nat
  | [] => 0
  | x :: r => uptoBulkEntry x + uptoBulkEntries r
def uptoBulkEntry {H : Type} : Lit × DataW H → Nat
  | (.string bytes, d) => bytes.length + uptoBulk d + 1
  | (_, d) => uptoBulk d + 1
 end
def uptoSmall : (H : Type) → List (DataW H) → Bool := fun _ ds => decide (uptoBulkAll ds ≤ 1048576)
def OpenSpec.upto (s : _root_.Go.ChangeSpec) : _root_.Go.OpenSpec := { _root_.Go.OpenSpec.ofChange s with cond := some uptoSmall }

/-- 'laws.FnRebuilt', WHERE WHAT IT READS IS OF BULK AT MOST 1048576: true; the input reads as it did. -/
def fnRebuiltUptoRow : OpenClaim := { program := "ytbfchebnooanjaadoor", sum := "d8923dcbc776c0c7d37d9b6036969e7f04f948c645a7afbb6996eb7576efda80", func := "loop.example/g00294/laws.FnRebuilt", spec := "fnRebuilt", unfollowed := true, recurses := true, named := ["loop.example/g00294/impl.remainders"], apart := false, laid := [("loop.example/g00294/impl.remainders", laid_loop_example_g00294_impl_remainders)], narrowed := true }
def FnRebuiltUptoSaid : Prop := fnRebuiltUptoRow.holds Tryd.pinned (OpenSpec.upto fnRebuiltSpec)

/-- 'laws.FnExactSolveDrops', WHERE WHAT IT READS IS OF BULK AT MOST 1048576: true; the input reads as it did. -/
def fnExactSolveDropsUptoRow : OpenClaim := { program := "ytbfchebnooanjaadoor", sum := "d8923dcbc776c0c7d37d9b6036969e7f04f948c645a7afbb6996eb7576efda80", func := "loop.example/g00294/laws.FnExactSolveDrops", spec := "fnExactSolveDrops", unfollowed := true, recurses := true, named := ["loop.example/g00294/impl.remainders"], apart := false, laid := [("loop.example/g00294/impl.remainders", laid_loop_example_g00294_impl_remainders)], narrowed := true }
def FnExactSolveDropsUptoSaid : Prop := fnExactSolveDropsUptoRow.holds Tryd.pinned (OpenSpec.upto fnExactSolveDropsSpec)

end Rows
end Go.Proofs.YtbfchebnooanjaaDoor
