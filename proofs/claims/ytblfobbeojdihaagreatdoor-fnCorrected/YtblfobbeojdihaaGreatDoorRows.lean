/-
  NARROWER THAN 'FOR EVERY INPUT', by the rows' own cells (each row's printed sentence says how): FnCorrected: ifaces, laid · FnSpaced: ifaces, laid.
  DERIVED. THE GIVEN ROWS OF THIS SEAT. 2 by the template 'for every input the law returns true; each argument reads behind the call as it read before'; 0 by the template 'total and deterministic' (their statements: YtblfobbeojdihaaGreatDoorTotals.lean).
  GIVEN WITH THE SEED: the statements are not yours to turn. If you find one false, say at which input.
  Laid BY PROGRAM, IN A SANDBOX (cutbox-rows.mjs): the forced cells as the released guide's own fill.sh prints them over the translation 93ff41f72350cf27… (all of the seat's roots in one cut). By AI agents, Wed Nov 11 2026. No macro, syntax, notation, axiom, sorry.
-/
import Derived.Test.YtblfobbeojdihaaGreatDoorChecked
import GoSem.Claim
import GoSem.ClaimJoined
import GoSem.ClaimMapViews
import Derived.JoinedTies
import Derived.KernelRfl
namespace Go.Proofs.YtblfobbeojdihaaGreatDoor
/- THE CELL 'sum', in the pinned program and in every row, IS THE sha256 OF THE DUMP (.gsa) THAT YtblfobbeojdihaaGreatDoorProg.lean LOADS. Nothing in Lean hashes anything: it is a label: what it is worth is what the hold of that sum in a sandbox is worth. -/
noncomputable def Tryz.pinned : Pinned := { name := "ytblfobbeojdihaagreatdoor", sum := "93ff41f72350cf2746cb79330e34e62af5bd0b8afc1bb41d3d24b4ec016f6a8e", checked := Tryz.checked }
namespace Rows
def none {H : Type} : Left H := { results := [], args := [] }

/- WHAT THE LISTED PACKAGE-LEVEL VARIABLES READ AS WHEN THE CALL BEGINS. Each datum BY PROGRAM (the guide's laid-datum.mjs) off the statement by which the dump's own 'gosem.cut.vars' lays the variable. In a bare row this is a premise. The card (YtblfobbeojdihaaGreatDoorCards.lean) ties it to the program's text. -/
def laid_errors_errorType {H : Type} : DataW H := .iface "internal/reflectlite.rtype" (.agg [.ptr (.lit (.string [101, 114, 114, 111, 114]))])
def laid_loop_example_g00294_impl_remainders {H : Type} : DataW H := .agg [.lit (.int .u8 27), .lit (.int .u8 54), .lit (.int .u8 108), .lit (.int .u8 216), .lit (.int .u8 171), .lit (.int .u8 77), .lit (.int .u8 154)]
def laid_loop_example_g00294_impl_errWordSize {H : Type} : DataW H := .iface "*errors.errorString" (.ptr (.agg [.lit (.string [110, 111, 116, 32, 116, 104, 101, 32, 115, 105, 122, 101, 32, 111, 102, 32, 97, 32, 99, 111, 100, 101, 32, 119, 111, 114, 100])]))
def laid_loop_example_g00294_impl_errNoWord {H : Type} : DataW H := .iface "*errors.errorString" (.ptr (.agg [.lit (.string [110, 111, 116, 32, 97, 32, 99, 111, 100, 101, 32, 119, 111, 114, 100])]))

/-- 'laws.FnCorrected': WHATEVER THE INPUT: true; the input reads as it did. -/
def fnCorrectedSpec : ChangeSpec := { name := "fnCorrected", vars := ["loop.example/g00294/impl.remainders", "loop.example/g00294/impl.errNoWord", "loop.example/g00294/impl.errWordSize"], fn := fun _ => fun
  | [d1, d2, g1, g2, g3] => { results := [.lit (.bool true)], args := [d1, d2], vars := [g1, g2, g3] }
  | _ => none }
def fnCorrectedRow : OpenClaim := { program := "ytblfobbeojdihaagreatdoor", sum := "93ff41f72350cf2746cb79330e34e62af5bd0b8afc1bb41d3d24b4ec016f6a8e", func := "loop.example/g00294/laws.FnCorrected", spec := "fnCorrected", inPlace := ["internal/reflectlite.TypeOf", "internal/reflectlite.ValueOf", "(internal/reflectlite.Value).Type", "(internal/reflectlite.Value).IsNil", "(internal/reflectlite.Value).Elem", "(internal/reflectlite.Value).Set"], unfollowed := true, recurses := true, named := ["loop.example/g00294/impl.remainders", "loop.example/g00294/impl.errNoWord", "loop.example/g00294/impl.errWordSize", "errors.errorType"], ifaces := true, apart := false, laid := [("errors.errorType", laid_errors_errorType), ("loop.example/g00294/impl.remainders", laid_loop_example_g00294_impl_remainders), ("loop.example/g00294/impl.errWordSize", laid_loop_example_g00294_impl_errWordSize), ("loop.example/g00294/impl.errNoWord", laid_loop_example_g00294_impl_errNoWord)] }
def FnCorrectedSaid : Prop := fnCorrectedRow.holds Tryz.pinned (OpenSpec.ofChange fnCorrectedSpec)

/-- ITS FALSE NEIGHBOUR: 'it returns false'. Refute it at one input. -/
def fnCorrectedWrong : ChangeSpec := { name := "fnCorrected", vars := ["loop.example/g00294/impl.remainders", "loop.example/g00294/impl.errNoWord", "loop.example/g00294/impl.errWordSize"], fn := fun _ => fun
  | [d1, d2, g1, g2, g3] => { results := [.lit (.bool false)], args := [d1, d2], vars := [g1, g2, g3] }
  | _ => none }
def FnCorrectedWrongFalsely : Prop := fnCorrectedRow.holds Tryz.pinned (OpenSpec.ofChange fnCorrectedWrong)

/-- 'laws.FnSpaced': WHATEVER THE INPUT: true; the input reads as it did. -/
def fnSpacedSpec : ChangeSpec := { name := "fnSpaced", vars := ["loop.example/g00294/impl.remainders", "loop.example/g00294/impl.errNoWord", "loop.example/g00294/impl.errWordSize"], fn := fun _ => fun
  | [d1, d2, g1, g2, g3] => { results := [.lit (.bool true)], args := [d1, d2], vars := [g1, g2, g3] }
  | _ => none }
def fnSpacedRow : OpenClaim := { program := "ytblfobbeojdihaagreatdoor", sum := "93ff41f72350cf2746cb79330e34e62af5bd0b8afc1bb41d3d24b4ec016f6a8e", func := "loop.example/g00294/laws.FnSpaced", spec := "fnSpaced", inPlace := ["internal/reflectlite.TypeOf"], unfollowed := true, recurses := true, named := ["loop.example/g00294/impl.remainders", "loop.example/g00294/impl.errNoWord", "loop.example/g00294/impl.errWordSize"], ifaces := true, apart := false, laid := [("loop.example/g00294/impl.remainders", laid_loop_example_g00294_impl_remainders), ("loop.example/g00294/impl.errWordSize", laid_loop_example_g00294_impl_errWordSize), ("loop.example/g00294/impl.errNoWord", laid_loop_example_g00294_impl_errNoWord)] }
def FnSpacedSaid : Prop := fnSpacedRow.holds Tryz.pinned (OpenSpec.ofChange fnSpacedSpec)

/-- ITS FALSE NEIGHBOUR: 'it returns false'. Refute it at one input. -/
def fnSpacedWrong : ChangeSpec := { name := "fnSpaced", vars := ["loop.example/g00294/impl.remainders", "loop.example/g00294/impl.errNoWord", "loop.example/g00294/impl.errWordSize"], fn := fun _ => fun
  | [d1, d2, g1, g2, g3] => { results := [.lit (.bool false)], args := [d1, d2], vars := [g1, g2, g3] }
  | _ => none }
def FnSpacedWrongFalsely : Prop := fnSpacedRow.holds Tryz.pinned (OpenSpec.ofChange fnSpacedWrong)

/- THE SECOND FORM. 'bulk': how many values and letters a reading holds, each counted each time it is reached (what is shared counts as often as it is met; a slice's spare places count too). A statement '..UptoSaid' is the law's where the arguments, and the package variables that the reading takes, are together of bulk at most 1048576: NARROWER than '..Said'. Prove '..Said' where nothing that the law and all that it calls make is longer than what came in: it says more and counts as full. Else prove '..UptoSaid'. A law counts once. -/
mutual
def uptoBulk {H : Type} : DataW H → Nat
  | .lit (.string bytes) => bytes.length + 1
  | .lit _ => 1
  | .nil => 1
  | .ptr d => uptoBulk d + 1
  | .slice elems spare => uptoBulkAll elems + uptoBulkAll spare + 1
  | .agg parts => uptoBulkAll parts + 1
  | .iface _ d => uptoBulk d + 1
  | .map entries => uptoBulkEntries entries + 1
  | .held _ => 1
def uptoBulkAll {H : Type} : List (DataW H) → Nat
  | [] => 0
  | d :: r => uptoBulk d + uptoBulkAll r
def uptoBulkEntries {H : Type} : List (Lit × DataW H) → Nat
  | [] => 0
  | x :: r => uptoBulkEntry x + uptoBulkEntries r
def uptoBulkEntry {H : Type} : Lit × DataW H → Nat
  | (.string bytes, d) => bytes.length + uptoBulk d + 1
  | (_, d) => uptoBulk d + 1
 end
def uptoSmall : (H : Type) → List (DataW H) → Bool := fun _ ds => decide (uptoBulkAll ds ≤ 1048576)
def OpenSpec.upto (s : _root_.Go.ChangeSpec) : _root_.Go.OpenSpec := { _root_.Go.OpenSpec.ofChange s with cond := some uptoSmall }

/-- 'laws.FnCorrected', WHERE WHAT IT READS IS OF BULK AT MOST 1048576: true; the input reads as it did. -/
def fnCorrectedUptoRow : OpenClaim := { program := "ytblfobbeojdihaagreatdoor", sum := "93ff41f72350cf2746cb79330e34e62af5bd0b8afc1bb41d3d24b4ec016f6a8e", func := "loop.example/g00294/laws.FnCorrected", spec := "fnCorrected", inPlace := ["internal/reflectlite.TypeOf", "internal/reflectlite.ValueOf", "(internal/reflectlite.Value).Type", "(internal/reflectlite.Value).IsNil", "(internal/reflectlite.Value).Elem", "(internal/reflectlite.Value).Set"], unfollowed := true, recurses := true, named := ["loop.example/g00294/impl.remainders", "loop.example/g00294/impl.errNoWord", "loop.example/g00294/impl.errWordSize", "errors.errorType"], ifaces := true, apart := false, laid := [("errors.errorType", laid_errors_errorType), ("loop.example/g00294/impl.remainders", laid_loop_example_g00294_impl_remainders), ("loop.example/g00294/impl.errWordSize", laid_loop_example_g00294_impl_errWordSize), ("loop.example/g00294/impl.errNoWord", laid_loop_example_g00294_impl_errNoWord)], narrowed := true }
def FnCorrectedUptoSaid : Prop := fnCorrectedUptoRow.holds Tryz.pinned (OpenSpec.upto fnCorrectedSpec)

/-- 'laws.FnSpaced', WHERE WHAT IT READS IS OF BULK AT MOST 1048576: true; the input reads as it did. -/
def fnSpacedUptoRow : OpenClaim := { program := "ytblfobbeojdihaagreatdoor", sum := "93ff41f72350cf2746cb79330e34e62af5bd0b8afc1bb41d3d24b4ec016f6a8e", func := "loop.example/g00294/laws.FnSpaced", spec := "fnSpaced", inPlace := ["internal/reflectlite.TypeOf"], unfollowed := true, recurses := true, named := ["loop.example/g00294/impl.remainders", "loop.example/g00294/impl.errNoWord", "loop.example/g00294/impl.errWordSize"], ifaces := true, apart := false, laid := [("loop.example/g00294/impl.remainders", laid_loop_example_g00294_impl_remainders), ("loop.example/g00294/impl.errWordSize", laid_loop_example_g00294_impl_errWordSize), ("loop.example/g00294/impl.errNoWord", laid_loop_example_g00294_impl_errNoWord)], narrowed := true }
def FnSpacedUptoSaid : Prop := fnSpacedUptoRow.holds Tryz.pinned (OpenSpec.upto fnSpacedSpec)

end Rows
end Go.Proofs.YtblfobbeojdihaaGreatDoor
