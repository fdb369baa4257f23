/-
  NARROWER THAN 'FOR EVERY INPUT', by the rows' own cells (each row's printed sentence says how): FnMerged: laid · FnMended: laid · FnShamir: laid · FnSecret: laid · FnShares: laid · FnExactPolyAt: laid · FnExactShareSecret: laid · FnExactInterpolate: laid · FnExactOpenSecret: laid · FnExactRandomFor: laid · FnExactRefreshShares: laid · FnExactIsShared: laid.
  DERIVED. THE GIVEN ROWS OF THIS SEAT. 12 by the template 'for every input the law returns true; each argument reads behind the call as it read before'; 0 by the template 'total and deterministic' (their statements: YtgbhcjfnkjhkiaaDoorTotals.lean).
  GIVEN WITH THE SEED: the statements are not yours to turn. If you find one false, say at which input.
  Laid BY PROGRAM, IN A SANDBOX (cutbox-rows.mjs): the forced cells as the released guide's own fill.sh prints them over the translation b018cce36eb4f38f… (all of the seat's roots in one cut). By AI agents, Wed Nov 11 2026. No macro, syntax, notation, axiom, sorry.
-/
import Derived.Test.YtgbhcjfnkjhkiaaDoorChecked
import GoSem.Claim
import GoSem.ClaimJoined
import GoSem.ClaimMapViews
import Derived.JoinedTies
import Derived.KernelRfl
namespace Go.Proofs.YtgbhcjfnkjhkiaaDoor
/- THE CELL 'sum', in the pinned program and in every row, IS THE sha256 OF THE DUMP (.gsa) THAT YtgbhcjfnkjhkiaaDoorProg.lean LOADS. Nothing in Lean hashes anything: it is a label: what it is worth is what the hold of that sum in a sandbox is worth. -/
noncomputable def Tryd.pinned : Pinned := { name := "ytgbhcjfnkjhkiaadoor", sum := "b018cce36eb4f38f667e058ac8ad8d3b2e9d74c35d2aa8c84bcda7c78b784f0b", checked := Tryd.checked }
namespace Rows
def none {H : Type} : Left H := { results := [], args := [] }

/- WHAT THE LISTED PACKAGE-LEVEL VARIABLES READ AS WHEN THE CALL BEGINS. Each datum BY PROGRAM (the guide's laid-datum.mjs) off the statement by which the dump's own 'gosem.cut.vars' lays the variable. In a bare row this is a premise. The card (YtgbhcjfnkjhkiaaDoorCards.lean) ties it to the program's text. -/
def laid_loop_example_g00294_impl_remainders {H : Type} : DataW H := .agg [.lit (.int .u8 27), .lit (.int .u8 54), .lit (.int .u8 108), .lit (.int .u8 216), .lit (.int .u8 171), .lit (.int .u8 77), .lit (.int .u8 154)]

/-- 'laws.FnMerged': WHATEVER THE INPUT: true; the input reads as it did. -/
def fnMergedSpec : ChangeSpec := { name := "fnMerged", vars := ["loop.example/g00294/impl.remainders"], fn := fun _ => fun
  | [d1, d2, g1] => { results := [.lit (.bool true)], args := [d1, d2], vars := [g1] }
  | _ => none }
def fnMergedRow : OpenClaim := { program := "ytgbhcjfnkjhkiaadoor", sum := "b018cce36eb4f38f667e058ac8ad8d3b2e9d74c35d2aa8c84bcda7c78b784f0b", func := "loop.example/g00294/laws.FnMerged", spec := "fnMerged", unfollowed := true, recurses := true, named := ["loop.example/g00294/impl.remainders"], apart := false, laid := [("loop.example/g00294/impl.remainders", laid_loop_example_g00294_impl_remainders)] }
def FnMergedSaid : Prop := fnMergedRow.holds Tryd.pinned (OpenSpec.ofChange fnMergedSpec)

/-- ITS FALSE NEIGHBOUR: 'it returns false'. Refute it at one input. -/
def fnMergedWrong : ChangeSpec := { name := "fnMerged", vars := ["loop.example/g00294/impl.remainders"], fn := fun _ => fun
  | [d1, d2, g1] => { results := [.lit (.bool false)], args := [d1, d2], vars := [g1] }
  | _ => none }
def FnMergedWrongFalsely : Prop := fnMergedRow.holds Tryd.pinned (OpenSpec.ofChange fnMergedWrong)

/-- 'laws.FnMended': WHATEVER THE INPUT: true; the input reads as it did. -/
def fnMendedSpec : ChangeSpec := { name := "fnMended", vars := ["loop.example/g00294/impl.remainders"], fn := fun _ => fun
  | [d1, d2, g1] => { results := [.lit (.bool true)], args := [d1, d2], vars := [g1] }
  | _ => none }
def fnMendedRow : OpenClaim := { program := "ytgbhcjfnkjhkiaadoor", sum := "b018cce36eb4f38f667e058ac8ad8d3b2e9d74c35d2aa8c84bcda7c78b784f0b", func := "loop.example/g00294/laws.FnMended", spec := "fnMended", unfollowed := true, recurses := true, named := ["loop.example/g00294/impl.remainders"], apart := false, laid := [("loop.example/g00294/impl.remainders", laid_loop_example_g00294_impl_remainders)] }
def FnMendedSaid : Prop := fnMendedRow.holds Tryd.pinned (OpenSpec.ofChange fnMendedSpec)

/-- ITS FALSE NEIGHBOUR: 'it returns false'. Refute it at one input. -/
def fnMendedWrong : ChangeSpec := { name := "fnMended", vars := ["loop.example/g00294/impl.remainders"], fn := fun _ => fun
  | [d1, d2, g1] => { results := [.lit (.bool false)], args := [d1, d2], vars := [g1] }
  | _ => none }
def FnMendedWrongFalsely : Prop := fnMendedRow.holds Tryd.pinned (OpenSpec.ofChange fnMendedWrong)

/-- 'laws.FnShamir': WHATEVER THE INPUT: true; the input reads as it did. -/
def fnShamirSpec : ChangeSpec := { name := "fnShamir", vars := ["loop.example/g00294/impl.remainders"], fn := fun _ => fun
  | [d1, d2, g1] => { results := [.lit (.bool true)], args := [d1, d2], vars := [g1] }
  | _ => none }
def fnShamirRow : OpenClaim := { program := "ytgbhcjfnkjhkiaadoor", sum := "b018cce36eb4f38f667e058ac8ad8d3b2e9d74c35d2aa8c84bcda7c78b784f0b", func := "loop.example/g00294/laws.FnShamir", spec := "fnShamir", unfollowed := true, recurses := true, named := ["loop.example/g00294/impl.remainders"], apart := false, laid := [("loop.example/g00294/impl.remainders", laid_loop_example_g00294_impl_remainders)] }
def FnShamirSaid : Prop := fnShamirRow.holds Tryd.pinned (OpenSpec.ofChange fnShamirSpec)

/-- ITS FALSE NEIGHBOUR: 'it returns false'. Refute it at one input. -/
def fnShamirWrong : ChangeSpec := { name := "fnShamir", vars := ["loop.example/g00294/impl.remainders"], fn := fun _ => fun
  | [d1, d2, g1] => { results := [.lit (.bool false)], args := [d1, d2], vars := [g1] }
  | _ => none }
def FnShamirWrongFalsely : Prop := fnShamirRow.holds Tryd.pinned (OpenSpec.ofChange fnShamirWrong)

/-- 'laws.FnSecret': WHATEVER THE INPUT: true; the input reads as it did. -/
def fnSecretSpec : ChangeSpec := { name := "fnSecret", vars := ["loop.example/g00294/impl.remainders"], fn := fun _ => fun
  | [d1, d2, g1] => { results := [.lit (.bool true)], args := [d1, d2], vars := [g1] }
  | _ => none }
def fnSecretRow : OpenClaim := { program := "ytgbhcjfnkjhkiaadoor", sum := "b018cce36eb4f38f667e058ac8ad8d3b2e9d74c35d2aa8c84bcda7c78b784f0b", func := "loop.example/g00294/laws.FnSecret", spec := "fnSecret", unfollowed := true, recurses := true, named := ["loop.example/g00294/impl.remainders"], apart := false, laid := [("loop.example/g00294/impl.remainders", laid_loop_example_g00294_impl_remainders)] }
def FnSecretSaid : Prop := fnSecretRow.holds Tryd.pinned (OpenSpec.ofChange fnSecretSpec)

/-- ITS FALSE NEIGHBOUR: 'it returns false'. Refute it at one input. -/
def fnSecretWrong : ChangeSpec := { name := "fnSecret", vars := ["loop.example/g00294/impl.remainders"], fn := fun _ => fun
  | [d1, d2, g1] => { results := [.lit (.bool false)], args := [d1, d2], vars := [g1] }
  | _ => none }
def FnSecretWrongFalsely : Prop := fnSecretRow.holds Tryd.pinned (OpenSpec.ofChange fnSecretWrong)

/-- 'laws.FnShares': WHATEVER THE INPUT: true; the input reads as it did. -/
def fnSharesSpec : ChangeSpec := { name := "fnShares", vars := ["loop.example/g00294/impl.remainders"], fn := fun _ => fun
  | [d1, d2, g1] => { results := [.lit (.bool true)], args := [d1, d2], vars := [g1] }
  | _ => none }
def fnSharesRow : OpenClaim := { program := "ytgbhcjfnkjhkiaadoor", sum := "b018cce36eb4f38f667e058ac8ad8d3b2e9d74c35d2aa8c84bcda7c78b784f0b", func := "loop.example/g00294/laws.FnShares", spec := "fnShares", unfollowed := true, recurses := true, named := ["loop.example/g00294/impl.remainders"], apart := false, laid := [("loop.example/g00294/impl.remainders", laid_loop_example_g00294_impl_remainders)] }
def FnSharesSaid : Prop := fnSharesRow.holds Tryd.pinned (OpenSpec.ofChange fnSharesSpec)

/-- ITS FALSE NEIGHBOUR: 'it returns false'. Refute it at one input. -/
def fnSharesWrong : ChangeSpec := { name := "fnShares", vars := ["loop.example/g00294/impl.remainders"], fn := fun _ => fun
  | [d1, d2, g1] => { results := [.lit (.bool false)], args := [d1, d2], vars := [g1] }
  | _ => none }
def FnSharesWrongFalsely : Prop := fnSharesRow.holds Tryd.pinned (OpenSpec.ofChange fnSharesWrong)

/-- 'laws.FnExactPolyAt': WHATEVER THE INPUT: true; the input reads as it did. -/
def fnExactPolyAtSpec : ChangeSpec := { name := "fnExactPolyAt", vars := ["loop.example/g00294/impl.remainders"], fn := fun _ => fun
  | [d1, d2, g1] => { results := [.lit (.bool true)], args := [d1, d2], vars := [g1] }
  | _ => none }
def fnExactPolyAtRow : OpenClaim := { program := "ytgbhcjfnkjhkiaadoor", sum := "b018cce36eb4f38f667e058ac8ad8d3b2e9d74c35d2aa8c84bcda7c78b784f0b", func := "loop.example/g00294/laws.FnExactPolyAt", spec := "fnExactPolyAt", unfollowed := true, recurses := true, named := ["loop.example/g00294/impl.remainders"], apart := false, laid := [("loop.example/g00294/impl.remainders", laid_loop_example_g00294_impl_remainders)] }
def FnExactPolyAtSaid : Prop := fnExactPolyAtRow.holds Tryd.pinned (OpenSpec.ofChange fnExactPolyAtSpec)

/-- ITS FALSE NEIGHBOUR: 'it returns false'. Refute it at one input. -/
def fnExactPolyAtWrong : ChangeSpec := { name := "fnExactPolyAt", vars := ["loop.example/g00294/impl.remainders"], fn := fun _ => fun
  | [d1, d2, g1] => { results := [.lit (.bool false)], args := [d1, d2], vars := [g1] }
  | _ => none }
def FnExactPolyAtWrongFalsely : Prop := fnExactPolyAtRow.holds Tryd.pinned (OpenSpec.ofChange fnExactPolyAtWrong)

/-- 'laws.FnExactShareSecret': WHATEVER THE INPUT: true; the input reads as it did. -/
def fnExactShareSecretSpec : ChangeSpec := { name := "fnExactShareSecret", vars := ["loop.example/g00294/impl.remainders"], fn := fun _ => fun
  | [d1, d2, d3, g1] => { results := [.lit (.bool true)], args := [d1, d2, d3], vars := [g1] }
  | _ => none }
def fnExactShareSecretRow : OpenClaim := { program := "ytgbhcjfnkjhkiaadoor", sum := "b018cce36eb4f38f667e058ac8ad8d3b2e9d74c35d2aa8c84bcda7c78b784f0b", func := "loop.example/g00294/laws.FnExactShareSecret", spec := "fnExactShareSecret", unfollowed := true, recurses := true, named := ["loop.example/g00294/impl.remainders"], apart := false, laid := [("loop.example/g00294/impl.remainders", laid_loop_example_g00294_impl_remainders)] }
def FnExactShareSecretSaid : Prop := fnExactShareSecretRow.holds Tryd.pinned (OpenSpec.ofChange fnExactShareSecretSpec)

/-- ITS FALSE NEIGHBOUR: 'it returns false'. Refute it at one input. -/
def fnExactShareSecretWrong : ChangeSpec := { name := "fnExactShareSecret", vars := ["loop.example/g00294/impl.remainders"], fn := fun _ => fun
  | [d1, d2, d3, g1] => { results := [.lit (.bool false)], args := [d1, d2, d3], vars := [g1] }
  | _ => none }
def FnExactShareSecretWrongFalsely : Prop := fnExactShareSecretRow.holds Tryd.pinned (OpenSpec.ofChange fnExactShareSecretWrong)

/-- 'laws.FnExactInterpolate': WHATEVER THE INPUT: true; the input reads as it did. -/
def fnExactInterpolateSpec : ChangeSpec := { name := "fnExactInterpolate", vars := ["loop.example/g00294/impl.remainders"], fn := fun _ => fun
  | [d1, d2, g1] => { results := [.lit (.bool true)], args := [d1, d2], vars := [g1] }
  | _ => none }
def fnExactInterpolateRow : OpenClaim := { program := "ytgbhcjfnkjhkiaadoor", sum := "b018cce36eb4f38f667e058ac8ad8d3b2e9d74c35d2aa8c84bcda7c78b784f0b", func := "loop.example/g00294/laws.FnExactInterpolate", spec := "fnExactInterpolate", unfollowed := true, recurses := true, named := ["loop.example/g00294/impl.remainders"], apart := false, laid := [("loop.example/g00294/impl.remainders", laid_loop_example_g00294_impl_remainders)] }
def FnExactInterpolateSaid : Prop := fnExactInterpolateRow.holds Tryd.pinned (OpenSpec.ofChange fnExactInterpolateSpec)

/-- ITS FALSE NEIGHBOUR: 'it returns false'. Refute it at one input. -/
def fnExactInterpolateWrong : ChangeSpec := { name := "fnExactInterpolate", vars := ["loop.example/g00294/impl.remainders"], fn := fun _ => fun
  | [d1, d2, g1] => { results := [.lit (.bool false)], args := [d1, d2], vars := [g1] }
  | _ => none }
def FnExactInterpolateWrongFalsely : Prop := fnExactInterpolateRow.holds Tryd.pinned (OpenSpec.ofChange fnExactInterpolateWrong)

/-- 'laws.FnExactOpenSecret': WHATEVER THE INPUT: true; the input reads as it did. -/
def fnExactOpenSecretSpec : ChangeSpec := { name := "fnExactOpenSecret", vars := ["loop.example/g00294/impl.remainders"], fn := fun _ => fun
  | [d1, d2, g1] => { results := [.lit (.bool true)], args := [d1, d2], vars := [g1] }
  | _ => none }
def fnExactOpenSecretRow : OpenClaim := { program := "ytgbhcjfnkjhkiaadoor", sum := "b018cce36eb4f38f667e058ac8ad8d3b2e9d74c35d2aa8c84bcda7c78b784f0b", func := "loop.example/g00294/laws.FnExactOpenSecret", spec := "fnExactOpenSecret", unfollowed := true, recurses := true, named := ["loop.example/g00294/impl.remainders"], apart := false, laid := [("loop.example/g00294/impl.remainders", laid_loop_example_g00294_impl_remainders)] }
def FnExactOpenSecretSaid : Prop := fnExactOpenSecretRow.holds Tryd.pinned (OpenSpec.ofChange fnExactOpenSecretSpec)

/-- ITS FALSE NEIGHBOUR: 'it returns false'. Refute it at one input. -/
def fnExactOpenSecretWrong : ChangeSpec := { name := "fnExactOpenSecret", vars := ["loop.example/g00294/impl.remainders"], fn := fun _ => fun
  | [d1, d2, g1] => { results := [.lit (.bool false)], args := [d1, d2], vars := [g1] }
  | _ => none }
def FnExactOpenSecretWrongFalsely : Prop := fnExactOpenSecretRow.holds Tryd.pinned (OpenSpec.ofChange fnExactOpenSecretWrong)

/-- 'laws.FnExactRandomFor': WHATEVER THE INPUT: true; the input reads as it did. -/
def fnExactRandomForSpec : ChangeSpec := { name := "fnExactRandomFor", vars := ["loop.example/g00294/impl.remainders"], fn := fun _ => fun
  | [d1, d2, g1] => { results := [.lit (.bool true)], args := [d1, d2], vars := [g1] }
  | _ => none }
def fnExactRandomForRow : OpenClaim := { program := "ytgbhcjfnkjhkiaadoor", sum := "b018cce36eb4f38f667e058ac8ad8d3b2e9d74c35d2aa8c84bcda7c78b784f0b", func := "loop.example/g00294/laws.FnExactRandomFor", spec := "fnExactRandomFor", unfollowed := true, recurses := true, named := ["loop.example/g00294/impl.remainders"], apart := false, laid := [("loop.example/g00294/impl.remainders", laid_loop_example_g00294_impl_remainders)] }
def FnExactRandomForSaid : Prop := fnExactRandomForRow.holds Tryd.pinned (OpenSpec.ofChange fnExactRandomForSpec)

/-- ITS FALSE NEIGHBOUR: 'it returns false'. Refute it at one input. -/
def fnExactRandomForWrong : ChangeSpec := { name := "fnExactRandomFor", vars := ["loop.example/g00294/impl.remainders"], fn := fun _ => fun
  | [d1, d2, g1] => { results := [.lit (.bool false)], args := [d1, d2], vars := [g1] }
  | _ => none }
def FnExactRandomForWrongFalsely : Prop := fnExactRandomForRow.holds Tryd.pinned (OpenSpec.ofChange fnExactRandomForWrong)

/-- 'laws.FnExactRefreshShares': WHATEVER THE INPUT: true; the input reads as it did. -/
def fnExactRefreshSharesSpec : ChangeSpec := { name := "fnExactRefreshShares", vars := ["loop.example/g00294/impl.remainders"], fn := fun _ => fun
  | [d1, d2, g1] => { results := [.lit (.bool true)], args := [d1, d2], vars := [g1] }
  | _ => none }
def fnExactRefreshSharesRow : OpenClaim := { program := "ytgbhcjfnkjhkiaadoor", sum := "b018cce36eb4f38f667e058ac8ad8d3b2e9d74c35d2aa8c84bcda7c78b784f0b", func := "loop.example/g00294/laws.FnExactRefreshShares", spec := "fnExactRefreshShares", unfollowed := true, recurses := true, named := ["loop.example/g00294/impl.remainders"], apart := false, laid := [("loop.example/g00294/impl.remainders", laid_loop_example_g00294_impl_remainders)] }
def FnExactRefreshSharesSaid : Prop := fnExactRefreshSharesRow.holds Tryd.pinned (OpenSpec.ofChange fnExactRefreshSharesSpec)

/-- ITS FALSE NEIGHBOUR: 'it returns false'. Refute it at one input. -/
def fnExactRefreshSharesWrong : ChangeSpec := { name := "fnExactRefreshShares", vars := ["loop.example/g00294/impl.remainders"], fn := fun _ => fun
  | [d1, d2, g1] => { results := [.lit (.bool false)], args := [d1, d2], vars := [g1] }
  | _ => none }
def FnExactRefreshSharesWrongFalsely : Prop := fnExactRefreshSharesRow.holds Tryd.pinned (OpenSpec.ofChange fnExactRefreshSharesWrong)

/-- 'laws.FnExactIsShared': WHATEVER THE INPUT: true; the input reads as it did. -/
def fnExactIsSharedSpec : ChangeSpec := { name := "fnExactIsShared", vars := ["loop.example/g00294/impl.remainders"], fn := fun _ => fun
  | [d1, d2, g1] => { results := [.lit (.bool true)], args := [d1, d2], vars := [g1] }
  | _ => none }
def fnExactIsSharedRow : OpenClaim := { program := "ytgbhcjfnkjhkiaadoor", sum := "b018cce36eb4f38f667e058ac8ad8d3b2e9d74c35d2aa8c84bcda7c78b784f0b", func := "loop.example/g00294/laws.FnExactIsShared", spec := "fnExactIsShared", unfollowed := true, recurses := true, named := ["loop.example/g00294/impl.remainders"], apart := false, laid := [("loop.example/g00294/impl.remainders", laid_loop_example_g00294_impl_remainders)] }
def FnExactIsSharedSaid : Prop := fnExactIsSharedRow.holds Tryd.pinned (OpenSpec.ofChange fnExactIsSharedSpec)

/-- ITS FALSE NEIGHBOUR: 'it returns false'. Refute it at one input. -/
def fnExactIsSharedWrong : ChangeSpec := { name := "fnExactIsShared", vars := ["loop.example/g00294/impl.remainders"], fn := fun _ => fun
  | [d1, d2, g1] => { results := [.lit (.bool false)], args := [d1, d2], vars := [g1] }
  | _ => none }
def FnExactIsSharedWrongFalsely : Prop := fnExactIsSharedRow.holds Tryd.pinned (OpenSpec.ofChange fnExactIsSharedWrong)

/- THE SECOND FORM. 'bulk': how many values and letters a reading holds, each counted each time it is reached (what is shared counts as often as it is met; a slice's spare places count too). A statement '..UptoSaid' is the law's where the arguments, and the package variables that the reading takes, are together of bulk at most 1048576: NARROWER than '..Said'. Prove '..Said' where nothing that the law and all that it calls make is longer than what came in: it says more and counts as full. Else prove '..UptoSaid'. A law counts once. -/
mutual
def uptoBulk {H : Type} : DataW H → Nat
  | .lit (.string bytes) => bytes.length + 1
  | .lit _ => 1
  | .nil => 1
  | .ptr d => uptoBulk d + 1
  | .slice elems spare => uptoBulkAll elems + uptoBulkAll spare + 1
  | .agg parts => uptoBulkAll parts + 1
  | .iface _ d => uptoBulk d + 1
  | .map entries => uptoBulkEntries entries + 1
  | .held _ => 1
def uptoBulkAll {H : Type} : List (DataW H) → Nat
  | [] => 0
  | d :: r => uptoBulk d + uptoBulkAll r
def uptoBulkEntries {H : Type} : List (Lit × DataW H) → Nat
  | [] => 0
  | x :: r => uptoBulkEntry x + uptoBulkEntries r
def uptoBulkEntry {H : Type} : Lit × DataW H → Nat
  | (.string bytes, d) => bytes.length + uptoBulk d + 1
  | (_, d) => uptoBulk d + 1
 end
def uptoSmall : (H : Type) → List (DataW H) → Bool := fun _ ds => decide (uptoBulkAll ds ≤ 1048576)
def OpenSpec.upto (s : _root_.Go.ChangeSpec) : _root_.Go.OpenSpec := { _root_.Go.OpenSpec.ofChange s with cond := some uptoSmall }

/-- 'laws.FnMerged', WHERE WHAT IT READS IS OF BULK AT MOST 1048576: true; the input reads as it did. -/
def fnMergedUptoRow : OpenClaim := { program := "ytgbhcjfnkjhkiaadoor", sum := "b018cce36eb4f38f667e058ac8ad8d3b2e9d74c35d2aa8c84bcda7c78b784f0b", func := "loop.example/g00294/laws.FnMerged", spec := "fnMerged", unfollowed := true, recurses := true, named := ["loop.example/g00294/impl.remainders"], apart := false, laid := [("loop.example/g00294/impl.remainders", laid_loop_example_g00294_impl_remainders)], narrowed := true }
def FnMergedUptoSaid : Prop := fnMergedUptoRow.holds Tryd.pinned (OpenSpec.upto fnMergedSpec)

/-- 'laws.FnMended', WHERE WHAT IT READS IS OF BULK AT MOST 1048576: true; the input reads as it did. -/
def fnMendedUptoRow : OpenClaim := { program := "ytgbhcjfnkjhkiaadoor", sum := "b018cce36eb4f38f667e058ac8ad8d3b2e9d74c35d2aa8c84bcda7c78b784f0b", func := "loop.example/g00294/laws.FnMended", spec := "fnMended", unfollowed := true, recurses := true, named := ["loop.example/g00294/impl.remainders"], apart := false, laid := [("loop.example/g00294/impl.remainders", laid_loop_example_g00294_impl_remainders)], narrowed := true }
def FnMendedUptoSaid : Prop := fnMendedUptoRow.holds Tryd.pinned (OpenSpec.upto fnMendedSpec)

/-- 'laws.FnShamir', WHERE WHAT IT READS IS OF BULK AT MOST 1048576: true; the input reads as it did. -/
def fnShamirUptoRow : OpenClaim := { program := "ytgbhcjfnkjhkiaadoor", sum := "b018cce36eb4f38f667e058ac8ad8d3b2e9d74c35d2aa8c84bcda7c78b784f0b", func := "loop.example/g00294/laws.FnShamir", spec := "fnShamir", unfollowed := true, recurses := true, named := ["loop.example/g00294/impl.remainders"], apart := false, laid := [("loop.example/g00294/impl.remainders", laid_loop_example_g00294_impl_remainders)], narrowed := true }
def FnShamirUptoSaid : Prop := fnShamirUptoRow.holds Tryd.pinned (OpenSpec.upto fnShamirSpec)

/-- 'laws.FnSecret', WHERE WHAT IT READS IS OF BULK AT MOST 1048576: true; the input reads as it did. -/
def fnSecretUptoRow : OpenClaim := { program := "ytgbhcjfnkjhkiaadoor", sum := "b018cce36eb4f38f667e058ac8ad8d3b2e9d74c35d2aa8c84bcda7c78b784f0b", func := "loop.example/g00294/laws.FnSecret", spec := "fnSecret", unfollowed := true, recurses := true, named := ["loop.example/g00294/impl.remainders"], apart := false, laid := [("loop.example/g00294/impl.remainders", laid_loop_example_g00294_impl_remainders)], narrowed := true }
def FnSecretUptoSaid : Prop := fnSecretUptoRow.holds Tryd.pinned (OpenSpec.upto fnSecretSpec)

/-- 'laws.FnShares', WHERE WHAT IT READS IS OF BULK AT MOST 1048576: true; the input reads as it did. -/
def fnSharesUptoRow : OpenClaim := { program := "ytgbhcjfnkjhkiaadoor", sum := "b018cce36eb4f38f667e058ac8ad8d3b2e9d74c35d2aa8c84bcda7c78b784f0b", func := "loop.example/g00294/laws.FnShares", spec := "fnShares", unfollowed := true, recurses := true, named := ["loop.example/g00294/impl.remainders"], apart := false, laid := [("loop.example/g00294/impl.remainders", laid_loop_example_g00294_impl_remainders)], narrowed := true }
def FnSharesUptoSaid : Prop := fnSharesUptoRow.holds Tryd.pinned (OpenSpec.upto fnSharesSpec)

/-- 'laws.FnExactPolyAt', WHERE WHAT IT READS IS OF BULK AT MOST 1048576: true; the input reads as it did. -/
def fnExactPolyAtUptoRow : OpenClaim := { program := "ytgbhcjfnkjhkiaadoor", sum := "b018cce36eb4f38f667e058ac8ad8d3b2e9d74c35d2aa8c84bcda7c78b784f0b", func := "loop.example/g00294/laws.FnExactPolyAt", spec := "fnExactPolyAt", unfollowed := true, recurses := true, named := ["loop.example/g00294/impl.remainders"], apart := false, laid := [("loop.example/g00294/impl.remainders", laid_loop_example_g00294_impl_remainders)], narrowed := true }
def FnExactPolyAtUptoSaid : Prop := fnExactPolyAtUptoRow.holds Tryd.pinned (OpenSpec.upto fnExactPolyAtSpec)

/-- 'laws.FnExactShareSecret', WHERE WHAT IT READS IS OF BULK AT MOST 1048576: true; the input reads as it did. -/
def fnExactShareSecretUptoRow : OpenClaim := { program := "ytgbhcjfnkjhkiaadoor", sum := "b018cce36eb4f38f667e058ac8ad8d3b2e9d74c35d2aa8c84bcda7c78b784f0b", func := "loop.example/g00294/laws.FnExactShareSecret", spec := "fnExactShareSecret", unfollowed := true, recurses := true, named := ["loop.example/g00294/impl.remainders"], apart := false, laid := [("loop.example/g00294/impl.remainders", laid_loop_example_g00294_impl_remainders)], narrowed := true }
def FnExactShareSecretUptoSaid : Prop := fnExactShareSecretUptoRow.holds Tryd.pinned (OpenSpec.upto fnExactShareSecretSpec)

/-- 'laws.FnExactInterpolate', WHERE WHAT IT READS IS OF BULK AT MOST 1048576: true; the input reads as it did. -/
def fnExactInterpolateUptoRow : OpenClaim := { program := "ytgbhcjfnkjhkiaadoor", sum := "b018cce36eb4f38f667e058ac8ad8d3b2e9d74c35d2aa8c84bcda7c78b784f0b", func := "loop.example/g00294/laws.FnExactInterpolate", spec := "fnExactInterpolate", unfollowed := true, recurses := true, named := ["loop.example/g00294/impl.remainders"], apart := false, laid := [("loop.example/g00294/impl.remainders", laid_loop_example_g00294_impl_remainders)], narrowed := true }
def FnExactInterpolateUptoSaid : Prop := fnExactInterpolateUptoRow.holds Tryd.pinned (OpenSpec.upto fnExactInterpolateSpec)

/-- 'laws.FnExactOpenSecret', WHERE WHAT IT READS IS OF BULK AT MOST 1048576: true; the input reads as it did. -/
def fnExactOpenSecretUptoRow : OpenClaim := { program := "ytgbhcjfnkjhkiaadoor", sum := "b018cce36eb4f38f667e058ac8ad8d3b2e9d74c35d2aa8c84bcda7c78b784f0b", func := "loop.example/g00294/laws.FnExactOpenSecret", spec := "fnExactOpenSecret", unfollowed := true, recurses := true, named := ["loop.example/g00294/impl.remainders"], apart := false, laid := [("loop.example/g00294/impl.remainders", laid_loop_example_g00294_impl_remainders)], narrowed := true }
def FnExactOpenSecretUptoSaid : Prop := fnExactOpenSecretUptoRow.holds Tryd.pinned (OpenSpec.upto fnExactOpenSecretSpec)

/-- 'laws.FnExactRandomFor', WHERE WHAT IT READS IS OF BULK AT MOST 1048576: true; the input reads as it did. -/
def fnExactRandomForUptoRow : OpenClaim := { program := "ytgbhcjfnkjhkiaadoor", sum := "b018cce36eb4f38f667e058ac8ad8d3b2e9d74c35d2aa8c84bcda7c78b784f0b", func := "loop.example/g00294/laws.FnExactRandomFor", spec := "fnExactRandomFor", unfollowed := true, recurses := true, named := ["loop.example/g00294/impl.remainders"], apart := false, laid := [("loop.example/g00294/impl.remainders", laid_loop_example_g00294_impl_remainders)], narrowed := true }
def FnExactRandomForUptoSaid : Prop := fnExactRandomForUptoRow.holds Tryd.pinned (OpenSpec.upto fnExactRandomForSpec)

/-- 'laws.FnExactRefreshShares', WHERE WHAT IT READS IS OF BULK AT MOST 1048576: true; the input reads as it did. -/
def fnExactRefreshSharesUptoRow : OpenClaim := { program := "ytgbhcjfnkjhkiaadoor", sum := "b018cce36eb4f38f667e058ac8ad8d3b2e9d74c35d2aa8c84bcda7c78b784f0b", func := "loop.example/g00294/laws.FnExactRefreshShares", spec := "fnExactRefreshShares", unfollowed := true, recurses := true, named := ["loop.example/g00294/impl.remainders"], apart := false, laid := [("loop.example/g00294/impl.remainders", laid_loop_example_g00294_impl_remainders)], narrowed := true }
def FnExactRefreshSharesUptoSaid : Prop := fnExactRefreshSharesUptoRow.holds Tryd.pinned (OpenSpec.upto fnExactRefreshSharesSpec)

/-- 'laws.FnExactIsShared', WHERE WHAT IT READS IS OF BULK AT MOST 1048576: true; the input reads as it did. -/
def fnExactIsSharedUptoRow : OpenClaim := { program := "ytgbhcjfnkjhkiaadoor", sum := "b018cce36eb4f38f667e058ac8ad8d3b2e9d74c35d2aa8c84bcda7c78b784f0b", func := "loop.example/g00294/laws.FnExactIsShared", spec := "fnExactIsShared", unfollowed := true, recurses := true, named := ["loop.example/g00294/impl.remainders"], apart := false, laid := [("loop.example/g00294/impl.remainders", laid_loop_example_g00294_impl_remainders)], narrowed := true }
def FnExactIsSharedUptoSaid : Prop := fnExactIsSharedUptoRow.holds Tryd.pinned (OpenSpec.upto fnExactIsSharedSpec)

end Rows
end Go.Proofs.YtgbhcjfnkjhkiaaDoor
