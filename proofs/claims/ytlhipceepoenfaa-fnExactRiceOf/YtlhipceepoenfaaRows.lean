/-
  No cell of these rows narrows 'for every input' (looked for: loops, veiled, ifaces, maps, wideKeys, modest, calm, conditions, laid).
  DERIVED. THE GIVEN ROWS OF THIS SEAT. 9 by the template 'for every input the law returns true; each argument reads behind the call as it read before'; 0 by the template 'total and deterministic' (their statements: YtlhipceepoenfaaTotals.lean).
  GIVEN WITH THE SEED: the statements are not yours to turn. If you find one false, say at which input.
  Laid BY PROGRAM, IN A SANDBOX (cutbox-rows.mjs): the forced cells as the released guide's own fill.sh prints them over the translation 65bc792af878e049… (all of the seat's roots in one cut). By AI agents, Wed Nov 11 2026. No macro, syntax, notation, axiom, sorry.
-/
import Derived.Test.YtlhipceepoenfaaChecked
import GoSem.Claim
import GoSem.ClaimJoined
import GoSem.ClaimMapViews
import Derived.JoinedTies
import Derived.KernelRfl
namespace Go.Proofs.Ytlhipceepoenfaa
/- THE CELL 'sum', in the pinned program and in every row, IS THE sha256 OF THE DUMP (.gsa) THAT YtlhipceepoenfaaProg.lean LOADS. Nothing in Lean hashes anything: it is a label: what it is worth is what the hold of that sum in a sandbox is worth. -/
noncomputable def Try.pinned : Pinned := { name := "ytlhipceepoenfaa", sum := "65bc792af878e04924a2cecbe9ed811b56dfd081d03cc8322f7fba50fc97553d", checked := Try.checked }
namespace Rows
def none {H : Type} : Left H := { results := [], args := [] }

/-- 'laws.FnExactGammaOf': WHATEVER THE INPUT: true; the input reads as it did. -/
def fnExactGammaOfSpec : ChangeSpec := { name := "fnExactGammaOf", fn := fun _ => fun
  | [d] => { results := [.lit (.bool true)], args := [d] }
  | _ => none }
def fnExactGammaOfRow : OpenClaim := { program := "ytlhipceepoenfaa", sum := "65bc792af878e04924a2cecbe9ed811b56dfd081d03cc8322f7fba50fc97553d", func := "loop.example/g00294/laws.FnExactGammaOf", spec := "fnExactGammaOf", unfollowed := true, recurses := true, apart := false }
def FnExactGammaOfSaid : Prop := fnExactGammaOfRow.holds Try.pinned (OpenSpec.ofChange fnExactGammaOfSpec)

/-- ITS FALSE NEIGHBOUR: 'it returns false'. Refute it at one input. -/
def fnExactGammaOfWrong : ChangeSpec := { name := "fnExactGammaOf", fn := fun _ => fun
  | [d] => { results := [.lit (.bool false)], args := [d] }
  | _ => none }
def FnExactGammaOfWrongFalsely : Prop := fnExactGammaOfRow.holds Try.pinned (OpenSpec.ofChange fnExactGammaOfWrong)

/-- 'laws.FnExactDeltaOf': WHATEVER THE INPUT: true; the input reads as it did. -/
def fnExactDeltaOfSpec : ChangeSpec := { name := "fnExactDeltaOf", fn := fun _ => fun
  | [d] => { results := [.lit (.bool true)], args := [d] }
  | _ => none }
def fnExactDeltaOfRow : OpenClaim := { program := "ytlhipceepoenfaa", sum := "65bc792af878e04924a2cecbe9ed811b56dfd081d03cc8322f7fba50fc97553d", func := "loop.example/g00294/laws.FnExactDeltaOf", spec := "fnExactDeltaOf", unfollowed := true, recurses := true, apart := false }
def FnExactDeltaOfSaid : Prop := fnExactDeltaOfRow.holds Try.pinned (OpenSpec.ofChange fnExactDeltaOfSpec)

/-- ITS FALSE NEIGHBOUR: 'it returns false'. Refute it at one input. -/
def fnExactDeltaOfWrong : ChangeSpec := { name := "fnExactDeltaOf", fn := fun _ => fun
  | [d] => { results := [.lit (.bool false)], args := [d] }
  | _ => none }
def FnExactDeltaOfWrongFalsely : Prop := fnExactDeltaOfRow.holds Try.pinned (OpenSpec.ofChange fnExactDeltaOfWrong)

/-- 'laws.FnExactRiceOf': WHATEVER THE INPUT: true; the input reads as it did. -/
def fnExactRiceOfSpec : ChangeSpec := { name := "fnExactRiceOf", fn := fun _ => fun
  | [d1, d2] => { results := [.lit (.bool true)], args := [d1, d2] }
  | _ => none }
def fnExactRiceOfRow : OpenClaim := { program := "ytlhipceepoenfaa", sum := "65bc792af878e04924a2cecbe9ed811b56dfd081d03cc8322f7fba50fc97553d", func := "loop.example/g00294/laws.FnExactRiceOf", spec := "fnExactRiceOf", inPlace := ["internal/abi.NoEscape", "internal/bytealg.MakeNoZero"], unfollowed := true, recurses := true, apart := false }
def FnExactRiceOfSaid : Prop := fnExactRiceOfRow.holds Try.pinned (OpenSpec.ofChange fnExactRiceOfSpec)

/-- ITS FALSE NEIGHBOUR: 'it returns false'. Refute it at one input. -/
def fnExactRiceOfWrong : ChangeSpec := { name := "fnExactRiceOf", fn := fun _ => fun
  | [d1, d2] => { results := [.lit (.bool false)], args := [d1, d2] }
  | _ => none }
def FnExactRiceOfWrongFalsely : Prop := fnExactRiceOfRow.holds Try.pinned (OpenSpec.ofChange fnExactRiceOfWrong)

/-- 'laws.FnExactSumsOf': WHATEVER THE INPUT: true; the input reads as it did. -/
def fnExactSumsOfSpec : ChangeSpec := { name := "fnExactSumsOf", fn := fun _ => fun
  | [d] => { results := [.lit (.bool true)], args := [d] }
  | _ => none }
def fnExactSumsOfRow : OpenClaim := { program := "ytlhipceepoenfaa", sum := "65bc792af878e04924a2cecbe9ed811b56dfd081d03cc8322f7fba50fc97553d", func := "loop.example/g00294/laws.FnExactSumsOf", spec := "fnExactSumsOf", unfollowed := true, recurses := true, apart := false }
def FnExactSumsOfSaid : Prop := fnExactSumsOfRow.holds Try.pinned (OpenSpec.ofChange fnExactSumsOfSpec)

/-- ITS FALSE NEIGHBOUR: 'it returns false'. Refute it at one input. -/
def fnExactSumsOfWrong : ChangeSpec := { name := "fnExactSumsOf", fn := fun _ => fun
  | [d] => { results := [.lit (.bool false)], args := [d] }
  | _ => none }
def FnExactSumsOfWrongFalsely : Prop := fnExactSumsOfRow.holds Try.pinned (OpenSpec.ofChange fnExactSumsOfWrong)

/-- 'laws.FnExactFibonacciOf': WHATEVER THE INPUT: true; the input reads as it did. -/
def fnExactFibonacciOfSpec : ChangeSpec := { name := "fnExactFibonacciOf", fn := fun _ => fun
  | [d] => { results := [.lit (.bool true)], args := [d] }
  | _ => none }
def fnExactFibonacciOfRow : OpenClaim := { program := "ytlhipceepoenfaa", sum := "65bc792af878e04924a2cecbe9ed811b56dfd081d03cc8322f7fba50fc97553d", func := "loop.example/g00294/laws.FnExactFibonacciOf", spec := "fnExactFibonacciOf", unfollowed := true, recurses := true, apart := false }
def FnExactFibonacciOfSaid : Prop := fnExactFibonacciOfRow.holds Try.pinned (OpenSpec.ofChange fnExactFibonacciOfSpec)

/-- ITS FALSE NEIGHBOUR: 'it returns false'. Refute it at one input. -/
def fnExactFibonacciOfWrong : ChangeSpec := { name := "fnExactFibonacciOf", fn := fun _ => fun
  | [d] => { results := [.lit (.bool false)], args := [d] }
  | _ => none }
def FnExactFibonacciOfWrongFalsely : Prop := fnExactFibonacciOfRow.holds Try.pinned (OpenSpec.ofChange fnExactFibonacciOfWrong)

/-- 'laws.FnExactTakeFibonacci': WHATEVER THE INPUT: true; the input reads as it did. -/
def fnExactTakeFibonacciSpec : ChangeSpec := { name := "fnExactTakeFibonacci", fn := fun _ => fun
  | [d] => { results := [.lit (.bool true)], args := [d] }
  | _ => none }
def fnExactTakeFibonacciRow : OpenClaim := { program := "ytlhipceepoenfaa", sum := "65bc792af878e04924a2cecbe9ed811b56dfd081d03cc8322f7fba50fc97553d", func := "loop.example/g00294/laws.FnExactTakeFibonacci", spec := "fnExactTakeFibonacci", unfollowed := true, recurses := true, apart := false }
def FnExactTakeFibonacciSaid : Prop := fnExactTakeFibonacciRow.holds Try.pinned (OpenSpec.ofChange fnExactTakeFibonacciSpec)

/-- ITS FALSE NEIGHBOUR: 'it returns false'. Refute it at one input. -/
def fnExactTakeFibonacciWrong : ChangeSpec := { name := "fnExactTakeFibonacci", fn := fun _ => fun
  | [d] => { results := [.lit (.bool false)], args := [d] }
  | _ => none }
def FnExactTakeFibonacciWrongFalsely : Prop := fnExactTakeFibonacciRow.holds Try.pinned (OpenSpec.ofChange fnExactTakeFibonacciWrong)

/-- 'laws.FnZeckendorf': WHATEVER THE INPUT: true; the input reads as it did. -/
def fnZeckendorfSpec : ChangeSpec := { name := "fnZeckendorf", fn := fun _ => fun
  | [d1, d2] => { results := [.lit (.bool true)], args := [d1, d2] }
  | _ => none }
def fnZeckendorfRow : OpenClaim := { program := "ytlhipceepoenfaa", sum := "65bc792af878e04924a2cecbe9ed811b56dfd081d03cc8322f7fba50fc97553d", func := "loop.example/g00294/laws.FnZeckendorf", spec := "fnZeckendorf", unfollowed := true, recurses := true, apart := false }
def FnZeckendorfSaid : Prop := fnZeckendorfRow.holds Try.pinned (OpenSpec.ofChange fnZeckendorfSpec)

/-- ITS FALSE NEIGHBOUR: 'it returns false'. Refute it at one input. -/
def fnZeckendorfWrong : ChangeSpec := { name := "fnZeckendorf", fn := fun _ => fun
  | [d1, d2] => { results := [.lit (.bool false)], args := [d1, d2] }
  | _ => none }
def FnZeckendorfWrongFalsely : Prop := fnZeckendorfRow.holds Try.pinned (OpenSpec.ofChange fnZeckendorfWrong)

/-- 'laws.FnExactFirstColumn': WHATEVER THE INPUT: true; the input reads as it did. -/
def fnExactFirstColumnSpec : ChangeSpec := { name := "fnExactFirstColumn", fn := fun _ => fun
  | [d] => { results := [.lit (.bool true)], args := [d] }
  | _ => none }
def fnExactFirstColumnRow : OpenClaim := { program := "ytlhipceepoenfaa", sum := "65bc792af878e04924a2cecbe9ed811b56dfd081d03cc8322f7fba50fc97553d", func := "loop.example/g00294/laws.FnExactFirstColumn", spec := "fnExactFirstColumn", recurses := true, apart := false }
def FnExactFirstColumnSaid : Prop := fnExactFirstColumnRow.holds Try.pinned (OpenSpec.ofChange fnExactFirstColumnSpec)

/-- ITS FALSE NEIGHBOUR: 'it returns false'. Refute it at one input. -/
def fnExactFirstColumnWrong : ChangeSpec := { name := "fnExactFirstColumn", fn := fun _ => fun
  | [d] => { results := [.lit (.bool false)], args := [d] }
  | _ => none }
def FnExactFirstColumnWrongFalsely : Prop := fnExactFirstColumnRow.holds Try.pinned (OpenSpec.ofChange fnExactFirstColumnWrong)

/-- 'laws.FnColumns': WHATEVER THE INPUT: true; the input reads as it did. -/
def fnColumnsSpec : ChangeSpec := { name := "fnColumns", fn := fun _ => fun
  | [d1, d2] => { results := [.lit (.bool true)], args := [d1, d2] }
  | _ => none }
def fnColumnsRow : OpenClaim := { program := "ytlhipceepoenfaa", sum := "65bc792af878e04924a2cecbe9ed811b56dfd081d03cc8322f7fba50fc97553d", func := "loop.example/g00294/laws.FnColumns", spec := "fnColumns", inPlace := ["internal/bytealg.CountString", "internal/bytealg.IndexByteString", "internal/bytealg.IndexString"], recurses := true, named := ["internal/bytealg.MaxLen"], apart := false }
def FnColumnsSaid : Prop := fnColumnsRow.holds Try.pinned (OpenSpec.ofChange fnColumnsSpec)

/-- ITS FALSE NEIGHBOUR: 'it returns false'. Refute it at one input. -/
def fnColumnsWrong : ChangeSpec := { name := "fnColumns", fn := fun _ => fun
  | [d1, d2] => { results := [.lit (.bool false)], args := [d1, d2] }
  | _ => none }
def FnColumnsWrongFalsely : Prop := fnColumnsRow.holds Try.pinned (OpenSpec.ofChange fnColumnsWrong)

/- THE SECOND FORM. 'bulk': how many values and letters a reading holds, each counted each time it is reached (what is shared counts as often as it is met; a slice's spare places count too). A statement '..UptoSaid' is the law's where the arguments, and the package variables that the reading takes, are together of bulk at most 1048576: NARROWER than '..Said'. Prove '..Said' where nothing that the law and all that it calls make is longer than what came in: it says more and counts as full. Else prove '..UptoSaid'. A law counts once. -/
mutual
def uptoBulk {H : Type} : DataW H → Nat
  | .lit (.string bytes) => bytes.length + 1
  | .lit _ => 1
  | .nil => 1
  | .ptr d => uptoBulk d + 1
  | .slice elems spare => uptoBulkAll elems + uptoBulkAll spare + 1
  | .agg parts => uptoBulkAll parts + 1
  | .iface _ d => uptoBulk d + 1
  | .map entries => uptoBulkEntries entries + 1
  | .held _ => 1
def uptoBulkAll {H : Type} : List (DataW H) → Nat
  | [] => 0
  | d :: r => uptoBulk d + uptoBulkAll r
def uptoBulkEntries {H : Type} : List (Lit × DataW H) → Nat
  | [] => 0
  | x :: r => uptoBulkEntry x + uptoBulkEntries r
def uptoBulkEntry {H : Type} : Lit × DataW H → Nat
  | (.string bytes, d) => bytes.length + uptoBulk d + 1
  | (_, d) => uptoBulk d + 1
 end
def uptoSmall : (H : Type) → List (DataW H) → Bool := fun _ ds => decide (uptoBulkAll ds ≤ 1048576)
def OpenSpec.upto (s : _root_.Go.ChangeSpec) : _root_.Go.OpenSpec := { _root_.Go.OpenSpec.ofChange s with cond := some uptoSmall }

/-- 'laws.FnExactGammaOf', WHERE WHAT IT READS IS OF BULK AT MOST 1048576: true; the input reads as it did. -/
def fnExactGammaOfUptoRow : OpenClaim := { program := "ytlhipceepoenfaa", sum := "65bc792af878e04924a2cecbe9ed811b56dfd081d03cc8322f7fba50fc97553d", func := "loop.example/g00294/laws.FnExactGammaOf", spec := "fnExactGammaOf", unfollowed := true, recurses := true, apart := false, narrowed := true }
def FnExactGammaOfUptoSaid : Prop := fnExactGammaOfUptoRow.holds Try.pinned (OpenSpec.upto fnExactGammaOfSpec)

/-- 'laws.FnExactDeltaOf', WHERE WHAT IT READS IS OF BULK AT MOST 1048576: true; the input reads as it did. -/
def fnExactDeltaOfUptoRow : OpenClaim := { program := "ytlhipceepoenfaa", sum := "65bc792af878e04924a2cecbe9ed811b56dfd081d03cc8322f7fba50fc97553d", func := "loop.example/g00294/laws.FnExactDeltaOf", spec := "fnExactDeltaOf", unfollowed := true, recurses := true, apart := false, narrowed := true }
def FnExactDeltaOfUptoSaid : Prop := fnExactDeltaOfUptoRow.holds Try.pinned (OpenSpec.upto fnExactDeltaOfSpec)

/-- 'laws.FnExactRiceOf', WHERE WHAT IT READS IS OF BULK AT MOST 1048576: true; the input reads as it did. -/
def fnExactRiceOfUptoRow : OpenClaim := { program := "ytlhipceepoenfaa", sum := "65bc792af878e04924a2cecbe9ed811b56dfd081d03cc8322f7fba50fc97553d", func := "loop.example/g00294/laws.FnExactRiceOf", spec := "fnExactRiceOf", inPlace := ["internal/abi.NoEscape", "internal/bytealg.MakeNoZero"], unfollowed := true, recurses := true, apart := false, narrowed := true }
def FnExactRiceOfUptoSaid : Prop := fnExactRiceOfUptoRow.holds Try.pinned (OpenSpec.upto fnExactRiceOfSpec)

/-- 'laws.FnExactSumsOf', WHERE WHAT IT READS IS OF BULK AT MOST 1048576: true; the input reads as it did. -/
def fnExactSumsOfUptoRow : OpenClaim := { program := "ytlhipceepoenfaa", sum := "65bc792af878e04924a2cecbe9ed811b56dfd081d03cc8322f7fba50fc97553d", func := "loop.example/g00294/laws.FnExactSumsOf", spec := "fnExactSumsOf", unfollowed := true, recurses := true, apart := false, narrowed := true }
def FnExactSumsOfUptoSaid : Prop := fnExactSumsOfUptoRow.holds Try.pinned (OpenSpec.upto fnExactSumsOfSpec)

/-- 'laws.FnExactFibonacciOf', WHERE WHAT IT READS IS OF BULK AT MOST 1048576: true; the input reads as it did. -/
def fnExactFibonacciOfUptoRow : OpenClaim := { program := "ytlhipceepoenfaa", sum := "65bc792af878e04924a2cecbe9ed811b56dfd081d03cc8322f7fba50fc97553d", func := "loop.example/g00294/laws.FnExactFibonacciOf", spec := "fnExactFibonacciOf", unfollowed := true, recurses := true, apart := false, narrowed := true }
def FnExactFibonacciOfUptoSaid : Prop := fnExactFibonacciOfUptoRow.holds Try.pinned (OpenSpec.upto fnExactFibonacciOfSpec)

/-- 'laws.FnExactTakeFibonacci', WHERE WHAT IT READS IS OF BULK AT MOST 1048576: true; the input reads as it did. -/
def fnExactTakeFibonacciUptoRow : OpenClaim := { program := "ytlhipceepoenfaa", sum := "65bc792af878e04924a2cecbe9ed811b56dfd081d03cc8322f7fba50fc97553d", func := "loop.example/g00294/laws.FnExactTakeFibonacci", spec := "fnExactTakeFibonacci", unfollowed := true, recurses := true, apart := false, narrowed := true }
def FnExactTakeFibonacciUptoSaid : Prop := fnExactTakeFibonacciUptoRow.holds Try.pinned (OpenSpec.upto fnExactTakeFibonacciSpec)

/-- 'laws.FnZeckendorf', WHERE WHAT IT READS IS OF BULK AT MOST 1048576: true; the input reads as it did. -/
def fnZeckendorfUptoRow : OpenClaim := { program := "ytlhipceepoenfaa", sum := "65bc792af878e04924a2cecbe9ed811b56dfd081d03cc8322f7fba50fc97553d", func := "loop.example/g00294/laws.FnZeckendorf", spec := "fnZeckendorf", unfollowed := true, recurses := true, apart := false, narrowed := true }
def FnZeckendorfUptoSaid : Prop := fnZeckendorfUptoRow.holds Try.pinned (OpenSpec.upto fnZeckendorfSpec)

/-- 'laws.FnExactFirstColumn', WHERE WHAT IT READS IS OF BULK AT MOST 1048576: true; the input reads as it did. -/
def fnExactFirstColumnUptoRow : OpenClaim := { program := "ytlhipceepoenfaa", sum := "65bc792af878e04924a2cecbe9ed811b56dfd081d03cc8322f7fba50fc97553d", func := "loop.example/g00294/laws.FnExactFirstColumn", spec := "fnExactFirstColumn", recurses := true, apart := false, narrowed := true }
def FnExactFirstColumnUptoSaid : Prop := fnExactFirstColumnUptoRow.holds Try.pinned (OpenSpec.upto fnExactFirstColumnSpec)

/-- 'laws.FnColumns', WHERE WHAT IT READS IS OF BULK AT MOST 1048576: true; the input reads as it did. -/
def fnColumnsUptoRow : OpenClaim := { program := "ytlhipceepoenfaa", sum := "65bc792af878e04924a2cecbe9ed811b56dfd081d03cc8322f7fba50fc97553d", func := "loop.example/g00294/laws.FnColumns", spec := "fnColumns", inPlace := ["internal/bytealg.CountString", "internal/bytealg.IndexByteString", "internal/bytealg.IndexString"], recurses := true, named := ["internal/bytealg.MaxLen"], apart := false, narrowed := true }
def FnColumnsUptoSaid : Prop := fnColumnsUptoRow.holds Try.pinned (OpenSpec.upto fnColumnsSpec)

end Rows
end Go.Proofs.Ytlhipceepoenfaa
