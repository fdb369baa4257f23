/- Elimination in place: pivotBelow, scaleRow, clearColumn, eliminate. -/
import Derived.Test.YtlhipceepoenfaaDoorFieldOps
import Derived.Test.YtlhipceepoenfaaDoorMatI
import Derived.Test.YtlhipceepoenfaaDoorTurns
import Derived.BigRegion
import Derived.StillTailTactics
set_option linter.unusedSimpArgs false
set_option linter.unusedVariables false
namespace Go.Proofs.YtlhipceepoenfaaDoor
open Go.RowKit G294

def pivV (o : Option Nat) : Value := match o with
  | none => .tuple #[.int .i64 0, .bool false]
  | some k => .tuple #[.int .i64 k, .bool true]

/-- row k turns in place -/
def RowTurn (E EE : TypeId) (w : World) (lo hi : Nat) (v : Value) (L : Mat) (vs : List Value) (e : Ending) (w' : World) : Prop := e = .returned (.tuple #[]) ∧ OwnM E EE w' lo hi v L vs ∧ TurnIn lo hi w w'

theorem stilly {P : Program} {f : FuncId} {args : Array Value} {w : World} {v : Value} (h : Calls P f args w fun e w' => e = .returned v ∧ w = w') :
    Calls P f args w fun e w' => e = .returned v ∧ w' = w := h.mono fun _ _ ⟨he, hw⟩ => ⟨he, hw.symm⟩

/-- column j cleared in the rows ahead of k and in the first m columns of row k -/
def clK (a j k m : Nat) (F : Ents) : Ents := fun i jj => if i < k ∨ (i = k ∧ jj < m) then clF a (fun i => F i j) F i jj else F i jj