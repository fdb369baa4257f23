/- Chapter 10: outputs at a state, flipped bits: the model's. -/
import Derived.Test.YtlhipceepoenfaaDoorVitS2
import Derived.Test.YtlhipceepoenfaaDoorBytIn
import Derived.StillTailTactics
set_option linter.unusedSimpArgs false
set_option linter.unusedVariables false
namespace G294
open Go Go.RowKit
def RetOut3 (w : World) (s : List UInt8) (n : Int) (ok : Bool) (e : Ending) (w' : World) : Prop := e = .returned (.tuple #[.string (str s), .int .i64 n, .bool ok]) ∧ TurnIn 0 0 w w'
/-- bits turned at the first k of some places -/
def flipK (s : List UInt8) (l : List Int) : Nat → List UInt8
  | 0 => s
  | k + 1 => (flipK s l k).set (l.getD k 0).toNat ((flipK s l k).getD (l.getD k 0).toNat 0 ^^^ 1)
@[simp] theorem flipK_len (s : List UInt8) (l : List Int) (k : Nat) : (flipK s l k).length = s.length := by
  induction k with
  | zero => rfl
  | succ k ih => simp [flipK, ih]
def flpOk (s : List UInt8) (l : List Int) : Bool := bitsOk s 96 && someOk l s.length
def flpR (s : List UInt8) (l : List Int) : List UInt8 := if flpOk s l = true then flipK s l l.length else []
theorem xor_one (x : UInt8) : bits BinOp.xor IntKind.u8 (x.toNat : Int) 1 = ((x ^^^ 1).toNat : Int) := xor_u8 x 1
end G294
namespace Go.Proofs.YtlhipceepoenfaaDoor
open Go.RowKit G294
def outOk (st b : Int) : Bool := inB st 0 3 && inB b 0 1
def outS (st b : Int) : List UInt8 := if outOk st b = true then outN st.toNat b.toNat else []
def outX (st b : Int) : Int := if outOk st b = true then (nxtN st.toNat b.toNat : Int) else 0
theorem inB_b {n lo hi : Int} (h : inB n lo hi = true) : lo ≤ n ∧ n ≤ hi := by simpa [inB] using h

end Go.Proofs.YtlhipceepoenfaaDoor
