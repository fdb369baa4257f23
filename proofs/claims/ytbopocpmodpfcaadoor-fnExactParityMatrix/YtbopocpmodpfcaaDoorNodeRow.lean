/- The row of a node: nodeNumber, nodeFactor, hasNode, powerRow, MsrRow; the model's l5X, l5F, l5Short, l5Row, MsrRow. -/
import Derived.Deep.QuietTactic
import Derived.BigQuiet
import Derived.Test.YtbopocpmodpfcaaDoorRowMath
import Derived.Test.YtbopocpmodpfcaaDoorMsr
import Derived.Test.YtbopocpmodpfcaaDoorSymRows
import Derived.Test.YtbopocpmodpfcaaDoorVecScale
import Derived.Test.YtbopocpmodpfcaaDoorSpecOwn
import Derived.Test.YtbopocpmodpfcaaDoorTailHeld
set_option linter.unusedSimpArgs false
set_option linter.unusedVariables false
namespace G294
open Go Go.RowKit
def nodeOk (n k i : Int) : Bool := msrOk n k && decide (0 ≤ i ∧ i < n)
theorem nodeOk_b {n k i : Int} (h : nodeOk n k i = true) : msrOk n k = true ∧ 0 ≤ i ∧ i < n := by simpa [nodeOk] using h
def rowR (n k i : Int) : List UInt8 := if nodeOk n k i = true then rowL (k - 1).toNat i.toNat else []
theorem rowR_no {n k i : Int} (h : nodeOk n k i = false) : rowR n k i = [] := if_neg (by rw [h]; simp)
theorem rowR_yes {n : Int} {a i : Nat} (h : nodeOk n ((a : Int) + 1) i = true) : rowR n ((a : Int) + 1) i = rowL a i := by unfold rowR; rw [if_pos h]; congr 1; omega
theorem rowR_len (n k i : Int) : (rowR n k i).length ≤ 6 := by
  unfold rowR; split
  · rename_i h
    have := msrOk_b (nodeOk_b h).1
    rw [rowL_length]; omega
  · simp
end G294
namespace Go.Proofs.YtbopocpmodpfcaaDoor
open Go.RowKit G294

theorem l1Power_u8 (x : UInt8) (a : Nat) (ha : a ≤ 1000) (w : World) : Calls Tryd.prog 56 #[.int .u8 (x.toNat : Int), .int .i64 a] w fun e w' => e = .returned (.int .u8 ((powB x a).toNat : Int)) ∧ w = w' := by
  have h := l1Power_any x.toNat a x.toNat_lt (by omega) w
  rw [powB_toNat]; exact h

theorem powerOf_u8 (x : UInt8) (a : Nat) (ha : a ≤ 1000) (w : World) (ht : Tab w) : Calls Tryd.prog 101 #[.int .u8 (x.toNat : Int), .int .i64 a] w fun e w' => e = .returned (.int .u8 ((powB x a).toNat : Int)) ∧ w = w' := by
  have h := powerOf_any x.toNat a x.toNat_lt (by omega) w ht
  rw [powB_toNat]; exact h

end Go.Proofs.YtbopocpmodpfcaaDoor
