/- Chapter 10: distances, costs, outputs at a state, flipped bits: the model's. -/
import Derived.Test.YtlhipceepoenfaaDoorVitS
set_option linter.unusedSimpArgs false
set_option linter.unusedVariables false
namespace G294
open Go Go.RowKit
theorem dl_take_same {a b : List UInt8} {k : Nat} (ha : k < a.length) (hb : k < b.length) (h : a.getD k 0 = b.getD k 0) : dl (a.take (k + 1)) (b.take (k + 1)) = dl (a.take k) (b.take k) := by
  rw [take_snocD a ha, take_snocD b hb, dl_append (by simp; omega), h]
  simp [dl]
theorem dl_take_more {a b : List UInt8} {k : Nat} (ha : k < a.length) (hb : k < b.length) (h : a.getD k 0 ≠ b.getD k 0) : dl (a.take (k + 1)) (b.take (k + 1)) = dl (a.take k) (b.take k) + 1 := by
  rw [take_snocD a ha, take_snocD b hb, dl_append (by simp; omega)]
  simp only [dl, if_neg h]
theorem cosR_no {s r : List UInt8} (h : cosOk s r = false) : cosR s r = 0 := if_neg (by rw [h]; decide)
theorem cosR_yes {s r : List UInt8} (h : cosOk s r = true) : cosR s r = (dl (encR10 s) r : Int) := if_pos h
theorem dstR_no {s r : List UInt8} (h : dstOk s r = false) : dstR s r = 0 := if_neg (by rw [h]; decide)
theorem dstR_yes {s r : List UInt8} (h : dstOk s r = true) : dstR s r = (dl s r : Int) := if_pos h
def RetIntB (w : World) (n : Int) (ok : Bool) (e : Ending) (w' : World) : Prop := e = .returned (.tuple #[.int .i64 n, .bool ok]) ∧ TurnIn 0 0 w w'
end G294
namespace Go.Proofs.YtlhipceepoenfaaDoor
open Go.RowKit G294


end Go.Proofs.YtlhipceepoenfaaDoor
