/- Regenerating codes: which are valid, and their sizes, on both sides; the conversion of a code. -/
import Derived.Deep.QuietTactic
import Derived.BigQuiet
import Derived.Test.YtbopocpmodpfcaaDoorFieldWalksB
import Derived.Test.YtbopocpmodpfcaaDoorTurns
import Derived.Test.YtbopocpmodpfcaaDoorOwn
import Derived.Test.YtbopocpmodpfcaaDoorBoxes
set_option linter.unusedSimpArgs false
set_option linter.unusedVariables false
namespace G294
open Go Go.RowKit
/-- a code of n nodes, k of which suffice -/
abbrev msrV (n k : Int) : Value := .agg #[.int .i64 n, .int .i64 k]
def msrOk (n k : Int) : Bool := decide (2 ≤ k ∧ k ≤ 4) && decide (2 * k - 1 ≤ n ∧ n ≤ 14)
theorem msrOk_b {n k : Int} (h : msrOk n k = true) : (2 ≤ k ∧ k ≤ 4) ∧ 2 * k - 1 ≤ n ∧ n ≤ 14 := by simpa [msrOk] using h
theorem msrOk_k {n k : Int} (h : msrOk n k = true) : k = 2 ∨ k = 3 ∨ k = 4 := by have := msrOk_b h; omega
def msrA (n k : Int) : Int := if msrOk n k = true then k - 1 else 0
def msrD (n k : Int) : Int := if msrOk n k = true then 2 * (k - 1) else 0
def msrB (n k : Int) : Int := if msrOk n k = true then k * (k - 1) else 0
theorem msrA_yes {n k : Int} (h : msrOk n k = true) : msrA n k = k - 1 := if_pos h
theorem msrD_yes {n k : Int} (h : msrOk n k = true) : msrD n k = 2 * (k - 1) := if_pos h
theorem msrB_yes {n k : Int} (h : msrOk n k = true) : msrB n k = k * (k - 1) := if_pos h
theorem msrA_no {n k : Int} (h : msrOk n k = false) : msrA n k = 0 := if_neg (by rw [h]; simp)
theorem msrD_no {n k : Int} (h : msrOk n k = false) : msrD n k = 0 := if_neg (by rw [h]; simp)
theorem msrB_no {n k : Int} (h : msrOk n k = false) : msrB n k = 0 := if_neg (by rw [h]; simp)
theorem alloc_duo0 (w : World) (x y : Value) (T : TypeId) : (w.alloc (.cells #[x, y] T)).cell? ⟨w.heap.size, 0, none⟩ = some x := by simp
theorem alloc_duo1 (w : World) (x y : Value) (T : TypeId) : (w.alloc (.cells #[x, y] T)).cell? ⟨w.heap.size, 1, none⟩ = some y := by simp
def RetSizes (w : World) (a d b : Int) (ok : Bool) (e : Ending) (w' : World) : Prop := e = .returned (.tuple #[.int .i64 a, .int .i64 d, .int .i64 b, .bool ok]) ∧ TurnIn 0 0 w w'
end G294
namespace Go.Proofs.YtbopocpmodpfcaaDoor
open Go.RowKit G294

end Go.Proofs.YtbopocpmodpfcaaDoor
