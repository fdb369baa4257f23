/- Shapes of codes: the program's goodDataCount and GoodShape, the model's GoodShape. -/
import Derived.Test.YtlhipceepoenfaaDoorFieldWalksB
import Derived.Test.YtlhipceepoenfaaDoorOwn
set_option linter.unusedSimpArgs false
set_option linter.unusedVariables false
namespace G294
open Go Go.RowKit
def dataOk (k : Int) : Bool := decide (1 ≤ k ∧ k ≤ 8)
def shapeOk (k m : Int) : Bool := dataOk k && decide (1 ≤ m ∧ m ≤ 6)
theorem shapeOk_b {k m : Int} (h : shapeOk k m = true) : (1 ≤ k ∧ k ≤ 8) ∧ 1 ≤ m ∧ m ≤ 6 := by simpa [shapeOk, dataOk] using h
end G294
namespace Go.Proofs.YtlhipceepoenfaaDoor
open Go.RowKit G294

end Go.Proofs.YtlhipceepoenfaaDoor
