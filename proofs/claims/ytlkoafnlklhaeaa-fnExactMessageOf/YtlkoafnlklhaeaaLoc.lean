/- Local codes: their numbers; the program's and the model's GoodLocal. -/
import Derived.Test.YtlkoafnlklhaeaaShape
import Derived.Test.YtlkoafnlklhaeaaTurns
set_option linter.unusedSimpArgs false
set_option linter.unusedVariables false
namespace G294
open Go Go.RowKit
def numOk (n : Int) : Bool := decide (1 ≤ n ∧ n ≤ 4)
def locOk (g e q : Int) : Bool := numOk g && numOk e && numOk q && decide (g * e ≤ 8)
/-- a local code as a value -/
abbrev locV (g e q : Int) : Value := .agg #[.int .i64 g, .int .i64 e, .int .i64 q]
theorem mul_bd {a b : Int} (h1 : 1 ≤ a ∧ a ≤ 4) (h2 : 1 ≤ b ∧ b ≤ 4) : 1 ≤ a * b ∧ a * b ≤ 16 := by
  obtain ⟨h1, h1'⟩ := h1
  obtain ⟨h2, h2'⟩ := h2
  have e1 : a = 1 ∨ a = 2 ∨ a = 3 ∨ a = 4 := by omega
  rcases e1 with rfl | rfl | rfl | rfl <;> omega
theorem numOk_b {n : Int} (h : numOk n = true) : 1 ≤ n ∧ n ≤ 4 := by simpa [numOk] using h
theorem locOk_b {g e q : Int} (h : locOk g e q = true) : ((1 ≤ g ∧ g ≤ 4) ∧ (1 ≤ e ∧ e ≤ 4)) ∧ (1 ≤ q ∧ q ≤ 4) ∧ 1 ≤ g * e ∧ g * e ≤ 8 := by
  have h' : (((1 ≤ g ∧ g ≤ 4) ∧ (1 ≤ e ∧ e ≤ 4)) ∧ (1 ≤ q ∧ q ≤ 4)) ∧ g * e ≤ 8 := by simpa [locOk, numOk] using h
  exact ⟨h'.1.1, h'.1.2, (mul_bd h'.1.1.1 h'.1.1.2).1, h'.2⟩
end G294
namespace Go.Proofs.Ytlkoafnlklhaeaa
open Go.RowKit G294

end Go.Proofs.Ytlkoafnlklhaeaa
