/- GoodMatrix, the program's and the model's. -/
import Derived.Test.YtlhipceepoenfaaDoorMatMem
import Derived.Test.YtlhipceepoenfaaDoorFieldWalksB
import Derived.Deep.QuietTactic
import Derived.BigQuiet
import Derived.Deep.RegionHeld3
set_option linter.unusedSimpArgs false
set_option linter.unusedVariables false
namespace G294
theorem goodI_nat (n : Nat) : goodI (n : Int) = decide (1 ≤ n ∧ n ≤ 16) := by
  unfold goodI; rw [decide_eq_decide]; omega
theorem goodM_no1 {L : Mat} (h : goodI L.length = false) : goodM L = false := by
  rw [goodI_nat] at h; simp at h
  rw [Bool.eq_false_iff]; intro e
  have := (goodM_iff L).1 e
  omega
theorem goodM_no2 {L : Mat} (h : goodI (wid L) = false) : goodM L = false := by
  rw [goodI_nat] at h; simp at h
  rw [Bool.eq_false_iff]; intro e
  have := (goodM_iff L).1 e
  omega
theorem goodM_no3 {L : Mat} {k : Nat} (hk : k < L.length) (h : (L.getD k []).length ≠ wid L) : goodM L = false := by
  rw [Bool.eq_false_iff]; intro e
  exact h (((goodM_iff L).1 e).2.2.2.2 k hk)
theorem goodM_yes {L : Mat} (h1 : goodI L.length = true) (h2 : goodI (wid L) = true) (h : ∀ i, i < L.length → (L.getD i []).length = wid L) : goodM L = true := by
  rw [goodI_nat] at h1 h2; simp at h1 h2
  exact (goodM_iff L).2 ⟨h1.1, h1.2, h2.1, h2.2, h⟩
end G294
namespace Go.Proofs.YtlhipceepoenfaaDoor
open Go.RowKit G294

theorem l1In_side (n : Int) (w : World) : Calls Tryd.prog 28 #[.int .i64 n, .int .i64 1, .int .i64 16] w fun e w' => e = .returned (.bool (goodI n)) ∧ w = w' := l1In_any n 1 16 w

end Go.Proofs.YtlhipceepoenfaaDoor
