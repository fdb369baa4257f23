/- The mathematics of EncodeShards. -/
import Derived.Test.YtipmfebnjmobfaaDoorCodeM
import Derived.Test.YtipmfebnjmobfaaDoorIter
import Derived.Test.YtipmfebnjmobfaaDoorJoinMath
set_option linter.unusedSimpArgs false
set_option linter.unusedVariables false
namespace G294
open Go Go.RowKit
def encOk (T : List (List UInt8)) (m : Int) : Bool := shapeOk T.length m && textsOk T
def encL (k m : Nat) (T : List (List UInt8)) : List Sh := shardsF (k + m) k (T.getD 0 []).length (codF k) T
def encR (T : List (List UInt8)) (m : Int) : List Sh := if encOk T m then encL T.length m.toNat T else []
theorem encR_no {T : List (List UInt8)} {m : Int} (h : encOk T m = false) : encR T m = [] := by unfold encR; rw [if_neg (by rw [h]; simp)]
theorem encR_yes {T : List (List UInt8)} {m : Nat} (h : encOk T m = true) : encR T m = encL T.length m T := by unfold encR; rw [if_pos h]; simp
theorem textsOk_at {T : List (List UInt8)} (h : textsOk T = true) : ∀ j, j < T.length → (T.getD j []).length = (T.getD 0 []).length := fun j hj => by
  have := ((textsOk_iff T).1 h j hj).1
  rw [← this]; simp [List.getD, hj]
theorem encR_len (T : List (List UInt8)) (m : Int) : (encR T m).length ≤ 14 := by
  unfold encR; split
  · rename_i h
    simp only [encOk, Bool.and_eq_true] at h
    have := shapeOk_b h.1
    simp [encL]; omega
  · simp
end G294
