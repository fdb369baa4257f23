/- Bytes with the product of GF(256), and vectors of them: plain functions. -/
import Derived.Test.YtlhipceepoenfaaDoorFieldMath
set_option linter.unusedSimpArgs false
set_option linter.unusedVariables false
namespace G294
def gmul (a b : UInt8) : UInt8 := UInt8.ofNat (gm a.toNat b.toNat)
theorem gmul_toNat (a b : UInt8) : (gmul a b).toNat = gm a.toNat b.toNat := by
  unfold gmul
  rw [UInt8.toNat_ofNat']
  exact Nat.mod_eq_of_lt (gm_lt a.toNat_lt _)
def scaleL (a : UInt8) (l : List UInt8) : List UInt8 := l.map (gmul a)
def addL (l m : List UInt8) : List UInt8 := List.zipWith (· ^^^ ·) l m
def dotK (l m : List UInt8) : Nat → UInt8
  | 0 => 0
  | k + 1 => dotK l m k ^^^ gmul (l.getD k 0) (m.getD k 0)
def dotL (l m : List UInt8) : UInt8 := dotK l m l.length
theorem dotK_succ (l m : List UInt8) (k : Nat) (h1 : k < l.length) (h2 : k < m.length) : dotK l m (k + 1) = dotK l m k ^^^ gmul l[k] m[k] := by
  simp [dotK, List.getD, h1, h2]
/-- what ScaleVector answers -/
def scaleR (a : UInt8) (l : List UInt8) : List UInt8 := if l.length ≤ 80 then scaleL a l else []
def scaleOk (l : List UInt8) : Bool := decide (l.length ≤ 80)
def addR (l m : List UInt8) : List UInt8 := if l.length ≤ 80 ∧ l.length = m.length then addL l m else []
def pairOk (l m : List UInt8) : Bool := decide (l.length ≤ 80 ∧ l.length = m.length)
def dotR (l m : List UInt8) : UInt8 := if l.length ≤ 80 ∧ l.length = m.length then dotL l m else 0
end G294
