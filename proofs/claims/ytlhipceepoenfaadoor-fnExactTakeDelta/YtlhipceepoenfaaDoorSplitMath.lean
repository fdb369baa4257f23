/- The mathematics of SplitText and JoinShards. -/
import Derived.Test.YtlhipceepoenfaaDoorStrMem
import Derived.Test.YtlhipceepoenfaaDoorShape
set_option linter.unusedSimpArgs false
set_option linter.unusedVariables false
namespace G294
open Go Go.RowKit
/-- the length of a part -/
def partSize (n k : Nat) : Nat := (n + k - 1) / k
def padded (s : List UInt8) (k : Nat) : List UInt8 := s ++ List.replicate (k * partSize s.length k - s.length) 0
def splitP (s : List UInt8) (k : Nat) (i : Nat) : List UInt8 := ((padded s k).drop (i * partSize s.length k)).take (partSize s.length k)
def splitL (s : List UInt8) (k : Nat) : List (List UInt8) := (List.range k).map (splitP s k)
def splitOk (s : List UInt8) (k : Int) : Bool := dataOk k && decide ((s.length : Int) ≤ k * 40)
def splitR (s : List UInt8) (k : Int) : List (List UInt8) := if splitOk s k then splitL s k.toNat else []
theorem partSize_mul (n k : Nat) (hk : 1 ≤ k) : n ≤ k * partSize n k := by
  unfold partSize
  have h := Nat.div_add_mod (n + k - 1) k
  have h2 := Nat.mod_lt (n + k - 1) (show 0 < k by omega)
  omega
theorem partSize_le (n k : Nat) (hk : 1 ≤ k) (h : n ≤ k * 40) : partSize n k ≤ 40 := by
  unfold partSize
  have h1 : n + k - 1 < 41 * k := by omega
  have := (Nat.div_lt_iff_lt_mul (show 0 < k by omega)).2 h1
  omega
theorem padded_length (s : List UInt8) (k : Nat) (hk : 1 ≤ k) : (padded s k).length = k * partSize s.length k := by
  have := partSize_mul s.length k hk
  simp [padded]; omega
theorem splitP_length (s : List UInt8) (k i : Nat) (hk : 1 ≤ k) (hi : i < k) : (splitP s k i).length = partSize s.length k := by
  unfold splitP
  rw [List.length_take, List.length_drop, padded_length s k hk]
  have : (i + 1) * partSize s.length k ≤ k * partSize s.length k := Nat.mul_le_mul_right _ hi
  rw [Nat.add_mul] at this
  omega
@[simp] theorem splitL_length (s : List UInt8) (k : Nat) : (splitL s k).length = k := by simp [splitL]
theorem splitL_succ (s : List UInt8) (k i : Nat) : (List.range (i + 1)).map (splitP s k) = (List.range i).map (splitP s k) ++ [splitP s k i] := by simp [List.range_succ]
theorem extract_str (l : List UInt8) (a b : Nat) : (str l).extract a b = str ((l.drop a).take (b - a)) := by
  apply ByteArray.ext
  rw [ByteArray.data_extract]
  apply Array.ext'
  simp [str]
end G294
