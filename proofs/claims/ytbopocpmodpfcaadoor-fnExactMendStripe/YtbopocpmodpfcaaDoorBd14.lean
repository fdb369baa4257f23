/- Joined texts: ChgMath. -/
import Derived.Test.YtbopocpmodpfcaaDoorBd11
set_option linter.unusedSimpArgs false
set_option linter.unusedVariables false
/- ChangeStripe: what is changed. -/
namespace G294
open Go Go.RowKit
def chgOk (s : Strp) (i : Int) (t : List UInt8) : Bool := strpOk s && (decide (0 ≤ i ∧ i < (s.1.length : Int)) && decide (t.length = firstLen s))
def chgS (s : Strp) (i : Nat) (t : List UInt8) : Strp := (s.1.set i t, textsF s.2.length fun k => plusL (s.2.getD k []) (prmF k i) (plusL (s.1.getD i []) 1 t))
def chgR (s : Strp) (i : Int) (t : List UInt8) : Strp := if chgOk s i t = true then chgS s i.toNat t else ([], [])
theorem chgR_no {s : Strp} {i : Int} {t : List UInt8} (h : chgOk s i t = false) : chgR s i t = ([], []) := if_neg (by rw [h]; simp)
theorem chgR_yes {s : Strp} {i : Nat} {t : List UInt8} (h : chgOk s i t = true) : chgR s i t = chgS s i t := by unfold chgR; rw [if_pos h]; simp
theorem chgOk_b {s : Strp} {i : Int} {t : List UInt8} (h : chgOk s i t = true) : strpOk s = true ∧ (0 ≤ i ∧ i < (s.1.length : Int)) ∧ t.length = firstLen s := by
  simpa [chgOk] using h
theorem chgR_len (s : Strp) (i : Int) (t : List UInt8) : (chgR s i t).1.length + (chgR s i t).2.length ≤ 20 := by
  unfold chgR; split
  · rename_i h
    have := strpOk_b (chgOk_b h).1
    simp only [chgS, List.length_set, textsF_length]; omega
  · simp
end G294
