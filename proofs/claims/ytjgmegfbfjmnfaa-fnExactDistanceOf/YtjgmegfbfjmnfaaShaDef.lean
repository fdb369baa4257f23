/- What chapter 7's functions answer. -/
import Derived.Test.YtjgmegfbfjmnfaaRndMath
set_option linter.unusedSimpArgs false
set_option linter.unusedVariables false
namespace G294
def polOk (l : List UInt8) : Bool := decide (l.length ≤ 20)
def polR (l : List UInt8) (x : UInt8) : UInt8 := if l.length ≤ 20 then hor x l else 0
def shaL (s : UInt8) (l : List UInt8) (n : Nat) : List Sr := (List.range n).map fun i => (UInt8.ofNat (i + 1), hor (UInt8.ofNat (i + 1)) (s :: l))
@[simp] theorem shaL_length (s : UInt8) (l : List UInt8) (n : Nat) : (shaL s l n).length = n := by simp [shaL]
theorem shaL_get (s : UInt8) (l : List UInt8) (n k : Nat) (h : k < n) : (shaL s l n)[k]? = some (UInt8.ofNat (k + 1), hor (UInt8.ofNat (k + 1)) (s :: l)) := by simp [shaL, h]
def shaOk (l : List UInt8) (n : Int) : Bool := decide (l.length ≤ 8) && decide (1 ≤ n ∧ n ≤ 20)
def shaR (s : UInt8) (l : List UInt8) (n : Int) : List Sr := if shaOk l n = true then shaL s l n.toNat else []
theorem shaR_yes {s : UInt8} {l : List UInt8} {n : Int} (h : shaOk l n = true) : shaR s l n = shaL s l n.toNat := if_pos h
theorem shaR_no {s : UInt8} {l : List UInt8} {n : Int} (h : shaOk l n = false) : shaR s l n = [] := if_neg (by rw [h]; simp)
theorem shaR_len (s : UInt8) (l : List UInt8) (n : Int) : (shaR s l n).length ≤ 20 := by
  unfold shaR; split
  · rename_i h
    simp only [shaOk, Bool.and_eq_true, decide_eq_true_eq] at h
    simp; omega
  · simp
def intOk (l : List Sr) : Bool := shrOk l && decide (0 < l.length)
def intR (l : List Sr) (x : UInt8) : UInt8 := if intOk l = true then lag (xF l) (yF l) x l.length else 0
def opnOk (l : List Sr) (k : Int) : Bool := shrOk l && decide (1 ≤ k ∧ k ≤ l.length)
def opnR (l : List Sr) (k : Int) : UInt8 := if opnOk l k = true then lag (xF l) (yF l) 0 k.toNat else 0
def onAll (l : List Sr) (k : Nat) : Bool := decide (∀ i, i < l.length → k ≤ i → lag (xF l) (yF l) (xF l i) k = yF l i)
def isSOk (l : List Sr) (k : Int) : Bool := shrOk l && decide (1 ≤ k ∧ k ≤ 20)
def isSR (l : List Sr) (k : Int) : Bool := isSOk l k && onAll l k.toNat
def sameX (a b : List Sr) : Bool := decide (a.length = b.length ∧ ∀ i, i < a.length → xF a i = xF b i)
def adsOk (a b : List Sr) : Bool := shrOk a && shrOk b && sameX a b
def adsL (a b : List Sr) : List Sr := (List.range a.length).map fun i => (xF a i, yF a i ^^^ yF b i)
@[simp] theorem adsL_length (a b : List Sr) : (adsL a b).length = a.length := by simp [adsL]
theorem adsL_get (a b : List Sr) (k : Nat) (h : k < a.length) : (adsL a b)[k]? = some (xF a k, yF a k ^^^ yF b k) := by simp [adsL, h]
def adsR (a b : List Sr) : List Sr := if adsOk a b = true then adsL a b else []
theorem adsR_len (a b : List Sr) : (adsR a b).length ≤ 20 := by
  unfold adsR; split
  · rename_i h
    simp only [adsOk, Bool.and_eq_true] at h
    have := shr_20 h.1.1
    simpa using this
  · simp
def refOk (l : List Sr) (r : List UInt8) : Bool := shrOk l && decide (r.length ≤ 8)
def refL (l : List Sr) (r : List UInt8) : List Sr := (List.range l.length).map fun i => (xF l i, yF l i ^^^ hor (xF l i) (0 :: r))
@[simp] theorem refL_length (l : List Sr) (r : List UInt8) : (refL l r).length = l.length := by simp [refL]
theorem refL_get (l : List Sr) (r : List UInt8) (k : Nat) (h : k < l.length) : (refL l r)[k]? = some (xF l k, yF l k ^^^ hor (xF l k) (0 :: r)) := by simp [refL, h]
def refR (l : List Sr) (r : List UInt8) : List Sr := if refOk l r = true then refL l r else []
theorem refR_len (l : List Sr) (r : List UInt8) : (refR l r).length ≤ 20 := by
  unfold refR; split
  · rename_i h
    simp only [refOk, Bool.and_eq_true] at h
    have := shr_20 h.1
    simpa using this
  · simp
def rndOk (l : List Sr) : Bool := shrOk l && decide (l.length ≤ 8)
def rndL (l : List Sr) (s : UInt8) : List UInt8 := mkRow l.length fun j => (rndP l s).getD (j + 1) 0
def rndR (l : List Sr) (s : UInt8) : List UInt8 := if rndOk l = true then rndL l s else []
theorem rndR_len (l : List Sr) (s : UInt8) : (rndR l s).length ≤ 8 := by
  unfold rndR; split
  · rename_i h
    simp only [rndOk, Bool.and_eq_true, decide_eq_true_eq] at h
    simpa [rndL] using h.2
  · simp
theorem at_xy {l : List Sr} {k : Nat} {s : Sr} (h : l[k]? = some s) : s.1 = xF l k ∧ s.2 = yF l k := by simp [xF, yF, List.getD, h]
/-- a list padded to 20 -/
def pad20 (l : List UInt8) : List UInt8 := l ++ List.replicate (20 - l.length) 0
theorem pad20_length {l : List UInt8} (h : l.length ≤ 20) : (pad20 l).length = 20 := by simp [pad20]; omega
theorem hor_pad20 (x : UInt8) (l : List UInt8) : hor x (pad20 l) = hor x l := hor_pad x _ l
def xsL (l : List Sr) : List UInt8 := l.map (·.1)
theorem pad20_getD (l : List UInt8) (j : Nat) : (pad20 l).getD j 0 = l.getD j 0 := by
  unfold pad20
  simp only [List.getD]
  by_cases h : j < l.length
  · rw [List.getElem?_append_left h]
  · rw [List.getElem?_append_right (by omega), List.getElem?_eq_none (show l.length ≤ j by omega), List.getElem?_replicate]
    split <;> simp
theorem xsL_getD (l : List Sr) (j : Nat) : (xsL l).getD j 0 = xF l j := by
  simp only [xsL, xF, List.getD, List.getElem?_map]
  cases l[j]? <;> simp
theorem places_iff {a b : List Sr} (ha : shrOk a = true) (hb : shrOk b = true) : pad20 (xsL a) = pad20 (xsL b) ↔ sameX a b = true := by
  have key : ∀ j, (pad20 (xsL a)).getD j 0 = xF a j := fun j => by rw [pad20_getD, xsL_getD]
  have key' : ∀ j, (pad20 (xsL b)).getD j 0 = xF b j := fun j => by rw [pad20_getD, xsL_getD]
  have za : ∀ j, a.length ≤ j → xF a j = 0 := fun j h => by simp [xF, List.getD, List.getElem?_eq_none h]
  have zb : ∀ j, b.length ≤ j → xF b j = 0 := fun j h => by simp [xF, List.getD, List.getElem?_eq_none h]
  simp only [sameX, decide_eq_true_eq]
  constructor
  · intro e
    have hx : ∀ j, xF a j = xF b j := fun j => by rw [← key, ← key', e]
    refine ⟨?_, fun j _ => hx j⟩
    rcases Nat.lt_trichotomy a.length b.length with h | h | h
    · exact absurd (by rw [← hx]; exact za _ (Nat.le_refl _)) (shr_pos hb a.length h)
    · exact h
    · exact absurd (by rw [hx]; exact zb _ (Nat.le_refl _)) (shr_pos ha b.length h)
  · rintro ⟨hl, hx⟩
    have : xsL a = xsL b := by
      apply List.ext_getElem (by simpa [xsL] using hl)
      intro i h1 h2
      have hi : i < a.length := by simpa [xsL] using h1
      have hi' : i < b.length := by omega
      have := hx i hi
      simp [xF, List.getD, hi, hi'] at this
      simpa [xsL] using this
    rw [this]
end G294
