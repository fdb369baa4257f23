/- Chapter 8: what the functions answer: generators, remainders, syndromes, words. -/
import Derived.Test.YtjgmegfbfjmnfaaShaDef
set_option linter.unusedSimpArgs false
set_option linter.unusedVariables false
namespace G294
def mulF (r : UInt8) (a : List UInt8) (i : Nat) (p : Nat) : UInt8 := (if p = 0 then 0 else if p - 1 < i then a.getD (p - 1) 0 else 0) ^^^ (if p < i then gmul (a.getD p 0) r else 0)
/-- a polynomial times x + r -/
def mulR (r : UInt8) (a : List UInt8) : List UInt8 := mkRow (a.length + 1) (mulF r a a.length)
@[simp] theorem mulR_length (r : UInt8) (a : List UInt8) : (mulR r a).length = a.length + 1 := by simp [mulR]
theorem mulF_zero (r : UInt8) (a : List UInt8) (p : Nat) : mulF r a 0 p = 0 := by
  unfold mulF; simp
theorem mulF_step (r : UInt8) (a : List UInt8) (i : Nat) (p : Nat) :
    (if p = i + 1 then mulF r a i (i + 1) ^^^ gmul (a.getD i 0) 1 else if p = i then mulF r a i i ^^^ gmul (a.getD i 0) r else mulF r a i p) = mulF r a (i + 1) p := by
  unfold mulF
  rw [gmul_one]
  by_cases h1 : p = i + 1
  · subst h1; simp [show ¬ i + 1 < i by omega]
  · by_cases h2 : p = i
    · subst h2
      by_cases h3 : p = 0
      · subst h3; simp
      · simp [h3, show p - 1 < p by omega, show p - 1 < p + 1 by omega]
    · rw [if_neg h1, if_neg h2]
      by_cases h3 : p = 0
      · subst h3; simp [show 0 < i by omega]
      · by_cases h4 : p < i
        · simp [h3, h4, show p - 1 < i by omega, show p - 1 < i + 1 by omega, show p < i + 1 by omega]
        · simp [h3, h4, show ¬ p - 1 < i by omega, show ¬ p - 1 < i + 1 by omega, show ¬ p < i + 1 by omega]
theorem mulF_end (r : UInt8) (a : List UInt8) (p : Nat) : mulF r a a.length p = (if p = 0 then 0 else a.getD (p - 1) 0) ^^^ gmul (a.getD p 0) r := by
  unfold mulF
  have e1 : (if p - 1 < a.length then a.getD (p - 1) 0 else 0) = a.getD (p - 1) 0 := by
    split
    · rfl
    · rename_i h; simp [List.getD, List.getElem?_eq_none (Nat.not_lt.1 h)]
  have e2 : (if p < a.length then gmul (a.getD p 0) r else 0) = gmul (a.getD p 0) r := by
    split
    · rfl
    · rename_i h; simp [List.getD, List.getElem?_eq_none (Nat.not_lt.1 h), zero_gmul]
  rw [e1, e2]
theorem mulR_getD (r : UInt8) (a : List UInt8) (p : Nat) (hp : p < a.length + 1) : (mulR r a).getD p 0 = (if p = 0 then 0 else a.getD (p - 1) 0) ^^^ gmul (a.getD p 0) r := by
  unfold mulR; rw [mkRow_getD _ _ _ hp, mulF_end]
/-- the generator: a factor for each of the first n powers of 3 -/
def genL : Nat → List UInt8
  | 0 => [1]
  | n + 1 => mulR (powB 3 (n + 1)) (genL n)
@[simp] theorem genL_length : ∀ n, (genL n).length = n + 1
  | 0 => rfl
  | n + 1 => by rw [genL, mulR_length, genL_length n]
theorem ext_getD {l m : List UInt8} (hl : l.length = m.length) (h : ∀ j, j < l.length → l.getD j 0 = m.getD j 0) : l = m := by
  refine List.ext_getElem hl fun j h1 h2 => ?_
  have := h j h1
  simpa [List.getD, h1, h2] using this
theorem wr_pad (r : UInt8) (a : List UInt8) (h : a.length ≤ 19) : wrC r (pad20 a) = pad20 (mulR r a) := by
  have hp : (pad20 a).length = 20 := pad20_length (by omega)
  have hw : (0 :: (pad20 a).take 19).length = (pad20 a).length := by simp [hp]
  have hwl : (wrC r (pad20 a)).length = 20 := by
    unfold wrC; rw [addL_lenS _ _ (by rw [scaleL_lenS]; exact hw), hw, hp]
  refine ext_getD (by rw [hwl, pad20_length (by simp; omega)]) fun j hj => ?_
  rw [hwl] at hj
  rw [pad20_getD]
  unfold wrC
  rw [addL_getD _ _ (by rw [scaleL_lenS]; exact hw), getD_scale, pad20_getD, gmul_comm r]
  have e1 : (0 :: (pad20 a).take 19).getD j 0 = if j = 0 then 0 else a.getD (j - 1) 0 := by
    cases j with
    | zero => rfl
    | succ j =>
      rw [if_neg (by omega), Nat.add_sub_cancel, ← pad20_getD a j]
      simp [List.getD, List.getElem?_take, show j < 19 by omega]
  rw [e1]
  rcases Nat.lt_or_ge j (a.length + 1) with h1 | h1
  · rw [mulR_getD r a j h1]
  · have e2 : (mulR r a).getD j 0 = 0 := by simp [List.getD, List.getElem?_eq_none (show (mulR r a).length ≤ j by simpa using h1)]
    have e3 : ∀ q, a.length ≤ q → a.getD q 0 = 0 := fun q hq => by simp [List.getD, List.getElem?_eq_none hq]
    rw [e2, e3 j (by omega), if_neg (by omega), e3 (j - 1) (by omega), zero_gmul]; rfl
theorem pad_take (a : List UInt8) : (pad20 a).take a.length = a := by simp [pad20]
/-- t wrong bytes -/
def errT (t : Int) : Bool := decide (1 ≤ t ∧ t ≤ 4)
def genR (t : Int) : List UInt8 := if errT t = true then genL (2 * t.toNat) else []
theorem genR_len (t : Int) : (genR t).length ≤ 9 := by
  unfold genR; split
  · rename_i h
    simp only [errT, decide_eq_true_eq] at h
    simp; omega
  · simp
def rootsL (n : Nat) : List UInt8 := mkRow n fun i => powB 3 (i + 1)
def synL (w : List UInt8) (n : Nat) : List UInt8 := mkRow n fun i => hor (powB 3 (i + 1)) w
def fitW (w : List UInt8) (t : Int) : Bool := errT t && decide (2 * t + 1 ≤ w.length ∧ w.length ≤ 24)
def synR (w : List UInt8) (t : Int) : List UInt8 := if fitW w t = true then synL w (2 * t.toNat) else []
theorem synR_yes {w : List UInt8} {t : Int} (h : fitW w t = true) : synR w t = synL w (2 * t.toNat) := if_pos h
theorem synR_no {w : List UInt8} {t : Int} (h : fitW w t = false) : synR w t = [] := if_neg (by rw [h]; simp)
theorem synR_len (w : List UInt8) (t : Int) : (synR w t).length ≤ 8 := by
  unfold synR; split
  · rename_i h
    simp only [fitW, errT, Bool.and_eq_true, decide_eq_true_eq] at h
    simp [synL]; omega
  · simp
def zeroL (l : List UInt8) : Bool := decide (∀ i, i < l.length → l.getD i 0 = 0)
def isWR (w : List UInt8) (t : Int) : Bool := fitW w t && zeroL (synL w (2 * t.toNat))
def dataR (w : List UInt8) (t : Int) : List UInt8 := if isWR w t = true then w.drop (2 * t.toNat) else []
theorem dataR_len (w : List UInt8) (t : Int) : (dataR w t).length ≤ 24 := by
  unfold dataR; split
  · rename_i h
    simp only [isWR, fitW, Bool.and_eq_true, decide_eq_true_eq] at h
    simp; omega
  · simp
def distN (a b : List UInt8) : Nat → Nat
  | 0 => 0
  | k + 1 => if a.getD k 0 = b.getD k 0 then distN a b k else distN a b k + 1
theorem distN_le (a b : List UInt8) : ∀ k, distN a b k ≤ k
  | 0 => Nat.le_refl _
  | k + 1 => by unfold distN; have := distN_le a b k; split <;> omega
def distOk (a b : List UInt8) : Bool := decide (a.length = b.length ∧ a.length ≤ 24)
def distR (a b : List UInt8) : Int := if distOk a b = true then (distN a b a.length : Int) else 0
/-- one step of a division: f times the divisor g, added from a on; the first j elements of it -/
def remI (g : List UInt8) (a : Nat) (f : UInt8) (F : Nat → UInt8) (j : Nat) (p : Nat) : UInt8 := if a ≤ p ∧ p < a + j then F p ^^^ gmul f (g.getD (p - a) 0) else F p
theorem remI_zero (g : List UInt8) (a : Nat) (f : UInt8) (F : Nat → UInt8) (p : Nat) : remI g a f F 0 p = F p := by
  unfold remI; rw [if_neg (by omega)]
theorem remI_at (g : List UInt8) (a : Nat) (f : UInt8) (F : Nat → UInt8) (j : Nat) : remI g a f F j (a + j) = F (a + j) := by
  unfold remI; rw [if_neg (by omega)]
theorem remI_step (g : List UInt8) (a : Nat) (f : UInt8) (F : Nat → UInt8) (j p : Nat) : (if p = a + j then F (a + j) ^^^ gmul f (g.getD j 0) else remI g a f F j p) = remI g a f F (j + 1) p := by
  unfold remI
  by_cases h : p = a + j
  · subst h; rw [if_pos rfl, if_pos (by omega)]; simp
  · rw [if_neg h]
    by_cases h2 : a ≤ p ∧ p < a + j
    · rw [if_pos h2, if_pos (by omega)]
    · rw [if_neg h2, if_neg (by omega)]
/-- n elements F0, behind m steps of the division by g -/
def remF (g : List UInt8) (n : Nat) (F0 : Nat → UInt8) : Nat → Nat → UInt8
  | 0 => F0
  | m + 1 => remI g (n - m - g.length) (remF g n F0 m (n - 1 - m)) (remF g n F0 m) g.length
/-- what is left of l by g -/
def leftL (l g : List UInt8) : List UInt8 := mkRow (g.length - 1) (remF g l.length (fun i => l.getD i 0) (l.length + 1 - g.length))
@[simp] theorem leftL_length (l g : List UInt8) : (leftL l g).length = g.length - 1 := by simp [leftL]
def zerosN (n : Nat) : List UInt8 := List.replicate n 0
def encOk8 (d : List UInt8) (t : Int) : Bool := errT t && decide (1 ≤ d.length ∧ d.length + 2 * t ≤ 24)
def encL8 (d : List UInt8) (n : Nat) : List UInt8 := leftL (zerosN n ++ d) (genL n) ++ d
def encR8 (d : List UInt8) (t : Int) : List UInt8 := if encOk8 d t = true then encL8 d (2 * t.toNat) else []
theorem encR8_len (d : List UInt8) (t : Int) : (encR8 d t).length ≤ 24 := by
  unfold encR8; split
  · rename_i h
    simp only [encOk8, errT, Bool.and_eq_true, decide_eq_true_eq] at h
    simp [encL8]; omega
  · simp
end G294
