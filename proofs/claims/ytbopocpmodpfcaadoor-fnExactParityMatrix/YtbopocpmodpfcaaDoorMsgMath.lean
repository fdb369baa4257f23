/- The message matrix of a regenerating code: two symmetric matrices, each filled from a triangle of bytes. -/
import Derived.Test.YtbopocpmodpfcaaDoorMatMath
set_option linter.unusedSimpArgs false
set_option linter.unusedVariables false
namespace G294
/-- where row p of a triangle of side a begins -/
def off (a : Nat) : Nat → Nat
  | 0 => 0
  | p + 1 => off a p + (a - p)
def tix (a p q : Nat) : Nat := off a p + (q - p)
theorem off_mono (a p : Nat) : ∀ d, off a p ≤ off a (p + d)
  | 0 => Nat.le_refl _
  | d + 1 => Nat.le_trans (off_mono a p d) (Nat.le_add_right _ _)
theorem tix_lt {a p q : Nat} (h1 : p ≤ q) (h2 : q < a) : tix a p q < off a a := by
  have h := off_mono a (p + 1) (a - (p + 1))
  rw [show p + 1 + (a - (p + 1)) = a by omega] at h
  have : off a (p + 1) = off a p + (a - p) := rfl
  unfold tix
  omega
/-- the entry of the symmetric matrix whose triangle lies in l from b on -/
def symF (a : Nat) (l : List UInt8) (b : Nat) : Ents := fun i j => l.getD (b + tix a (min i j) (max i j)) 0
/-- .. after the rows before p, and in row p the columns before q -/
def symP (a : Nat) (l : List UInt8) (b p q : Nat) : Ents := fun i j => if min i j < p ∨ (min i j = p ∧ max i j < q) then symF a l b i j else 0
theorem symP_zero (a : Nat) (l : List UInt8) (b i j : Nat) : symP a l b 0 0 i j = 0 := by unfold symP; rw [if_neg (by omega)]
theorem symP_row {a : Nat} {l : List UInt8} {b p i j : Nat} (hi : i < a) (hj : j < a) : symP a l b p a i j = symP a l b (p + 1) (p + 1) i j := by
  unfold symP
  by_cases h : min i j < p ∨ (min i j = p ∧ max i j < a)
  · rw [if_pos h, if_pos (by omega)]
  · rw [if_neg h, if_neg (by omega)]
theorem symP_all {a : Nat} {l : List UInt8} {b i j : Nat} (hi : i < a) (hj : j < a) : symP a l b a a i j = symF a l b i j := by
  unfold symP; rw [if_pos (by omega)]
theorem symP_step (a : Nat) (l : List UInt8) (b p q : Nat) (hpq : p ≤ q) (i j : Nat) :
    (if i = q ∧ j = p then l.getD (b + tix a p q) 0 else if i = p ∧ j = q then l.getD (b + tix a p q) 0 else symP a l b p q i j) = symP a l b p (q + 1) i j := by
  by_cases h1 : i = q ∧ j = p
  · obtain ⟨rfl, rfl⟩ := h1
    rw [if_pos ⟨rfl, rfl⟩]
    unfold symP
    rw [if_pos (by omega)]
    unfold symF
    rw [show min i j = j by omega, show max i j = i by omega]
  · rw [if_neg h1]
    by_cases h2 : i = p ∧ j = q
    · obtain ⟨rfl, rfl⟩ := h2
      rw [if_pos ⟨rfl, rfl⟩]
      unfold symP
      rw [if_pos (by omega)]
      unfold symF
      rw [show min i j = i by omega, show max i j = j by omega]
    · rw [if_neg h2]
      unfold symP
      by_cases h : min i j < p ∨ (min i j = p ∧ max i j < q)
      · rw [if_pos h, if_pos (by omega)]
      · rw [if_neg h, if_neg (by omega)]
theorem tix_next {a p q : Nat} (h : p ≤ q) : tix a p (q + 1) = tix a p q + 1 := by unfold tix; omega
theorem tix_row {a p : Nat} (h : p < a) : tix a p a = tix a (p + 1) (p + 1) := by
  show off a p + (a - p) = off a p + (a - p) + (p + 1 - (p + 1)); omega
theorem tix_diag (a : Nat) : tix a 0 0 = 0 := rfl
theorem off_three {a : Nat} (h1 : 1 ≤ a) (h2 : a ≤ 3) : 2 * off a a = (a + 1) * a := by
  have : a = 1 ∨ a = 2 ∨ a = 3 := by omega
  rcases this with rfl | rfl | rfl <;> rfl
/-- the message matrix -/
def msgF (a : Nat) (l : List UInt8) : Ents := fun i j => if i < a then symF a l 0 i j else symF a l (off a a) (i - a) j
def msgM (a : Nat) (l : List UInt8) : Mat := mkM (a + a) a (msgF a l)
theorem msgM_eq (a : Nat) (l : List UInt8) : mkM a a (symF a (l.take (off a a)) 0) ++ mkM a a (symF a (l.drop (off a a)) 0) = msgM a l := by
  apply List.ext_getElem
  · simp [msgM]
  · intro i h1 h2
    have h2' : i < a + a := by simpa [msgM] using h2
    rcases Nat.lt_or_ge i a with h | h
    · rw [List.getElem_append_left (by simpa using h)]
      simp only [msgM, mkM, List.getElem_map, List.getElem_range]
      refine mkRow_congr fun j hj => ?_
      have := tix_lt (a := a) (p := min i j) (q := max i j) (by omega) (by omega)
      simp only [msgF, if_pos h, symF, Nat.zero_add]
      simp [List.getD, List.getElem?_take, this]
    · rw [List.getElem_append_right (by simpa using h)]
      simp only [msgM, mkM, List.getElem_map, List.getElem_range, List.length_map, List.length_range]
      refine mkRow_congr fun j hj => ?_
      simp only [msgF, if_neg (Nat.not_lt.2 h), symF, Nat.zero_add]
      simp [List.getD, List.getElem?_drop]
/-- .. the model's way to it: h halves, of the next one the rows before p, and in row p the columns before q -/
def msgP (a : Nat) (l : List UInt8) (h p q : Nat) : Ents := fun i j => if i < h * a then msgF a l i j else if i < h * a + a then symP a l (h * off a a) p q (i - h * a) j else 0
theorem msgP_zero (a : Nat) (l : List UInt8) (i j : Nat) : msgP a l 0 0 0 i j = 0 := by
  unfold msgP; rw [if_neg (by omega)]; split
  · exact symP_zero _ _ _ _ _
  · rfl
theorem msgP_row {a : Nat} {l : List UInt8} {h p i j : Nat} (hj : j < a) : msgP a l h p a i j = msgP a l h (p + 1) (p + 1) i j := by
  unfold msgP
  by_cases h1 : i < h * a
  · rw [if_pos h1, if_pos h1]
  · rw [if_neg h1, if_neg h1]
    by_cases h2 : i < h * a + a
    · rw [if_pos h2, if_pos h2]; exact symP_row (by omega) hj
    · rw [if_neg h2, if_neg h2]
theorem msgP_half {a : Nat} {l : List UInt8} {h i j : Nat} (hh : h = 0 ∨ h = 1) (hj : j < a) : msgP a l h a a i j = msgP a l (h + 1) 0 0 i j := by
  have e : (h + 1) * a = h * a + a := by rw [Nat.succ_mul]
  unfold msgP
  rw [e]
  by_cases h1 : i < h * a
  · rw [if_pos h1, if_pos (by omega)]
  · rw [if_neg h1]
    by_cases h2 : i < h * a + a
    · rw [if_pos h2, if_pos h2, symP_all (by omega) hj]
      rcases hh with rfl | rfl
      · simp only [Nat.zero_mul, Nat.sub_zero] at *
        simp only [msgF]; rw [if_pos (by omega)]
      · simp only [Nat.one_mul] at *
        simp only [msgF]; rw [if_neg (by omega)]
    · rw [if_neg h2, if_neg h2]; split
      · exact (symP_zero _ _ _ _ _).symm
      · rfl
theorem msgP_all {a : Nat} {l : List UInt8} {i j : Nat} (hi : i < a + a) : msgP a l 2 0 0 i j = msgF a l i j := by
  unfold msgP; rw [if_pos (by omega)]
theorem msgP_step (a : Nat) (l : List UInt8) (h p q : Nat) (hpq : p ≤ q) (hq : q < a) (i j : Nat) :
    (if i = h * a + q ∧ j = p then l.getD (h * off a a + tix a p q) 0 else if i = h * a + p ∧ j = q then l.getD (h * off a a + tix a p q) 0 else msgP a l h p q i j) = msgP a l h p (q + 1) i j := by
  have hs := symP_step a l (h * off a a) p q hpq (i - h * a) j
  unfold msgP
  by_cases h1 : i < h * a
  · rw [if_neg (by omega), if_neg (by omega), if_pos h1, if_pos h1]
  · rw [if_neg h1, if_neg h1]
    by_cases h2 : i < h * a + a
    · rw [if_pos h2, if_pos h2, ← hs]
      by_cases h3 : i = h * a + q ∧ j = p
      · rw [if_pos h3, if_pos (by omega)]
      · rw [if_neg h3, if_neg (show ¬ (i - h * a = q ∧ j = p) by omega)]
        by_cases h4 : i = h * a + p ∧ j = q
        · rw [if_pos h4, if_pos (by omega)]
        · rw [if_neg h4, if_neg (show ¬ (i - h * a = p ∧ j = q) by omega)]
    · rw [if_neg h2, if_neg h2, if_neg (by omega), if_neg (by omega)]
end G294
