/- The sequence 1, 2, 3, 5, 8 ..: every number is in one way alone a sum of such numbers no two of which are neighbours (Zeckendorf); the code that says which. -/
import Derived.Test.YtlhipceepoenfaaDoorNumMath
set_option linter.unusedSimpArgs false
set_option linter.unusedVariables false
namespace G294
def fb : Nat → Nat
  | 0 => 1
  | 1 => 2
  | k + 2 => fb k + fb (k + 1)
theorem fb_pos : ∀ k, 1 ≤ fb k
  | 0 => by decide
  | 1 => by decide
  | k + 2 => by have := fb_pos k; simp only [fb]; omega
theorem fb_succ : ∀ k, fb k < fb (k + 1)
  | 0 => by decide
  | k + 1 => by have := fb_pos k; simp only [fb]; omega
theorem fb_lt {a : Nat} : ∀ {b}, a < b → fb a < fb b
  | 0, h => by omega
  | b + 1, h => by
    have := fb_succ b
    rcases Nat.lt_or_ge a b with h1 | h1
    · have := fb_lt h1; omega
    · obtain rfl : a = b := by omega
      exact this
theorem fb_le {a b : Nat} (h : a ≤ b) : fb a ≤ fb b := by
  rcases Nat.lt_or_ge a b with h1 | h1
  · exact Nat.le_of_lt (fb_lt h1)
  · obtain rfl : a = b := by omega
    exact Nat.le_refl _
theorem fb_inj {a b : Nat} (h : fb a = fb b) : a = b := by
  rcases Nat.lt_trichotomy a b with h1 | h1 | h1
  · have := fb_lt h1; omega
  · exact h1
  · have := fb_lt h1; omega
theorem fb_gt : ∀ k, k < fb k
  | 0 => by decide
  | k + 1 => by have := fb_gt k; have := fb_succ k; omega
theorem fb_two (k : Nat) : fb (k + 2) = fb k + fb (k + 1) := rfl
theorem fb_next {k : Nat} (h : 1 ≤ k) : fb (k + 1) = fb (k - 1) + fb k := by
  obtain ⟨j, rfl⟩ : ∃ j, k = j + 1 := ⟨k - 1, by omega⟩
  rfl
theorem fb_29 : fb 29 = 1346269 := by decide +kernel
theorem fb_30 : fb 30 = 2178309 := by decide +kernel
/-- how many of the sequence are at most n -/
def RcN (n k : Nat) : Prop := n < fb k ∧ ∀ j, j < k → fb j ≤ n
theorem RcN.uniq {n k k' : Nat} (h : RcN n k) (h' : RcN n k') : k = k' := by
  rcases Nat.lt_trichotomy k k' with h1 | h1 | h1
  · have := h'.2 k h1; have := h.1; omega
  · exact h1
  · have := h.2 k' h1; have := h'.1; omega
def rcA (n : Nat) : Nat → Nat → Nat
  | 0, k => k
  | f + 1, k => if fb k ≤ n then rcA n f (k + 1) else k
theorem rcA_ok (n : Nat) : ∀ f k, n < k + f → (∀ j, j < k → fb j ≤ n) → RcN n (rcA n f k)
  | 0, k, h, hb => ⟨Nat.lt_trans (by omega) (fb_gt k), hb⟩
  | f + 1, k, h, hb => by
    rw [rcA]
    split
    · rename_i hk
      refine rcA_ok n f (k + 1) (by omega) fun j hj => ?_
      rcases Nat.lt_or_ge j k with h1 | h1
      · exact hb j h1
      · obtain rfl : j = k := by omega
        exact hk
    · rename_i hk
      exact ⟨by omega, hb⟩
def rcN (n : Nat) : Nat := rcA n (n + 1) 0
theorem rcN_ok (n : Nat) : RcN n (rcN n) := rcA_ok n (n + 1) 0 (by omega) (fun j hj => by omega)
theorem rcN_of {n k : Nat} (h : RcN n k) : rcN n = k := (rcN_ok n).uniq h
theorem rcN_le {n k : Nat} (h : n < fb k) : rcN n ≤ k := by
  rcases Nat.lt_or_ge k (rcN n) with h1 | h1
  · have := (rcN_ok n).2 k h1; omega
  · exact h1
theorem rcN_pos {n : Nat} (h : 1 ≤ n) : 1 ≤ rcN n := by
  rcases Nat.eq_zero_or_pos (rcN n) with h1 | h1
  · have := (rcN_ok n).1; rw [h1] at this; simp [fb] at this; omega
  · exact h1
def rowN (k : Nat) : List Int := (List.range k).map fun j => (fb j : Int)
theorem rowN_len (k : Nat) : (rowN k).length = k := by simp [rowN]
theorem rowN_succ (k : Nat) : rowN (k + 1) = rowN k ++ [(fb k : Int)] := by simp [rowN, List.range_succ]
theorem rowN_get {k j : Nat} (h : j < k) : (rowN k).getD j 0 = (fb j : Int) := by
  rw [List.getD_eq_getElem?_getD, List.getElem?_eq_getElem (by rw [rowN_len]; exact h)]; simp [rowN]
/-- the greedy choice among the first k -/
def gz : Nat → Nat → List Bool
  | 0, _ => []
  | k + 1, n => if fb k ≤ n then gz k (n - fb k) ++ [true] else gz k n ++ [false]
theorem gz_len : ∀ k n, (gz k n).length = k
  | 0, _ => rfl
  | k + 1, n => by
    rw [gz]; split
    · simp [gz_len k]
    · simp [gz_len k]
/-- the sum of a choice -/
def wt : List Bool → Nat → Nat
  | [], _ => 0
  | b :: l, i => (if b then fb i else 0) + wt l (i + 1)
theorem wt_append : ∀ (a b : List Bool) (i : Nat), wt (a ++ b) i = wt a i + wt b (i + a.length)
  | [], b, i => by simp [wt]
  | x :: a, b, i => by
    rw [List.cons_append, wt, wt_append a b (i + 1), wt, List.length_cons, show i + 1 + a.length = i + (a.length + 1) from by omega]; omega
theorem wt_snoc (a : List Bool) (b : Bool) : wt (a ++ [b]) 0 = wt a 0 + (if b then fb a.length else 0) := by rw [wt_append]; simp [wt]
/-- no two neighbours -/
def sp : List Bool → Prop
  | [] => True
  | [_] => True
  | a :: b :: l => ¬ (a = true ∧ b = true) ∧ sp (b :: l)
theorem sp_getD : ∀ {l : List Bool}, sp l ↔ ∀ i, ¬ (l.getD i false = true ∧ l.getD (i + 1) false = true)
  | [] => by simp [sp]
  | [a] => by
    simp only [sp, true_iff]
    rintro i ⟨h1, h2⟩
    simp at h2
  | a :: b :: l => by
    rw [sp, sp_getD (l := b :: l)]
    constructor
    · rintro ⟨h1, h2⟩ i
      cases i with
      | zero => simpa using h1
      | succ i => simpa using h2 i
    · intro h
      refine ⟨by simpa using h 0, fun i => by simpa using h (i + 1)⟩
theorem sp_left {a b : List Bool} (h : sp (a ++ b)) : sp a := by
  rw [sp_getD] at h ⊢
  rintro i ⟨h1, h2⟩
  have hi : i + 1 < a.length := by
    rcases Nat.lt_or_ge (i + 1) a.length with h3 | h3
    · exact h3
    · rw [List.getD_eq_getElem?_getD, List.getElem?_eq_none h3] at h2; simp at h2
  apply h i
  rw [List.getD_eq_getElem?_getD, List.getD_eq_getElem?_getD, List.getElem?_append_left (by omega), List.getElem?_append_left hi, ← List.getD_eq_getElem?_getD, ← List.getD_eq_getElem?_getD]
  exact ⟨h1, h2⟩
theorem sp_snoc {a : List Bool} {b : Bool} (h : sp a) (h2 : a.getLast? = some true → b = false) : sp (a ++ [b]) := by
  rw [sp_getD] at h ⊢
  rintro i ⟨h3, h4⟩
  rcases Nat.lt_trichotomy (i + 1) a.length with h5 | h5 | h5
  · apply h i
    rw [List.getD_eq_getElem?_getD, List.getElem?_append_left (by omega), ← List.getD_eq_getElem?_getD] at h3
    rw [List.getD_eq_getElem?_getD, List.getElem?_append_left (by omega), ← List.getD_eq_getElem?_getD] at h4
    exact ⟨h3, h4⟩
  · rw [List.getD_eq_getElem?_getD, List.getElem?_append_left (by omega), List.getElem?_eq_getElem (by omega)] at h3
    rw [List.getD_eq_getElem?_getD, List.getElem?_append_right (by omega), h5, Nat.sub_self] at h4
    have h6 : a.getLast? = some true := by
      rw [List.getLast?_eq_getElem?, List.getElem?_eq_getElem (by omega)]
      have : a.length - 1 = i := by omega
      simp only [this]
      simpa using h3
    rw [h2 h6] at h4
    simp at h4
  · rw [List.getD_eq_getElem?_getD, List.getElem?_eq_none (by simp; omega)] at h4; simp at h4
theorem sp_last {a : List Bool} (h : sp (a ++ [true])) : a.getLast? ≠ some true := by
  intro h2
  rw [sp_getD] at h
  have hl : 0 < a.length := by
    cases a with
    | nil => simp at h2
    | cons => simp
  apply h (a.length - 1)
  rw [List.getLast?_eq_getElem?] at h2
  rw [List.getD_eq_getElem?_getD, List.getElem?_append_left (by omega), h2]
  refine ⟨rfl, ?_⟩
  rw [Nat.sub_add_cancel hl, List.getD_eq_getElem?_getD, List.getElem?_append_right (Nat.le_refl _), Nat.sub_self]; rfl
/-- what the greedy choice is -/
theorem gz_ok : ∀ k n, n < fb k → wt (gz k n) 0 = n ∧ sp (gz k n)
  | 0, n, h => by
    have : n = 0 := by simp [fb] at h; omega
    subst this; exact ⟨rfl, trivial⟩
  | k + 1, n, h => by
    rw [gz]
    split
    · rename_i hk
      have hr : n - fb k < fb (k - 1) := by
        cases k with
        | zero => simp [fb] at *; omega
        | succ k => rw [fb_two] at h; simp; omega
      have hr2 : n - fb k < fb k := Nat.lt_of_lt_of_le hr (fb_le (by omega))
      obtain ⟨h1, h2⟩ := gz_ok k (n - fb k) hr2
      refine ⟨by rw [wt_snoc, h1, gz_len]; simp; omega, sp_snoc h2 fun h3 => ?_⟩
      exfalso
      cases k with
      | zero => simp [gz] at h3
      | succ k =>
        rw [gz, if_neg (by simp at hr; omega)] at h3
        simp at h3
    · rename_i hk
      obtain ⟨h1, h2⟩ := gz_ok k n (by omega)
      exact ⟨by rw [wt_snoc, h1]; simp, sp_snoc h2 fun _ => rfl⟩
theorem gz_last {n k : Nat} (h : RcN n k) (hk : 1 ≤ k) : (gz k n).getLast? = some true := by
  obtain ⟨j, rfl⟩ : ∃ j, k = j + 1 := ⟨k - 1, by omega⟩
  rw [gz, if_pos (h.2 j (by omega))]; simp
/-- a choice without neighbours is less than the next of the sequence -/
theorem wt_lt (l : List Bool) (h : sp l) : wt l 0 < fb l.length := by
  rcases List.eq_nil_or_concat l with rfl | ⟨t, b, rfl⟩
  · decide
  · rw [List.concat_eq_append] at h ⊢
    rw [wt_snoc, List.length_append, List.length_singleton]
    have h1 := wt_lt t (sp_left h)
    cases b with
    | false => have := fb_succ t.length; simp; omega
    | true =>
      simp only [if_true]
      rcases List.eq_nil_or_concat t with rfl | ⟨u, c, rfl⟩
      · decide
      · rw [List.concat_eq_append] at h h1 ⊢
        have hc : c = false := by
          have := sp_last h
          cases c with
          | false => rfl
          | true => simp at this
        subst hc
        rw [wt_snoc, List.length_append, List.length_singleton, fb_two]
        have h2 := wt_lt u (sp_left (sp_left h))
        simp; omega
termination_by l.length
decreasing_by all_goals (subst_vars; simp; try omega)
/-- Zeckendorf: the choice is the greedy one -/
theorem gz_wt (l : List Bool) (h : sp l) : gz l.length (wt l 0) = l := by
  rcases List.eq_nil_or_concat l with rfl | ⟨t, b, rfl⟩
  · rfl
  · rw [List.concat_eq_append] at h ⊢
    have h1 := wt_lt t (sp_left h)
    have ih := gz_wt t (sp_left h)
    rw [wt_snoc, List.length_append, List.length_singleton, gz]
    cases b with
    | false => rw [if_neg (by simp; omega)]; simp [ih]
    | true => rw [if_pos (by simp)]; simp [ih]
termination_by l.length
decreasing_by all_goals (subst_vars; simp; try omega)
/-- the chosen numbers, in order -/
def selL : List Bool → Nat → List Int
  | [], _ => []
  | b :: l, i => if b then (fb i : Int) :: selL l (i + 1) else selL l (i + 1)
theorem selL_append : ∀ (a b : List Bool) (i : Nat), selL (a ++ b) i = selL a i ++ selL b (i + a.length)
  | [], b, i => by simp [selL]
  | x :: a, b, i => by
    rw [List.cons_append, selL, selL, selL_append a b (i + 1), List.length_cons, show i + 1 + a.length = i + (a.length + 1) from by omega]
    split <;> simp
theorem selL_snoc (a : List Bool) (b : Bool) : selL (a ++ [b]) 0 = selL a 0 ++ (if b then [(fb a.length : Int)] else []) := by
  rw [selL_append]; cases b <;> simp [selL]
theorem selL_mem : ∀ {l : List Bool} {i k : Nat}, (fb k : Int) ∈ selL l i ↔ i ≤ k ∧ l.getD (k - i) false = true
  | [], i, k => by simp [selL]
  | b :: l, i, k => by
    have ih := selL_mem (l := l) (i := i + 1) (k := k)
    rw [selL]
    by_cases e : k = i
    · subst e
      have h0 : ¬ (fb k : Int) ∈ selL l (k + 1) := by rw [ih]; omega
      cases b with
      | true => simp
      | false => simp [h0]
    · have h1 : ((fb k : Int) = (fb i : Int)) ↔ False := by
        constructor
        · intro h; exact e (fb_inj (by omega))
        · exact False.elim
      have h2 : (fb k : Int) ∈ (if b = true then (fb i : Int) :: selL l (i + 1) else selL l (i + 1)) ↔ (fb k : Int) ∈ selL l (i + 1) := by
        split
        · simp [h1]
        · exact Iff.rfl
      rw [h2, ih]
      constructor
      · rintro ⟨h3, h4⟩
        refine ⟨by omega, ?_⟩
        rw [show k - i = (k - (i + 1)) + 1 from by omega]; simpa using h4
      · rintro ⟨h3, h4⟩
        refine ⟨by omega, ?_⟩
        rw [show k - i = (k - (i + 1)) + 1 from by omega] at h4; simpa using h4
theorem selL_len : ∀ (l : List Bool) (i : Nat), (selL l i).length ≤ l.length
  | [], _ => by simp [selL]
  | b :: l, i => by
    have := selL_len l (i + 1)
    rw [selL]; split <;> simp <;> omega
/-- the numbers chosen for n -/
def sumsL (n : Nat) : List Int := selL (gz (rcN n) n) 0
/-- the text of a choice -/
def chT (l : List Bool) : List UInt8 := l.map fun b => if b then 49 else 48
def fibL (n : Nat) : List UInt8 := chT (gz (rcN n) n) ++ [49]
theorem chT_len (l : List Bool) : (chT l).length = l.length := by simp [chT]
theorem fibL_len (n : Nat) : (fibL n).length = rcN n + 1 := by simp [fibL, chT, gz_len]
/-- taking a Fibonacci code: from place i on, with what stood before and the sum so far -/
def fscN : List UInt8 → Nat → Bool → Nat → Option (Nat × Nat)
  | [], _, _, _ => none
  | c :: l, i, p, n => if 30 ≤ i then none else if isBitC c = false then none else if c = 49 ∧ p = true then (if okN n = true then some (n, i + 1) else none) else fscN l (i + 1) (decide (c = 49)) (if c = 49 then n + fb i else n)
def tkF (l : List UInt8) : Option (Nat × Nat) := fscN l 0 false 0
theorem fscN_bits : ∀ (l : List Bool) (r : List UInt8) (i : Nat) (p : Bool) (n : Nat), (if p then sp (true :: l) else sp l) → l.getLast? = some true → i + l.length ≤ 29 → okN ((n + wt l i : Nat)) = true → fscN (chT l ++ 49 :: r) i p n = some (n + wt l i, i + l.length + 1)
  | [], r, i, p, n, _, h2, _, _ => by simp at h2
  | b :: l, r, i, p, n, h1, h2, h3, h4 => by
    have hs : sp (b :: l) := by
      cases p with
      | false => exact h1
      | true => simp only [if_true, sp] at h1; exact h1.2
    have hpb : ¬ (b = true ∧ p = true) := by
      rintro ⟨rfl, rfl⟩
      simp [sp] at h1
    simp only [List.length_cons] at h3
    have e : chT (b :: l) ++ 49 :: r = (if b then 49 else 48) :: (chT l ++ 49 :: r) := rfl
    rw [e, fscN, if_neg (by omega)]
    cases l with
    | nil =>
      have hb : b = true := by simpa using h2
      subst hb
      have hp : p = false := by
        cases p with
        | false => rfl
        | true => exact absurd ⟨rfl, rfl⟩ hpb
      subst hp
      simp only [wt, if_true, Nat.add_zero] at h4 ⊢
      rw [if_neg (by decide), if_neg (by simp)]
      simp only [chT, List.map_nil, List.nil_append]
      rw [fscN, if_neg (by omega), if_neg (by decide), if_pos (by simp), if_pos h4]
      simp
    | cons c l =>
      have h2' : (c :: l).getLast? = some true := by simpa [List.getLast?_cons_cons] using h2
      have ih := fscN_bits (c :: l) r (i + 1) b (if b then n + fb i else n) (by
        cases b with
        | true => simpa using hs
        | false => simp only [sp] at hs; simpa using hs.2) h2' (by simp only [List.length_cons] at h3 ⊢; omega) (by
        have : (if b = true then n + fb i else n) + wt (c :: l) (i + 1) = n + wt (b :: c :: l) i := by
          cases b <;> simp [wt] <;> omega
        rw [this]; exact h4)
      have e3 : (if b = true then n + fb i else n) + wt (c :: l) (i + 1) = n + wt (b :: c :: l) i := by
        cases b <;> simp [wt] <;> omega
      rw [e3] at ih
      cases b with
      | true =>
        have hp : p = false := by
          cases p with
          | false => rfl
          | true => exact absurd ⟨rfl, rfl⟩ hpb
        subst hp
        simp only [if_true] at ih ⊢
        simp only [decide_true] at ih ⊢
        rw [if_neg (by decide), if_neg (by simp), ih]
        simp; omega
      | false =>
        simp only [Bool.false_eq_true, if_false] at ih ⊢
        rw [if_neg (by decide), if_neg (by simp), show decide ((48 : UInt8) = 49) = false from by decide, if_neg (by decide), ih]
        simp; omega
theorem tkF_bits {l : List Bool} (h1 : sp l) (h2 : l.getLast? = some true) (h3 : l.length ≤ 29) (h4 : okN ((wt l 0 : Nat)) = true) (r : List UInt8) : tkF (chT l ++ 49 :: r) = some (wt l 0, l.length + 1) := by
  have := fscN_bits l r 0 false 0 (by simpa using h1) h2 (by omega) (by simpa using h4)
  simpa [tkF] using this
theorem rc_28 {n : Nat} (h2 : n ≤ 1000000) : rcN n ≤ 29 := rcN_le (by rw [fb_29]; omega)
theorem tkF_fib {n : Nat} (h1 : 1 ≤ n) (h2 : n ≤ 1000000) (r : List UInt8) : tkF (fibL n ++ r) = some (n, (fibL n).length) := by
  obtain ⟨h3, h4⟩ := gz_ok (rcN n) n (rcN_ok n).1
  have h5 := gz_last (rcN_ok n) (rcN_pos h1)
  have := tkF_bits h4 h5 (by rw [gz_len]; exact rc_28 h2) (by rw [h3]; exact okN_iff.2 ⟨by omega, by omega⟩) r
  rw [fibL_len, fibL, List.append_assoc, List.singleton_append, this, h3, gz_len]
/-- any such bits are one number's -/
theorem fibL_wt {l : List Bool} (h1 : sp l) (h2 : l.getLast? = some true) : fibL (wt l 0) = chT l ++ [49] := by
  have hl : 0 < l.length := by
    cases l with
    | nil => simp at h2
    | cons => simp
  have e : rcN (wt l 0) = l.length := by
    refine rcN_of ⟨wt_lt l h1, fun j hj => ?_⟩
    rcases List.eq_nil_or_concat l with rfl | ⟨t, b, rfl⟩
    · simp at hl
    · rw [List.concat_eq_append] at h2 hj ⊢
      have hb : b = true := by simpa using h2
      subst hb
      rw [wt_snoc]
      simp only [List.length_append, List.length_singleton] at hj
      have := fb_le (show j ≤ t.length from by omega)
      simp; omega
  rw [fibL, e, gz_wt l h1]
end G294
