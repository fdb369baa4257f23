/- Joined texts: SymMath, StbMem, StbRot, StbIns. -/
import Derived.Test.YtbfchebnooanjaaBd01
import Derived.Deep.QuietTactic
import Derived.BigQuiet
import Derived.BigRegion
import Derived.Shelf.Abstract
import Derived.Lib.Bytealg
import Derived.Deep.RegionWith
set_option linter.unusedSimpArgs false
set_option linter.unusedVariables false
/- A stable sort by insertions and merges in place: its steps, over places and numbers (mathematics). -/
namespace G294
open Go Go.RowKit
def upd (f : Nat → Nat) (i x : Nat) : Nat → Nat := fun k => if k = i then x else f k
def swp (f : Nat → Nat) (i j : Nat) : Nat → Nat := fun k => if k = i then f j else if k = j then f i else f k
theorem upd_swp (f : Nat → Nat) (i j : Nat) : upd (upd f i (f j)) j (f i) = swp f i j := by
  funext k; simp only [upd, swp]
  by_cases h : k = j
  · subst h
    by_cases h2 : k = i
    · subst h2; simp
    · simp [h2]
  · simp [h]
/-- n places from a and from b are exchanged -/
def swr (f : Nat → Nat) (a b n : Nat) : Nat → Nat := fun p => if a ≤ p ∧ p < a + n then f (p - a + b) else if b ≤ p ∧ p < b + n then f (p - b + a) else f p
theorem swr_zero (f : Nat → Nat) (a b : Nat) : swr f a b 0 = f := by
  funext p; simp only [swr]
  rw [if_neg (by omega), if_neg (by omega)]
theorem swr_succ (f : Nat → Nat) (a b k : Nat) (h : a + k < b) : swp (swr f a b k) (a + k) (b + k) = swr f a b (k + 1) := by
  funext p; simp only [swr, swp]
  split
  · subst_vars
    rw [if_neg (by omega), if_neg (by omega), if_pos (by omega)]; congr 1; omega
  · split
    · subst_vars
      rw [if_neg (by omega), if_neg (by omega), if_neg (by omega), if_pos (by omega)]; congr 1; omega
    · split
      · rw [if_pos (by omega)]
      · split
        · rw [if_neg (by omega), if_pos (by omega)]
        · rw [if_neg (by omega), if_neg (by omega)]
/-- the places from a to m and from m to b change their order -/
def rotF (f : Nat → Nat) (a m b : Nat) : Nat → Nat := fun p => if a ≤ p ∧ p < a + (b - m) then f (p - a + m) else if a + (b - m) ≤ p ∧ p < b then f (p - (b - m)) else f p
theorem rotF_left (f : Nat → Nat) (m b : Nat) (h : m ≤ b) : rotF f m m b = f := by
  funext p; simp only [rotF]
  split
  · congr 1; omega
  · split
    · omega
    · rfl
theorem rotF_right (f : Nat → Nat) (a m : Nat) (h : a ≤ m) : rotF f a m m = f := by
  funext p; simp only [rotF]
  split
  · omega
  · split
    · congr 1; omega
    · rfl
theorem rot_more (f : Nat → Nat) (m i j : Nat) (hi : i ≤ m) (h : j < i) : rotF (swr f (m - i) m j) (m - (i - j)) m (m + j) = rotF f (m - i) m (m + j) := by
  funext p; simp only [rotF, swr]
  repeat' split
  all_goals first | omega | rfl | (congr 1; omega)
theorem rot_less (f : Nat → Nat) (m i j : Nat) (hi : i ≤ m) (h : i < j) : rotF (swr f (m - i) (m + j - i) i) (m - i) m (m + (j - i)) = rotF f (m - i) m (m + j) := by
  funext p; simp only [rotF, swr]
  repeat' split
  all_goals first | omega | rfl | (congr 1; omega)
theorem rot_same (f : Nat → Nat) (m i : Nat) (hi : i ≤ m) : swr f (m - i) m i = rotF f (m - i) m (m + i) := by
  funext p; simp only [rotF, swr]
  repeat' split
  all_goals first | omega | rfl | (congr 1; omega)
/-- the place a goes up to k, those between go down -/
def shlF (f : Nat → Nat) (a k : Nat) : Nat → Nat := fun p => if a ≤ p ∧ p < k then f (p + 1) else if p = k then f a else f p
theorem shlF_zero (f : Nat → Nat) (a : Nat) : shlF f a a = f := by
  funext p; simp only [shlF]
  rw [if_neg (by omega)]
  split
  · subst_vars; rfl
  · rfl
theorem shlF_succ (f : Nat → Nat) (a k : Nat) (h : a ≤ k) : swp (shlF f a k) k (k + 1) = shlF f a (k + 1) := by
  funext p; simp only [shlF, swp]
  repeat' split
  all_goals first | omega | rfl | (exact absurd trivial ‹¬ True›) | (congr 1; omega)
/-- the place m goes down to k, those between go up -/
def shrF (f : Nat → Nat) (k m : Nat) : Nat → Nat := fun p => if k < p ∧ p ≤ m then f (p - 1) else if p = k then f m else f p
theorem shrF_zero (f : Nat → Nat) (m : Nat) : shrF f m m = f := by
  funext p; simp only [shrF]
  rw [if_neg (by omega)]
  split
  · subst_vars; rfl
  · rfl
theorem shrF_succ (f : Nat → Nat) (k m : Nat) (h : k + 1 ≤ m) : swp (shrF f (k + 1) m) (k + 1) k = shrF f k m := by
  funext p; simp only [shrF, swp]
  repeat' split
  all_goals first | omega | rfl | (exact absurd trivial ‹¬ True›) | (congr 1; omega)
/-- what a sort of the places from a to b leaves -/
structure Srt (R : Nat → Nat → Prop) (f f' : Nat → Nat) (a b : Nat) : Prop where
  out : ∀ p, p < a ∨ b ≤ p → f' p = f p
  src : ∀ p, a ≤ p → p < b → ∃ q, a ≤ q ∧ q < b ∧ f' p = f q
  ord : ∀ p q, a ≤ p → p < q → q < b → R (f' p) (f' q)
section
variable {R : Nat → Nat → Prop} {f f' g g1 g2 : Nat → Nat} {a b m n : Nat}
theorem Srt.triv (h : ∀ p q, a ≤ p → p < q → q < b → R (f p) (f q)) : Srt R f f a b := ⟨fun _ _ => rfl, fun p h1 h2 => ⟨p, h1, h2, rfl⟩, h⟩
/-- while the place j is brought down -/
structure Going (R : Nat → Nat → Prop) (f f' : Nat → Nat) (a i j : Nat) : Prop where
  aj : a ≤ j
  ji : j ≤ i
  ord : ∀ p q, a ≤ p → p < q → q ≤ i → q ≠ j → R (f' p) (f' q)
  out : ∀ p, p < a ∨ i < p → f' p = f p
  src : ∀ p, a ≤ p → p ≤ i → ∃ q, a ≤ q ∧ q ≤ i ∧ f' p = f q
  top : ∀ p, a ≤ p → p ≤ i → p ≠ j → f' p < f' j
theorem Going.start (hai : a ≤ n) (h : Srt R f f' a n) (hup : ∀ p q, a ≤ p → p < q → q ≤ n → f p < f q) : Going R f f' a n n := by
  refine ⟨hai, Nat.le_refl _, fun p q h1 h2 h3 h4 => h.ord p q h1 h2 (by omega), fun p hp => h.out p (by omega), fun p h1 h2 => ?_, fun p h1 h2 h3 => ?_⟩
  · by_cases e : p = n
    · subst e; exact ⟨p, h1, Nat.le_refl _, h.out p (by omega)⟩
    · obtain ⟨q, h4, h5, h6⟩ := h.src p h1 (by omega)
      exact ⟨q, h4, by omega, h6⟩
  · obtain ⟨q, h4, h5, h6⟩ := h.src p h1 (by omega)
    rw [h6, h.out n (by omega)]
    exact hup q n h4 h5 (Nat.le_refl _)
theorem Going.down {i j : Nat} (tr : ∀ {x y z}, R x y → R y z → R x z) (h : Going R f f' a i (j + 1)) (haj : a ≤ j) (hr : R (f' (j + 1)) (f' j)) : Going R f (swp f' (j + 1) j) a i j := by
  have hji := h.ji
  have e1 : swp f' (j + 1) j (j + 1) = f' j := by simp [swp]
  have e2 : swp f' (j + 1) j j = f' (j + 1) := by simp [swp]
  have e3 : ∀ p, p ≠ j + 1 → p ≠ j → swp f' (j + 1) j p = f' p := fun p h1 h2 => by simp [swp, h1, h2]
  refine ⟨haj, by omega, fun p q h1 h2 h3 h4 => ?_, fun p hp => ?_, fun p h1 h2 => ?_, fun p h1 h2 h3 => ?_⟩
  · by_cases hq : q = j + 1
    · subst hq
      rw [e1]
      by_cases hp : p = j
      · subst hp; rw [e2]; exact hr
      · rw [e3 p (by omega) hp]
        exact h.ord p j h1 (by omega) (by omega) (by omega)
    · rw [e3 q hq h4]
      by_cases hp : p = j + 1
      · subst hp; rw [e1]; exact h.ord j q (by omega) (by omega) h3 hq
      · by_cases hp2 : p = j
        · subst hp2; rw [e2]; exact h.ord (p + 1) q (by omega) (by omega) h3 hq
        · rw [e3 p hp hp2]; exact h.ord p q h1 h2 h3 hq
  · rw [e3 p (by omega) (by omega)]; exact h.out p hp
  · by_cases hp : p = j + 1
    · subst hp; rw [e1]; exact h.src j haj (by omega)
    · by_cases hp2 : p = j
      · subst hp2; rw [e2]; exact h.src (p + 1) (by omega) (by omega)
      · rw [e3 p hp hp2]; exact h.src p h1 h2
  · rw [e2]
    by_cases hp : p = j + 1
    · subst hp; rw [e1]; exact h.top j haj (by omega) (by omega)
    · rw [e3 p hp h3]; exact h.top p h1 h2 hp
theorem Going.stop {i j : Nat} (tr : ∀ {x y z}, R x y → R y z → R x z) (h : Going R f f' a i j) (hr : a < j → R (f' (j - 1)) (f' j)) : Srt R f f' a (i + 1) := by
  have hji := h.ji
  refine ⟨fun p hp => h.out p (by omega), fun p h1 h2 => ?_, fun p q h1 h2 h3 => ?_⟩
  · obtain ⟨q, h4, h5, h6⟩ := h.src p h1 (by omega)
    exact ⟨q, h4, by omega, h6⟩
  · by_cases hq : q = j
    · subst hq
      have h4 := hr (by omega)
      by_cases hp : p = q - 1
      · subst hp; exact h4
      · exact tr (h.ord p (q - 1) h1 (by omega) (by omega) (by omega)) h4
    · exact h.ord p q h1 h2 (by omega) hq
/-- one place ahead of a sorted part is put into it -/
theorem Srt.left {i : Nat} (tr : ∀ {x y z}, R x y → R y z → R x z) (hr : ∀ p q, a + 1 ≤ p → p < q → q < b → R (f p) (f q)) (hi : a + 1 ≤ i) (hib : i ≤ b)
    (h1 : a + 1 < i → R (f (i - 1)) (f a)) (h2 : i < b → R (f a) (f i)) : Srt R f (shlF f a (i - 1)) a b := by
  have lo : ∀ p, a + 1 ≤ p → p < i → R (f p) (f a) := fun p h3 h4 => by
    by_cases e : p = i - 1
    · subst e; exact h1 (by omega)
    · exact tr (hr p (i - 1) h3 (by omega) (by omega)) (h1 (by omega))
  have hi2 : ∀ p, i ≤ p → p < b → R (f a) (f p) := fun p h3 h4 => by
    by_cases e : p = i
    · subst e; exact h2 h4
    · exact tr (h2 (by omega)) (hr i p hi (by omega) h4)
  refine ⟨fun p hp => ?_, fun p h3 h4 => ?_, fun p q h3 h4 h5 => ?_⟩
  · simp only [shlF]; rw [if_neg (by omega), if_neg (by omega)]
  · simp only [shlF]
    by_cases e : p < i - 1
    · rw [if_pos ⟨h3, e⟩]; exact ⟨p + 1, by omega, by omega, rfl⟩
    · by_cases e2 : p = i - 1
      · rw [if_neg (by omega), if_pos e2]; exact ⟨a, Nat.le_refl _, by omega, rfl⟩
      · rw [if_neg (by omega), if_neg e2]; exact ⟨p, h3, h4, rfl⟩
  · simp only [shlF]
    by_cases e : q < i - 1
    · rw [if_pos ⟨h3, by omega⟩, if_pos ⟨by omega, e⟩]; exact hr _ _ (by omega) (by omega) (by omega)
    · by_cases e2 : q = i - 1
      · rw [if_pos ⟨h3, by omega⟩, if_neg (by omega), if_pos e2]; exact lo _ (by omega) (by omega)
      · rw [if_neg (show ¬ (a ≤ q ∧ q < i - 1) by omega), if_neg e2]
        by_cases e3 : p < i - 1
        · rw [if_pos ⟨h3, e3⟩]; exact hr _ _ (by omega) (by omega) h5
        · by_cases e4 : p = i - 1
          · rw [if_neg (by omega), if_pos e4]; exact hi2 _ (by omega) h5
          · rw [if_neg (by omega), if_neg e4]; exact hr _ _ (by omega) h4 h5
/-- one place behind a sorted part is put into it -/
theorem Srt.right {i : Nat} (tr : ∀ {x y z}, R x y → R y z → R x z) (hl : ∀ p q, a ≤ p → p < q → q < m → R (f p) (f q)) (hi : a ≤ i) (him : i ≤ m)
    (h1 : a < i → R (f (i - 1)) (f m)) (h2 : i < m → R (f m) (f i)) : Srt R f (shrF f i m) a (m + 1) := by
  have lo : ∀ p, a ≤ p → p < i → R (f p) (f m) := fun p h3 h4 => by
    by_cases e : p = i - 1
    · subst e; exact h1 (by omega)
    · exact tr (hl p (i - 1) h3 (by omega) (by omega)) (h1 (by omega))
  have hi2 : ∀ p, i ≤ p → p < m → R (f m) (f p) := fun p h3 h4 => by
    by_cases e : p = i
    · subst e; exact h2 h4
    · exact tr (h2 (by omega)) (hl i p hi (by omega) h4)
  refine ⟨fun p hp => ?_, fun p h3 h4 => ?_, fun p q h3 h4 h5 => ?_⟩
  · simp only [shrF]; rw [if_neg (by omega), if_neg (by omega)]
  · simp only [shrF]
    by_cases e : i < p
    · rw [if_pos ⟨e, by omega⟩]; exact ⟨p - 1, by omega, by omega, rfl⟩
    · by_cases e2 : p = i
      · rw [if_neg (by omega), if_pos e2]; exact ⟨m, by omega, by omega, rfl⟩
      · rw [if_neg (by omega), if_neg e2]; exact ⟨p, h3, h4, rfl⟩
  · simp only [shrF]
    by_cases e : q < i
    · rw [if_neg (by omega), if_neg (by omega), if_neg (by omega), if_neg (by omega)]; exact hl _ _ h3 h4 (by omega)
    · by_cases e2 : q = i
      · rw [if_neg (by omega), if_neg (by omega), if_neg (by omega), if_pos e2]; exact lo _ h3 (by omega)
      · rw [if_pos (show i < q ∧ q ≤ m by omega)]
        by_cases e3 : p < i
        · rw [if_neg (by omega), if_neg (by omega)]; exact hl _ _ h3 (by omega) (by omega)
        · by_cases e4 : p = i
          · rw [if_neg (by omega), if_pos e4]; exact hi2 _ (by omega) (by omega)
          · rw [if_pos (by omega)]; exact hl _ _ (by omega) (by omega) (by omega)
/-- two sorted parts, a to m and m to b, every number of the first less than any of the second -/
structure Two (R : Nat → Nat → Prop) (f : Nat → Nat) (a m b : Nat) : Prop where
  am : a < m
  mb : m < b
  left : ∀ p q, a ≤ p → p < q → q < m → R (f p) (f q)
  right : ∀ p q, m ≤ p → p < q → q < b → R (f p) (f q)
  less : ∀ p q, a ≤ p → p < m → m ≤ q → q < b → f p < f q
/-- the two halves of a merge, after the parts s to m and m to e changed their order -/
theorem Two.halves {mid s e : Nat} (tr : ∀ {x y z}, R x y → R y z → R x z) (h : Two R f a m b) (hmid : a ≤ mid) (hmb : mid ≤ b) (has : a ≤ s) (hsm : s ≤ m) (hme : m ≤ e) (heb : e ≤ b) (hse : s + e = mid + m)
    (h1 : a < s → e < b → R (f (s - 1)) (f e)) (h2 : s < m → m < e → R (f (e - 1)) (f s)) :
    (∀ p q, a ≤ p → p < mid → mid ≤ q → q < b → R (rotF f s m e p) (rotF f s m e q)) ∧
    (∀ p q, a ≤ p → p < q → q < s → R (rotF f s m e p) (rotF f s m e q)) ∧ (∀ p q, s ≤ p → p < q → q < mid → R (rotF f s m e p) (rotF f s m e q)) ∧
    (∀ p q, a ≤ p → p < s → s ≤ q → q < mid → rotF f s m e p < rotF f s m e q) ∧
    (∀ p q, mid ≤ p → p < q → q < e → R (rotF f s m e p) (rotF f s m e q)) ∧ (∀ p q, e ≤ p → p < q → q < b → R (rotF f s m e p) (rotF f s m e q)) ∧
    (∀ p q, mid ≤ p → p < e → e ≤ q → q < b → rotF f s m e p < rotF f s m e q) := by
  have em : s + (e - m) = mid := by omega
  have A1 : ∀ p, p < s → rotF f s m e p = f p := fun p hp => by simp only [rotF]; rw [if_neg (by omega), if_neg (by omega)]
  have B1 : ∀ p, s ≤ p → p < mid → rotF f s m e p = f (p - s + m) := fun p h3 h4 => by simp only [rotF]; rw [if_pos (by omega)]
  have A2 : ∀ p, mid ≤ p → p < e → rotF f s m e p = f (p - (e - m)) := fun p h3 h4 => by simp only [rotF]; rw [if_neg (by omega), if_pos (by omega)]
  have B2 : ∀ p, e ≤ p → rotF f s m e p = f p := fun p h3 => by simp only [rotF]; rw [if_neg (by omega), if_neg (by omega)]
  have L := h.left
  have G := h.right
  have S := h.less
  -- the largest of the first halves, the least of the second ones
  have c1 : ∀ p q, a ≤ p → p < s → e ≤ q → q < b → R (f p) (f q) := fun p q h3 h4 h5 h6 => by
    have h7 := h1 (by omega) (by omega)
    have h8 : R (f p) (f e) := by
      by_cases x : p = s - 1
      · subst x; exact h7
      · exact tr (L p (s - 1) h3 (by omega) (by omega)) h7
    by_cases x : q = e
    · subst x; exact h8
    · exact tr h8 (G e q hme (by omega) h6)
  have c2 : ∀ p q, m ≤ p → p < e → s ≤ q → q < m → R (f p) (f q) := fun p q h3 h4 h5 h6 => by
    have h7 := h2 (by omega) (by omega)
    have h8 : R (f p) (f s) := by
      by_cases x : p = e - 1
      · subst x; exact h7
      · exact tr (G p (e - 1) h3 (by omega) (by omega)) h7
    by_cases x : q = s
    · subst x; exact h8
    · exact tr h8 (L s q has (by omega) h6)
  refine ⟨fun p q h3 h4 h5 h6 => ?_, fun p q h3 h4 h5 => ?_, fun p q h3 h4 h5 => ?_, fun p q h3 h4 h5 h6 => ?_, fun p q h3 h4 h5 => ?_, fun p q h3 h4 h5 => ?_, fun p q h3 h4 h5 h6 => ?_⟩
  · by_cases x : p < s <;> by_cases y : q < e
    · rw [A1 p x, A2 q h5 y]; exact L _ _ h3 (by omega) (by omega)
    · rw [A1 p x, B2 q (by omega)]; exact c1 _ _ h3 x (by omega) h6
    · rw [B1 p (by omega) h4, A2 q h5 y]; exact c2 _ _ (by omega) (by omega) (by omega) (by omega)
    · rw [B1 p (by omega) h4, B2 q (by omega)]; exact G _ _ (by omega) (by omega) h6
  · rw [A1 p (by omega), A1 q h5]; exact L _ _ h3 h4 (by omega)
  · rw [B1 p h3 (by omega), B1 q (by omega) h5]; exact G _ _ (by omega) (by omega) (by omega)
  · rw [A1 p h4, B1 q h5 h6]; exact S _ _ h3 (by omega) (by omega) (by omega)
  · rw [A2 p h3 (by omega), A2 q (by omega) h5]; exact L _ _ (by omega) (by omega) (by omega)
  · rw [B2 p h3, B2 q (by omega)]; exact G _ _ (by omega) h4 h5
  · rw [A2 p h3 h4, B2 q h5]; exact S _ _ (by omega) (by omega) (by omega) h6
theorem rotF_src {s e : Nat} (hsm : s ≤ m) (hme : m ≤ e) (has : a ≤ s) (heb : e ≤ b) (p : Nat) (h1 : a ≤ p) (h2 : p < b) : ∃ q, a ≤ q ∧ q < b ∧ rotF f s m e p = f q := by
  simp only [rotF]
  split
  · exact ⟨_, by omega, by omega, rfl⟩
  · split
    · exact ⟨_, by omega, by omega, rfl⟩
    · exact ⟨p, h1, h2, rfl⟩
theorem rotF_out {s e : Nat} (hsm : s ≤ m) (hme : m ≤ e) (has : a ≤ s) (heb : e ≤ b) (p : Nat) (h : p < a ∨ b ≤ p) : rotF f s m e p = f p := by
  simp only [rotF]
  rw [if_neg (by omega), if_neg (by omega)]
/-- two sorted halves, all of the first before all of the second -/
theorem Srt.both {mid : Nat} (ham : a ≤ mid) (hmb : mid ≤ b) (ho : ∀ p, p < a ∨ b ≤ p → g p = f p) (hs : ∀ p, a ≤ p → p < b → ∃ q, a ≤ q ∧ q < b ∧ g p = f q)
    (hc : ∀ p q, a ≤ p → p < mid → mid ≤ q → q < b → R (g p) (g q)) (h1 : Srt R g g1 a mid) (h2 : Srt R g1 g2 mid b) : Srt R f g2 a b := by
  refine ⟨fun p hp => ?_, fun p h3 h4 => ?_, fun p q h3 h4 h5 => ?_⟩
  · rw [h2.out p (by omega), h1.out p (by omega), ho p hp]
  · by_cases x : p < mid
    · rw [h2.out p (.inl x)]
      obtain ⟨q, h5, h6, h7⟩ := h1.src p h3 x
      rw [h7]; exact hs q h5 (by omega)
    · obtain ⟨q, h5, h6, h7⟩ := h2.src p (by omega) h4
      rw [h7, h1.out q (.inr h5)]; exact hs q (by omega) h6
  · by_cases x : q < mid
    · rw [h2.out p (.inl (by omega)), h2.out q (.inl x)]; exact h1.ord p q h3 h4 x
    · by_cases y : p < mid
      · rw [h2.out p (.inl y)]
        obtain ⟨p', h6, h7, h8⟩ := h1.src p h3 y
        obtain ⟨q', h9, h10, h11⟩ := h2.src q (by omega) h5
        rw [h8, h11, h1.out q' (.inr h9)]
        exact hc _ _ h6 h7 h9 h10
      · exact h2.ord p q (by omega) h4 h5
/-- blocks of 20 places are sorted up to a -/
structure InsB (R : Nat → Nat → Prop) (f : Nat → Nat) (n a : Nat) : Prop where
  ord : ∀ p q, p < q → q < a → p / 20 = q / 20 → R (f p) (f q)
  src : ∀ p, p < n → f p / 20 = p / 20 ∧ f p < n
  rest : ∀ p, a ≤ p → f p = p
theorem InsB.start : InsB R id n 0 := ⟨fun p q _ h => by omega, fun p hp => ⟨rfl, hp⟩, fun _ _ => rfl⟩
theorem InsB.up (h : InsB R f n a) : ∀ p q, a ≤ p → p < q → f p < f q := fun p q h1 h2 => by rw [h.rest p h1, h.rest q (by omega)]; exact h2
theorem InsB.next (h : InsB R f n a) (ha : a % 20 = 0) (hab : a ≤ b) (hbn : b ≤ n) (hb : b ≤ a + 20) (hs : Srt R f f' a b) : InsB R f' n b := by
  refine ⟨fun p q h1 h2 h3 => ?_, fun p hp => ?_, fun p hp => ?_⟩
  · by_cases x : q < a
    · rw [hs.out p (by omega), hs.out q (by omega)]; exact h.ord p q h1 x h3
    · by_cases y : p < a
      · omega
      · exact hs.ord p q (by omega) h1 h2
  · by_cases x : a ≤ p ∧ p < b
    · obtain ⟨q, h4, h5, h6⟩ := hs.src p x.1 x.2
      rw [h6, h.rest q h4]; omega
    · rw [hs.out p (by omega)]; exact h.src p hp
  · rw [hs.out p (by omega)]; exact h.rest p (by omega)
/-- blocks of z places are sorted -/
structure BlkB (R : Nat → Nat → Prop) (f : Nat → Nat) (n z : Nat) : Prop where
  ord : ∀ p q, p < q → q < n → p / z = q / z → R (f p) (f q)
  src : ∀ p, p < n → f p / z = p / z ∧ f p < n
theorem InsB.blk (h : InsB R f n n) : BlkB R f n 20 := ⟨fun p q h1 h2 h3 => h.ord p q h1 h2 h3, h.src⟩
/-- up to a blocks of 2 z places are sorted, behind it blocks of z -/
structure MrgB (R : Nat → Nat → Prop) (f : Nat → Nat) (n z a : Nat) : Prop where
  low : ∀ p q, p < q → q < a → p / (2 * z) = q / (2 * z) → R (f p) (f q)
  ord : ∀ p q, a ≤ p → p < q → q < n → p / z = q / z → R (f p) (f q)
  src : ∀ p, p < n → f p / (2 * z) = p / (2 * z) ∧ f p < n
  hig : ∀ p, a ≤ p → p < n → f p / z = p / z
def oneZ (z : Nat) : Prop := z = 20 ∨ z = 40 ∨ z = 80
theorem MrgB.start {z : Nat} (hz : oneZ z) (h : BlkB R f n z) : MrgB R f n z 0 := by
  refine ⟨fun p q _ h1 => by omega, fun p q _ h1 h2 h3 => h.ord p q h1 h2 h3, fun p hp => ⟨?_, (h.src p hp).2⟩, fun p _ hp => (h.src p hp).1⟩
  have := (h.src p hp).1
  rcases hz with rfl | rfl | rfl <;> omega
theorem MrgB.two {z : Nat} (hz : oneZ z) (h : MrgB R f n z a) (ha : a % (2 * z) = 0) (hm : a + z < b) (hb : b ≤ a + 2 * z) (hn : b ≤ n) : Two R f a (a + z) b := by
  refine ⟨by rcases hz with rfl | rfl | rfl <;> omega, hm, fun p q h1 h2 h3 => h.ord p q h1 h2 (by omega) ?_, fun p q h1 h2 h3 => h.ord p q (by omega) h2 (by omega) ?_, fun p q h1 h2 h3 h4 => ?_⟩
  · rcases hz with rfl | rfl | rfl <;> omega
  · rcases hz with rfl | rfl | rfl <;> omega
  · have x := h.hig p h1 (by omega)
    have y := h.hig q (by omega) (by omega)
    rcases hz with rfl | rfl | rfl <;> omega
theorem MrgB.next {z : Nat} (hz : oneZ z) (h : MrgB R f n z a) (ha : a % (2 * z) = 0) (hb : b ≤ a + 2 * z) (hab : a ≤ b) (hbn : b = a + 2 * z ∨ b = n) (hn : b ≤ n) (hs : Srt R f f' a b) : MrgB R f' n z b := by
  refine ⟨fun p q h1 h2 h3 => ?_, fun p q h1 h2 h3 h4 => ?_, fun p hp => ?_, fun p h1 hp => ?_⟩
  · by_cases x : q < a
    · rw [hs.out p (by omega), hs.out q (by omega)]; exact h.low p q h1 x h3
    · by_cases y : p < a
      · exfalso; rcases hz with rfl | rfl | rfl <;> omega
      · exact hs.ord p q (by omega) h1 h2
  · rw [hs.out p (by omega), hs.out q (by omega)]; exact h.ord p q (by omega) h2 h3 h4
  · by_cases x : a ≤ p ∧ p < b
    · obtain ⟨q, h4, h5, h6⟩ := hs.src p x.1 x.2
      rw [h6]
      have := h.src q (by omega)
      refine ⟨?_, this.2⟩
      rcases hz with rfl | rfl | rfl <;> omega
    · rw [hs.out p (by omega)]; exact h.src p hp
  · rw [hs.out p (by omega)]; exact h.hig p (by omega) hp
theorem MrgB.stop {z : Nat} (hz : oneZ z) (h : MrgB R f n z a) (ha : a % (2 * z) = 0) (hn : n ≤ a + z) : BlkB R f n (2 * z) := by
  refine ⟨fun p q h1 h2 h3 => ?_, h.src⟩
  by_cases x : q < a
  · exact h.low p q h1 x h3
  · refine h.ord p q ?_ h1 h2 ?_ <;> (rcases hz with rfl | rfl | rfl <;> omega)
theorem MrgB.full {z : Nat} (h : MrgB R f n z n) : BlkB R f n (2 * z) := ⟨fun p q h1 h2 h3 => h.low p q h1 h2 h3, h.src⟩
theorem BlkB.all {z : Nat} (h : BlkB R f n z) (hz : n ≤ z) : (∀ p q, p < q → q < n → R (f p) (f q)) ∧ ∀ p, p < n → f p < n :=
  ⟨fun p q h1 h2 => h.ord p q h1 h2 (by rw [Nat.div_eq_of_lt (by omega), Nat.div_eq_of_lt (by omega)]), fun p hp => (h.src p hp).2⟩
end
/-- numbers as ints -/
def lstF (N : Nat) (f : Nat → Nat) : List Int := (List.range N).map fun i => ((f i : Nat) : Int)
@[simp] theorem lstF_len (N : Nat) (f : Nat → Nat) : (lstF N f).length = N := by simp [lstF]
theorem lstF_get (N : Nat) (f : Nat → Nat) (i : Nat) (h : i < N) : (lstF N f)[i]? = some ((f i : Nat) : Int) := by simp [lstF, h]
theorem lstF_set (N : Nat) (f : Nat → Nat) (i x : Nat) : (lstF N f).set i (x : Int) = lstF N (upd f i x) := by
  apply List.ext_getElem?
  intro j
  rw [List.getElem?_set]
  simp only [lstF, List.length_map, List.length_range, List.getElem?_map, List.getElem?_range, upd]
  by_cases h : i = j
  · subst h
    by_cases h2 : i < N
    · simp [h2]
    · simp [h2, List.getElem?_range]
  · by_cases h2 : j < N
    · simp [h, h2, Ne.symm h]
    · simp [h, h2]
end G294

/- A row of ints that is sorted in place, in memory; exchanged ranges, rotated ranges. -/
namespace G294
open Go Go.RowKit
/-- the row of the block B holds f, and nothing else has turned -/
structure RowF (E : TypeId) (w wr : World) (B N cp : Nat) (f : Nat → Nat) : Prop where
  own : OwnInts E wr B (B + 1) (.slice (some ⟨B, 0, none⟩) N cp) (lstF N f)
  turn : TurnIn B (B + 1) w wr
theorem turn_setF (w : World) (B o : Nat) (x : Value) : TurnIn B (B + 1) w (w.setCell ⟨B, o, none⟩ x) :=
  ⟨rfl, rfl, rfl, by simp, fun k hk hd => heap_setCell_other w _ k x (by rcases hd with h | h <;> simp <;> omega)⟩
section
variable {E : TypeId} {w wr : World} {B N cp : Nat} {f f' : Nat → Nat}
theorem RowF.start (h : OwnInts E w B (B + 1) (.slice (some ⟨B, 0, none⟩) N cp) (lstF N f)) : RowF E w w B N cp f := ⟨h, rfl, rfl, rfl, Nat.le_refl _, fun _ _ _ => rfl⟩
theorem RowF.congr (h : RowF E w wr B N cp f) (e : f = f') : RowF E w wr B N cp f' := e ▸ h
theorem RowF.cell (h : RowF E w wr B N cp f) {i : Nat} (hi : i < N) : wr.cell? ⟨B, i, none⟩ = some (.int .i64 ((f i : Nat) : Int)) := by
  have h1 := h.own.1
  rw [lstF_len] at h1
  have := h1.cells (g := B) rfl i (.int .i64 ((f i : Nat) : Int)) (by
    simp only [ints, List.getElem?_map, lstF_get N f i hi, Option.map_some])
  rwa [Addr.add_lit, Nat.zero_add] at this
theorem RowF.store (h : RowF E w wr B N cp f) {i x : Nat} : RowF E w (wr.setCell ⟨B, i, none⟩ (.int .i64 (x : Int))) B N cp (upd f i x) := by
  have h1 := h.own.1
  rw [lstF_len] at h1
  have hst := h1.stored i (.int .i64 (x : Int))
  refine ⟨⟨?_, by simpa using h.own.2.1, h.own.2.2⟩, turn_trans h.turn (turn_setF _ _ _ _) (by omega)⟩
  have e2 : ints (lstF N (upd f i x)) = (ints (lstF N f)).set i (.int .i64 (x : Int)) := by
    rw [← lstF_set]; simp [ints, List.map_set]
  rw [e2, lstF_len]
  exact hst.1
theorem RowF.swap (h : RowF E w wr B N cp f) (i j : Nat) : RowF E w ((wr.setCell ⟨B, i, none⟩ (.int .i64 ((f j : Nat) : Int))).setCell ⟨B, j, none⟩ (.int .i64 ((f i : Nat) : Int))) B N cp (swp f i j) :=
  (h.store.store).congr (upd_swp f i j)
theorem RowF.swapAt (h : RowF E w wr B N cp f) {i j x y : Nat} (hx : f i = x) (hy : f j = y) : RowF E w ((wr.setCell ⟨B, i, none⟩ (.int .i64 (y : Int))).setCell ⟨B, j, none⟩ (.int .i64 (x : Int))) B N cp (swp f i j) := by
  subst hx hy; exact h.swap i j
theorem RowF.drewN (h : RowF E w wr B N cp f) (q : Nat) : RowF E w (wr.drewN q) B N cp f := by
  have t : TurnIn 0 0 wr (wr.drewN q) := ⟨rfl, rfl, rfl, Nat.le_refl _, fun _ _ _ => rfl⟩
  exact ⟨h.own.keep t (by omega), turn_trans h.turn t (by omega)⟩
theorem RowF.trans {w1 w2 : World} (h : RowF E w w1 B N cp f) (k : RowF E w1 w2 B N cp f') : RowF E w w2 B N cp f' := ⟨k.own, turn_trans h.turn k.turn (by omega)⟩
theorem RowF.lt (h : RowF E w wr B N cp f) : B < wr.heap.size := h.own.2.1
theorem RowF.frozen (h : RowF E w wr B N cp f) (i : Nat) : wr.frozen? ⟨B, i, none⟩ = false := by
  rcases h.own.1.2 with ⟨hh, _⟩ | ⟨g, cap, cur, hh, _, hg, _⟩
  · cases hh
  · simp only [Value.slice.injEq, Option.some.injEq, Addr.mk.injEq] at hh
    obtain ⟨⟨rfl, _⟩, _, _⟩ := hh
    exact frozen_of_row _ _ _ _ _ hg
end
/-- a call that leaves the row sorted so -/
def RetRow (E : TypeId) (w : World) (B N cp : Nat) (f : Nat → Nat) (e : Ending) (w' : World) : Prop := e = .returned (.tuple #[]) ∧ RowF E w w' B N cp f
end G294
namespace Go.Proofs.Ytbfchebnooanjaa
open Go.RowKit G294

set_option maxRecDepth 100000 in
set_option maxHeartbeats 2000000 in
theorem swapRange_own (B N cp a b n : Nat) (f : Nat → Nat) (cv : Value) (w : World) (hr : OwnInts 3 w B (B + 1) (.slice (some ⟨B, 0, none⟩) N cp) (lstF N f)) (h1 : a + n ≤ b) (h2 : b + n ≤ N) (hN : N ≤ 1000) :
    Calls Try.prog 90 #[.slice (some ⟨B, 0, none⟩) N cp, .int .i64 a, .int .i64 b, .int .i64 n, cv] w (RetRow 3 w B N cp (swr f a b n)) := by
  have HR0 := Lib.hid ((RowF.start hr).congr (swr_zero f a b).symm)
  clear hr
  go_enter Try.func90, Try.ntmps90
  go_wp2_with fail
  go_loopw [10] (fun i wr => ∃ k : Nat, k ≤ n ∧ i = .int .i64 k ∧ Hid (RowF 3 w wr B N cp (swr f a b k))) (fun i _ => n - (intOf i).toNat)
  case atStart => exact ⟨0, Nat.zero_le _, rfl, HR0⟩
  case round =>
    obtain ⟨k, hk, rfl, HR⟩ := hrel
    by_cases hlt : k < n
    · have hki : (k : Int) < (n : Int) := by omega
      have HS := Lib.hid ((HR.out.swap (a + k) (b + k)).congr (swr_succ f a b k (by omega)))
      have c1 := HR.out.cell (show a + k < N by omega)
      have c2 := HR.out.cell (show b + k < N by omega)
      have f1 := HR.out.frozen (a + k)
      have f2 := HR.out.frozen (b + k)
      generalize swr f a b k (a + k) = x at *
      generalize swr f a b k (b + k) = y at *
      clear HR HR0
      go_wp2_with fail
      go_region
      go_wp2_with fail
      go_roundw
      case rel => exact ⟨k + 1, by omega, by go_num, Lib.hid (HS.out.drewN 1)⟩
      case measure => simp [intOf]; omega
    · obtain rfl : k = n := by omega
      have hki : ¬ (k : Int) < (k : Int) := by omega
      go_wp2_with fail
      go_end0
      exact ⟨rfl, HR.out⟩
end Go.Proofs.Ytbfchebnooanjaa

/- Chapter 11: what compares rotations; ranges that change their places. -/
namespace G294
open Go Go.RowKit
theorem drop_two (s : List UInt8) {k : Nat} (h : k ≤ s.length) : ((s ++ s).drop k).take s.length = rotL s k := by
  rw [List.drop_append_of_le_length h, List.take_append, List.length_drop, List.take_of_length_le (by simp)]
  unfold rotL
  congr 2
  omega
def cmpZ (s : List UInt8) (i j : Nat) : Int := Lib.compareBytes (rotL s i) (rotL s j)
theorem cmpZ_lt (s : List UInt8) (i j : Nat) : cmpZ s i j < 0 ↔ lessT (rotL s i) (rotL s j) = true := by
  rw [← cmp_less]; simp [cmpZ]
theorem cmpZ_ge {s : List UInt8} {i j : Nat} (h : ¬ cmpZ s i j < 0) : lessT (rotL s i) (rotL s j) = false := by
  cases hh : lessT (rotL s i) (rotL s j) with
  | false => rfl
  | true => exact absurd ((cmpZ_lt s i j).2 hh) h
/-- the function value g compares the rotations of s at two numbers, in any world in which the row of the block B alone has turned -/
def CmpAt (P : Program) (g : Nat) (lb : Array Value) (B n : Nat) (s : List UInt8) (w : World) : Prop :=
  ∀ (W : World) (i j : Nat), TurnIn B (B + 1) w W → i < n → j < n → Calls P g (#[.int .i64 i, .int .i64 j] ++ lb) W fun e w' => e = .returned (.int .i64 (cmpZ s i j)) ∧ ∃ q, w' = W.drewN q
/-- such a call inside a region that only reads -/
theorem quietC {P : Program} {f : FuncId} {args : Array Value} {w : World} {n : Nat} {v : Value} (h : Calls P f args (w.drewN n) fun e w' => e = .returned v ∧ ∃ q, w' = (w.drewN n).drewN q) :
    Calls P f args (w.drewN n) fun e w' => e = .returned v ∧ ∃ m, w' = w.drewN m := h.mono fun _ _ ⟨he, q, hw⟩ => ⟨he, n + q, by rw [hw, World.drewN_drewN]⟩
theorem turn_drewN (w : World) (q : Nat) : TurnIn 0 0 w (w.drewN q) := ⟨rfl, rfl, rfl, Nat.le_refl _, fun _ _ _ => rfl⟩
theorem CmpAt.later {P : Program} {g : Nat} {lb : Array Value} {B n : Nat} {s : List UInt8} {w W : World} (h : CmpAt P g lb B n s w) (t : TurnIn B (B + 1) w W) : CmpAt P g lb B n s W :=
  fun W' i j t' hi hj => h W' i j (turn_trans t t' (by omega)) hi hj
end G294
namespace Go.Proofs.Ytbfchebnooanjaa
open Go.RowKit G294

set_option maxRecDepth 100000 in
set_option maxHeartbeats 2000000 in
theorem rotate_own (B N cp a m b : Nat) (f : Nat → Nat) (cv : Value) (w : World) (hr : OwnInts 3 w B (B + 1) (.slice (some ⟨B, 0, none⟩) N cp) (lstF N f)) (h1 : a < m) (h2 : m < b) (h3 : b ≤ N) (hN : N ≤ 1000) :
    Calls Try.prog 82 #[.slice (some ⟨B, 0, none⟩) N cp, .int .i64 a, .int .i64 m, .int .i64 b, cv] w (RetRow 3 w B N cp (rotF f a m b)) := by
  have HR0 := Lib.hid (RowF.start hr)
  have HSW := Lib.hid (fun a b n f W hr h1 h2 => swapRange_own B N cp a b n f cv W hr h1 h2 hN)
  have e1 : (m : Int) - (a : Int) = ((m - a : Nat) : Int) := by omega
  have e2 : (b : Int) - (m : Int) = ((b - m : Nat) : Int) := by omega
  have HG : Hid (rotF f (m - (m - a)) m (m + (b - m)) = rotF f a m b) := by show _ = _; congr 1 <;> omega
  clear hr
  have hi0 : 0 < m - a := by omega
  have hj0 : 0 < b - m := by omega
  have him : m - a ≤ m := by omega
  have hjN : m + (b - m) ≤ N := by omega
  generalize hI : m - a = I at *
  generalize hJ : b - m = J at *
  have HIJ := Lib.hid (And.intro hI hJ)
  clear hI hJ
  go_enter Try.func82, Try.ntmps82
  go_wp2_with fail
  go_loopw [10, 11] (fun x y wr => ∃ i j : Nat, 0 < i ∧ 0 < j ∧ i ≤ m ∧ m + j ≤ N ∧ i ≤ I ∧ j ≤ J ∧ x = .int .i64 i ∧ y = .int .i64 j ∧ ∃ g, Hid (RowF 3 w wr B N cp g) ∧ Hid (rotF g (m - i) m (m + j) = rotF f a m b))
    (fun x y _ => (intOf x).toNat + (intOf y).toNat)
  case atStart => exact ⟨I, J, hi0, hj0, him, hjN, Nat.le_refl _, Nat.le_refl _, rfl, rfl, f, HR0, HG⟩
  case round =>
    obtain ⟨i, j, hi, hj, him2, hjN2, hiI, hjJ, rfl, rfl, g, HR, HE⟩ := hrel
    clear HR0 HG hi0 hj0 him hjN
    have e3 : (m : Int) - (i : Int) = ((m - i : Nat) : Int) := by omega
    by_cases hij : i = j
    · subst hij
      have hb : ((i : Int) != (i : Int)) = false := by simp
      have HC := Lib.hid (HSW.out (m - i) m i g wr HR.out.own (by omega) (by omega))
      have HF := Lib.hid ((rot_same g m i him2).trans HE.out)
      go_wp2_with fail
      refine HC.out.mono ?_
      rintro e w2 ⟨rfl, HR2⟩
      go_wp2_with fail
      go_end0
      exact ⟨rfl, (HR.out.trans HR2).congr HF.out⟩
    · have hb : ((i : Int) != (j : Int)) = true := by simp; omega
      by_cases hlt : j < i
      · have hlti : (j : Int) < (i : Int) := by omega
        have HC := Lib.hid (HSW.out (m - i) m j g wr HR.out.own (by omega) (by omega))
        have HF := Lib.hid ((rot_more g m i j him2 hlt).trans HE.out)
        have e4 : (i : Int) - (j : Int) = ((i - j : Nat) : Int) := by omega
        go_wp2_with fail
        refine HC.out.mono ?_
        rintro e w2 ⟨rfl, HR2⟩
        have HR3 := Lib.hid (HR.out.trans HR2)
        clear HR2
        go_wp2_with fail
        go_roundw
        case rel => exact ⟨i - j, j, by omega, hj, by omega, hjN2, by omega, hjJ, by go_num, rfl, _, HR3, HF⟩
        case measure => simp [intOf]; omega
      · have hlti : ¬ (j : Int) < (i : Int) := by omega
        have e5 : (m : Int) + (j : Int) - (i : Int) = ((m + j - i : Nat) : Int) := by omega
        have HC := Lib.hid (HSW.out (m - i) (m + j - i) i g wr HR.out.own (by omega) (by omega))
        have HF := Lib.hid ((rot_less g m i j him2 (by omega)).trans HE.out)
        have e4 : (j : Int) - (i : Int) = ((j - i : Nat) : Int) := by omega
        go_wp2_with fail
        refine HC.out.mono ?_
        rintro e w2 ⟨rfl, HR2⟩
        have HR3 := Lib.hid (HR.out.trans HR2)
        clear HR2
        go_wp2_with fail
        go_roundw
        case rel => exact ⟨i, j - i, hi, by omega, him2, by omega, hiI, by omega, rfl, by go_num, _, HR3, HF⟩
        case measure => simp [intOf]; omega

set_option maxRecDepth 100000 in
set_option maxHeartbeats 1000000 in
theorem compareString_any (a b : List UInt8) (w : World) : Calls Try.prog 59 #[.string (str a), .string (str b)] w fun e w' => e = .returned (.int .i64 (Lib.compareBytes a b)) ∧ w' = w := by
  go_enter Try.func59, Try.ntmps59
  go_wp2
  rw [run_callFunc_extern Try.func67 (by kernel_rfl) (by kernel_rfl) (by kernel_rfl) (e := Extern.BytealgCompare.compare) (by kernel_rfl), Lib.run_compareString]
  simp only [Result.andThen]
  rw [Oper.upon_value]
  go_wp2
  go_ret
  exact ⟨rfl, rfl⟩

set_option maxHeartbeats 1000000 in
theorem compare_any (a b : List UInt8) (w : World) : Calls Try.prog 44 #[.string (str a), .string (str b)] w fun e w' => e = .returned (.int .i64 (Lib.compareBytes a b)) ∧ w = w' := by
  go_enter Try.func44, Try.ntmps44
  go_wp2_with fail
  refine (compareString_any a b _).mono ?_
  rintro e w' ⟨rfl, rfl⟩
  go_wp2_with fail
  go_ret
  exact ⟨rfl, rfl⟩

set_option maxHeartbeats 1000000 in
theorem rotationIn_any (s : List UInt8) (k : Nat) (w : World) (hk : k ≤ s.length) (hs : s.length ≤ 1000) : Calls Try.prog 45 #[.string (str (s ++ s)), .int .i64 k] w fun e w' => e = .returned (.string (str (rotL s k))) ∧ w = w' := by
  have hsz : (str (s ++ s)).size = 2 * s.length := by rw [str_size]; simp; omega
  have hq : (2 * (s.length : Int)).tdiv 2 = (s.length : Int) := Int.mul_tdiv_cancel_left _ (by decide)
  have HE : Hid ((str (s ++ s)).extract k (k + s.length) = str (rotL s k)) := by
    show _ = _
    rw [← drop_two s hk]
    unfold str
    apply ByteArray.ext
    simp [ByteArray.data_extract]
  generalize hnn : s.length = n at *
  go_enter Try.func45, Try.ntmps45
  go_wp2_with fail
  go_ret
  exact ⟨by rw [HE.out]; rfl, rfl⟩

set_option maxRecDepth 100000 in
set_option maxHeartbeats 1000000 in
theorem turnsCmp_at (s : List UInt8) (Bd B : Nat) (w : World) (hs : s.length ≤ 1000) (hB : Bd < w.heap.size) (hne : Bd ≠ B) (hv : w.cell? ⟨Bd, 0, none⟩ = some (.string (str (s ++ s)))) :
    CmpAt Try.prog 43 #[.pointer (some ⟨Bd, 0, none⟩)] B s.length s w := by
  intro W i j t hi hj
  have hv' : W.cell? ⟨Bd, 0, none⟩ = some (.string (str (s ++ s))) := (World.cell?_of_block (t.block Bd hB (by omega))).trans hv
  have HL : Hid (Lib.compareBytes (rotL s i) (rotL s j) = cmpZ s i j) := Lib.hid rfl
  have HA := Lib.hid (fun W => rotationIn_any s i W (by omega) hs)
  have HB := Lib.hid (fun W => rotationIn_any s j W (by omega) hs)
  generalize rotL s i = x at *
  generalize rotL s j = y at *
  clear hv t
  go_enter Try.func43, Try.ntmps43
  go_wp2_with fail
  go_quiet (first | (go_at_call 44; exact quietly (compare_any x y _)) | (go_at_call_of 45 (Value.int .i64 i); exact quietly (HA.out _)) | (go_at_call 45; exact quietly (HB.out _)))
  go_wp2_with fail
  go_ret
  exact ⟨by rw [← HL.out]; rfl, _, rfl⟩
end Go.Proofs.Ytbfchebnooanjaa

/- Chapter 11: the insertion sort of a block. -/
namespace Go.Proofs.Ytbfchebnooanjaa
open Go.RowKit G294

set_option maxRecDepth 100000 in
set_option maxHeartbeats 4000000 in
theorem insSort_own (B N cp n a b g : Nat) (lb : Array Value) (s : List UInt8) (f0 : Nat → Nat) (w : World) (hr : OwnInts 3 w B (B + 1) (.slice (some ⟨B, 0, none⟩) N cp) (lstF N f0))
    (eg : ∀ args w, (callFunc g args).run Try.prog w = .ok (.enter g args) w) (hc : CmpAt Try.prog g lb B n s w) (hab : a ≤ b) (hbN : b ≤ N) (hN : N ≤ 1000) (hn : ∀ p, p < N → f0 p < n) (hup : ∀ p q, a ≤ p → p < q → q < b → f0 p < f0 q) :
    Calls Try.prog 65 #[.slice (some ⟨B, 0, none⟩) N cp, .int .i64 a, .int .i64 b, .func (.func g) #[] lb] w fun e w' => e = .returned (.tuple #[]) ∧ ∃ f, RowF 3 w w' B N cp f ∧ Srt (bef s) f0 f a b := by
  have HR0 := Lib.hid (RowF.start hr)
  have HC0 := Lib.hid hc
  have HUP := Lib.hid hup
  have HN := Lib.hid hn
  clear hr hc hup hn
  have HS0 : Hid (Srt (bef s) f0 f0 a (a + 1)) := Lib.hid (Srt.triv fun p q h1 h2 h3 => by omega)
  have HSZ : Hid (b ≤ a + 1 → Srt (bef s) f0 f0 a b) := fun e => Srt.triv fun p q h1 h2 h3 => by omega
  go_enter Try.func65, Try.ntmps65
  go_wp2_with fail
  go_loopw [8] (fun x wr => ∃ i : Nat, a + 1 ≤ i ∧ i ≤ b + 1 ∧ x = .int .i64 i ∧ ∃ f, Hid (RowF 3 w wr B N cp f) ∧ Hid (Srt (bef s) f0 f a i) ∧ Hid (i ≤ b ∨ (i = a + 1 ∧ f = f0)))
    (fun x _ => b + 1 - (intOf x).toNat)
  case atStart => exact ⟨a + 1, Nat.le_refl _, by omega, rfl, f0, HR0, HS0, Lib.hid (.inr ⟨rfl, rfl⟩)⟩
  case round =>
    obtain ⟨i, hai, hib, rfl, f, HR, HS, HB⟩ := hrel
    by_cases hlt : i < b
    · have hki : (i : Int) < (b : Int) := by omega
      have HG0 := Lib.hid (Going.start (R := bef s) (by omega) HS.out fun p q h1 h2 h3 => HUP.out p q h1 h2 (by omega))
      have HRO := HR
      have HB2 := HB
      clear HR HB HS0 HR0
      go_wp2_with fail
      go_loopw [9] (fun x wq => ∃ j : Nat, x = .int .i64 j ∧ ∃ f', Hid (RowF 3 w wq B N cp f') ∧ Hid (Going (bef s) f0 f' a i j)) (fun x _ => (intOf x).toNat)
      case atStart => exact ⟨i, rfl, f, HRO, HG0⟩
      case round =>
        clear HRO HG0
        obtain ⟨j, rfl, f', HR, HG⟩ := hrel
        have hji := HG.out.ji
        have haj := HG.out.aj
        by_cases hja : a < j
        · obtain ⟨q, rfl⟩ : ∃ q, j = q + 1 := ⟨j - 1, by omega⟩
          have hgt : (a : Int) < ((q + 1 : Nat) : Int) := by omega
          have hgt2 : (a : Int) < (q : Int) + 1 := by omega
          have c1 := HR.out.cell (show q + 1 < N by omega)
          have c2 := HR.out.cell (show q < N by omega)
          have HF1 := Lib.hid (HR.out.frozen (q + 1))
          have HF2 := Lib.hid (HR.out.frozen q)
          have HSW := Lib.hid (HR.out.swap (q + 1) q)
          have HLT := Lib.hid (HG.out.top q (by omega) (by omega) (by omega))
          have HV : Hid (f' (q + 1) < n ∧ f' q < n) := by
            obtain ⟨p1, h1, h2, h3⟩ := HG.out.src (q + 1) (by omega) (by omega)
            obtain ⟨p2, h4, h5, h6⟩ := HG.out.src q (by omega) (by omega)
            exact ⟨by rw [h3]; exact HN.out _ (by omega), by rw [h6]; exact HN.out _ (by omega)⟩
          have HC := Lib.hid (fun k => HC0.out (wr.drewN k) (f' (q + 1)) (f' q) (turn_trans HR.out.turn (turn_drewN wr k) (by omega)) HV.out.1 HV.out.2)
          have HD : Hid (cmpZ s (f' (q + 1)) (f' q) < 0 → Going (bef s) f0 (swp f' (q + 1) q) a i q) := fun h => HG.out.down bef_trans (by omega) ((bef_back HLT.out).2 ((cmpZ_lt _ _ _).1 h))
          have HT : Hid (¬ cmpZ s (f' (q + 1)) (f' q) < 0 → Srt (bef s) f0 f' a (i + 1)) := fun h => HG.out.stop bef_trans (fun _ => (bef_fore HLT.out).2 (cmpZ_ge h))
          have HRQ := Lib.hid (fun k => HR.out.drewN k)
          generalize cmpZ s (f' (q + 1)) (f' q) = z at *
          generalize hxx : f' (q + 1) = x at *
          generalize hyy : f' q = y at *
          have hxy1 := Lib.hid hxx
          have hxy2 := Lib.hid hyy
          clear hxx hyy HR HG HLT HV hgt
          by_cases hz : z < 0
          · have HD2 := Lib.hid (HD.out hz)
            clear HD HT
            go_wp2_with fail
            go_quiet ((go_at_fn g; exact quietC (HC.out _)))
            have c1' : (wr.drewN nq).cell? ⟨B, q + 1, none⟩ = some (.int .i64 (x : Int)) := c1
            have c2' : (wr.drewN nq).cell? ⟨B, q, none⟩ = some (.int .i64 (y : Int)) := c2
            have f1' : (wr.drewN nq).frozen? ⟨B, q + 1, none⟩ = false := HF1.out
            have f2' : (wr.drewN nq).frozen? ⟨B, q, none⟩ = false := HF2.out
            have HSW2 := Lib.hid (RowF.swapAt (HRQ.out nq) hxy1.out hxy2.out)
            clear c1 c2 HF1 HF2 HSW HRQ HC
            generalize wr.drewN nq = wz at *
            go_wp2_with fail
            go_region
            go_wp2_with fail
            go_roundw
            case rel => exact ⟨q, by go_num, _, Lib.hid (HSW2.out.drewN 1), HD2⟩
            case measure => simp [intOf] <;> omega
          · have HT2 := Lib.hid (HT.out hz)
            clear HD HT
            go_wp2_with fail
            go_quiet ((go_at_fn g; exact quietC (HC.out _)))
            go_wp2_with fail
            go_roundw
            case rel => exact ⟨i + 1, by omega, by omega, by go_num, _, HRQ.out _, HT2, Lib.hid (.inl (by omega))⟩
            case measure => simp [intOf]; omega
        · obtain rfl : j = a := by omega
          have hgt : ¬ (j : Int) < (j : Int) := by omega
          have hgd : decide ((j : Int) < (j : Int)) = false := by simp
          have HT2 := Lib.hid (Going.stop (R := bef s) bef_trans HG.out fun h => absurd h (Nat.lt_irrefl _))
          have HRQ := Lib.hid (fun k => HR.out.drewN k)
          clear HR HG
          go_wp2_with fail
          go_quiet (fail)
          go_wp2_with fail
          go_roundw
          case rel => exact ⟨i + 1, by omega, by omega, by go_num, _, HRQ.out _, HT2, Lib.hid (.inl (by omega))⟩
          case measure => simp [intOf]; omega
    · have hki : ¬ (i : Int) < (b : Int) := by omega
      have HE : Hid (Srt (bef s) f0 f a b) := by
        show Srt _ _ _ _ _
        rcases HB.out with h | ⟨h, rfl⟩
        · have : i = b := by omega
          exact this ▸ HS.out
        · have e : b ≤ a + 1 := by omega
          exact HSZ.out e
      clear HB HSZ HS HS0
      go_wp2_with fail
      go_end0
      exact ⟨rfl, f, HR.out, HE.out⟩
end Go.Proofs.Ytbfchebnooanjaa
