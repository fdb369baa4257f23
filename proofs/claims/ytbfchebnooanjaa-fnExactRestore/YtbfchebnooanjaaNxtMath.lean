/- Chapter 11: the places of the bytes of a text in the order of the bytes (mathematics). -/
import Derived.Test.YtbfchebnooanjaaBwtMath
import Derived.Test.YtbfchebnooanjaaVitS
set_option linter.unusedSimpArgs false
set_option linter.unusedVariables false
namespace G294
open Go Go.RowKit
/-- the byte at a place, as a number -/
def byN (s : List UInt8) (j : Nat) : Nat := (s.getD j 0).toNat
theorem byN_lt (s : List UInt8) (j : Nat) : byN s j < 256 := (s.getD j 0).toNat_lt
/-- the places below i that hold the byte b -/
def posN (s : List UInt8) (i b : Nat) : List Nat := (List.range i).filter fun j => decide (byN s j = b)
def nxtL (s : List UInt8) : List Nat := (List.range 256).flatMap (posN s s.length)
def cntB (s : List UInt8) (b : Nat) : Nat := (posN s s.length b).length
def fstN (s : List UInt8) (b : Nat) : Nat := ((List.range b).flatMap (posN s s.length)).length
theorem posN_zero (s : List UInt8) (b : Nat) : posN s 0 b = [] := rfl
theorem posN_yes {s : List UInt8} {i b : Nat} (h : byN s i = b) : posN s (i + 1) b = posN s i b ++ [i] := by
  simp [posN, List.range_succ, h]
theorem posN_not {s : List UInt8} {i b : Nat} (h : byN s i ≠ b) : posN s (i + 1) b = posN s i b := by
  simp [posN, List.range_succ, h]
theorem posN_more (s : List UInt8) (i b : Nat) : ∀ k, (posN s i b).length ≤ (posN s (i + k) b).length
  | 0 => Nat.le_refl _
  | k + 1 => by
    have := posN_more s i b k
    by_cases h : byN s (i + k) = b
    · rw [← Nat.add_assoc, posN_yes h]; simp; omega
    · rw [← Nat.add_assoc, posN_not h]; exact this
theorem posN_le {s : List UInt8} {i : Nat} (h : i ≤ s.length) (b : Nat) : (posN s i b).length ≤ cntB s b := by
  have := posN_more s i b (s.length - i)
  rwa [show i + (s.length - i) = s.length by omega] at this
theorem posN_lt {s : List UInt8} {i : Nat} (h : i < s.length) : (posN s i (byN s i)).length < cntB s (byN s i) := by
  have := posN_le (s := s) (i := i + 1) (by omega) (byN s i)
  rw [posN_yes rfl] at this
  simp at this; omega
theorem fstN_zero (s : List UInt8) : fstN s 0 = 0 := rfl
theorem fstN_succ (s : List UInt8) (b : Nat) : fstN s (b + 1) = fstN s b + cntB s b := by
  simp [fstN, cntB, List.range_succ, List.flatMap_append]
def totN (s : List UInt8) (i m : Nat) : Nat := ((List.range m).flatMap (posN s i)).length
theorem totN_succ (s : List UInt8) (i m : Nat) : totN s i (m + 1) = totN s i m + (posN s i m).length := by
  simp [totN, List.range_succ, List.flatMap_append]
theorem totN_next (s : List UInt8) (i : Nat) : ∀ m, totN s (i + 1) m = totN s i m + (if byN s i < m then 1 else 0)
  | 0 => rfl
  | m + 1 => by
    rw [totN_succ, totN_succ, totN_next s i m]
    by_cases h : byN s i = m
    · rw [posN_yes h, if_neg (by omega), if_pos (by omega)]; simp; omega
    · rw [posN_not h]
      by_cases h2 : byN s i < m
      · rw [if_pos h2, if_pos (by omega)]; omega
      · rw [if_neg h2, if_neg (by omega)]; omega
theorem totN_all (s : List UInt8) : ∀ i, totN s i 256 = i
  | 0 => by
    have : ∀ m, totN s 0 m = 0 := fun m => by
      induction m with
      | zero => rfl
      | succ m ih => rw [totN_succ, ih]; rfl
    exact this 256
  | i + 1 => by rw [totN_next, totN_all s i, if_pos (byN_lt s i)]
theorem fstN_all (s : List UInt8) : fstN s 256 = s.length := totN_all s s.length
theorem nxtL_len (s : List UInt8) : (nxtL s).length = s.length := fstN_all s
theorem fstN_mono (s : List UInt8) (a : Nat) : ∀ k, fstN s a ≤ fstN s (a + k)
  | 0 => Nat.le_refl _
  | k + 1 => by have := fstN_mono s a k; rw [← Nat.add_assoc, fstN_succ]; omega
theorem fstN_le {s : List UInt8} {b : Nat} (h : b ≤ 256) : fstN s b ≤ s.length := by
  have := fstN_mono s b (256 - b)
  rwa [show b + (256 - b) = 256 by omega, fstN_all] at this
/-- the number of a byte in a text -/
theorem posN_count (s : List UInt8) (b : UInt8) : ∀ k, k ≤ s.length → (posN s k b.toNat).length = (s.take k).count b
  | 0, _ => by simp [posN]
  | k + 1, h => by
    have ih := posN_count s b k (by omega)
    rw [take_snocD s h, List.count_append, ← ih]
    by_cases e : s.getD k 0 = b
    · rw [posN_yes (by rw [byN, e]), e]; simp
    · have e2 : byN s k ≠ b.toNat := fun h => e (UInt8.toNat_inj.1 h)
      rw [posN_not e2]
      have : List.count b [s.getD k 0] = 0 := by rw [List.count_singleton, if_neg (by simpa using e)]
      omega
theorem cntB_count (s : List UInt8) (b : UInt8) : cntB s b.toNat = s.count b := by
  have := posN_count s b s.length (Nat.le_refl _)
  rwa [List.take_length] at this
/-- the list while it is filled: the places met so far, then room -/
def blkN (s : List UInt8) (i b : Nat) : List Nat := posN s i b ++ List.replicate (cntB s b - (posN s i b).length) 0
def filN (s : List UInt8) (i : Nat) : List Nat := (List.range 256).flatMap (blkN s i)
theorem blkN_len {s : List UInt8} {i : Nat} (h : i ≤ s.length) (b : Nat) : (blkN s i b).length = cntB s b := by
  have := posN_le h b
  simp [blkN]; omega
theorem flat_len (s : List UInt8) {i : Nat} (h : i ≤ s.length) : ∀ m, ((List.range m).flatMap (blkN s i)).length = fstN s m
  | 0 => rfl
  | m + 1 => by
    rw [List.range_succ, List.flatMap_append, List.length_append, flat_len s h m, fstN_succ]
    simp [blkN_len h]
theorem filN_len {s : List UInt8} {i : Nat} (h : i ≤ s.length) : (filN s i).length = s.length := by rw [filN, flat_len s h, fstN_all]
theorem filN_zero (s : List UInt8) : filN s 0 = List.replicate s.length 0 := by
  have h : ∀ m, (List.range m).flatMap (blkN s 0) = List.replicate (fstN s m) 0 := fun m => by
    induction m with
    | zero => rfl
    | succ m ih =>
      rw [List.range_succ, List.flatMap_append, ih, fstN_succ, ← List.replicate_append_replicate]
      simp [blkN, posN_zero]
  rw [filN, h, fstN_all]
theorem filN_all (s : List UInt8) : filN s s.length = nxtL s := by
  unfold filN nxtL
  congr 1
  funext b
  unfold blkN
  rw [show cntB s b - (posN s s.length b).length = 0 from Nat.sub_self _]
  simp
theorem flat_set {f g : Nat → List Nat} {c q x : Nat} (hne : ∀ b, b ≠ c → f b = g b) (hq : q < (f c).length) (hs : (f c).set q x = g c) :
    ∀ m, c < m → ((List.range c).flatMap f).length + q < ((List.range m).flatMap f).length ∧ ((List.range m).flatMap f).set (((List.range c).flatMap f).length + q) x = (List.range m).flatMap g
  | 0, h => by omega
  | m + 1, h => by
    have he : (List.range (m + 1)).flatMap f = (List.range m).flatMap f ++ f m := by simp [List.range_succ, List.flatMap_append]
    have he2 : (List.range (m + 1)).flatMap g = (List.range m).flatMap g ++ g m := by simp [List.range_succ, List.flatMap_append]
    rw [he, he2]
    by_cases e : c = m
    · subst e
      refine ⟨by rw [List.length_append]; omega, ?_⟩
      rw [List.set_append, if_neg (by omega), Nat.add_sub_cancel_left, hs]
      congr 1
      have : ∀ k, k ≤ c → (List.range k).flatMap f = (List.range k).flatMap g := fun k hk => by
        induction k with
        | zero => rfl
        | succ k ih =>
          simp only [List.range_succ, List.flatMap_append, ih (by omega)]
          simp [hne k (by omega)]
      exact this c (Nat.le_refl _)
    · obtain ⟨h1, h2⟩ := flat_set hne hq hs m (by omega)
      refine ⟨by rw [List.length_append]; omega, ?_⟩
      rw [List.set_append, if_pos h1, h2, hne m (by omega)]
theorem blk_step {s : List UInt8} {i : Nat} (h : i < s.length) : (blkN s i (byN s i)).set (posN s i (byN s i)).length i = blkN s (i + 1) (byN s i) := by
  have hlt := posN_lt h
  unfold blkN
  rw [posN_yes rfl, List.set_append, if_neg (by omega), Nat.sub_self]
  have e : List.replicate (cntB s (byN s i) - (posN s i (byN s i)).length) 0 = 0 :: List.replicate (cntB s (byN s i) - (posN s i (byN s i) ++ [i]).length) 0 := by
    rw [← List.replicate_succ]; congr 1; simp; omega
  rw [e, List.append_assoc]; rfl
theorem filN_step {s : List UInt8} {i : Nat} (h : i < s.length) : fstN s (byN s i) + (posN s i (byN s i)).length < s.length ∧ (filN s i).set (fstN s (byN s i) + (posN s i (byN s i)).length) i = filN s (i + 1) := by
  have h1 := flat_set (f := blkN s i) (g := blkN s (i + 1)) (c := byN s i) (q := (posN s i (byN s i)).length) (x := i) (fun b hb => by unfold blkN; rw [posN_not (Ne.symm hb)])
    (by rw [blkN_len (by omega)]; exact posN_lt h) (blk_step h) 256 (byN_lt s i)
  rw [flat_len s (by omega), flat_len s (by omega), fstN_all] at h1
  exact h1
/-- where a byte's room lies -/
def offN (s : List UInt8) (b : Nat) : Nat := if cntB s b = 0 then 0 else fstN s b
theorem offN_yes {s : List UInt8} {b : Nat} (h : 0 < cntB s b) : offN s b = fstN s b := if_neg (by omega)
def roomV (g : Nat) (s : List UInt8) (i b : Nat) : Value := .slice (some ⟨g, offN s b, none⟩) (posN s i b).length (cntB s b)
def roomsL (g : Nat) (s : List UInt8) (i : Nat) : List Value := (List.range 256).map (roomV g s i)
theorem roomsL_len (g : Nat) (s : List UInt8) (i : Nat) : (roomsL g s i).length = 256 := by simp [roomsL]
theorem roomsL_get (g : Nat) (s : List UInt8) (i : Nat) {b : Nat} (h : b < 256) : (roomsL g s i)[b]? = some (roomV g s i b) := by simp [roomsL, h]
theorem roomsL_step (g : Nat) (s : List UInt8) (i : Nat) : (roomsL g s i).set (byN s i) (roomV g s (i + 1) (byN s i)) = roomsL g s (i + 1) := by
  apply List.ext_getElem?
  intro b
  rw [List.getElem?_set]
  by_cases hb : b < 256
  · by_cases e : byN s i = b
    · subst e
      rw [if_pos rfl, if_pos (by rw [roomsL_len]; exact hb), roomsL_get _ _ _ hb]
    · rw [if_neg e, roomsL_get _ _ _ hb, roomsL_get _ _ _ hb]
      unfold roomV
      rw [posN_not e]
  · have h1 : (roomsL g s i)[b]? = none := List.getElem?_eq_none (by rw [roomsL_len]; omega)
    have h2 : (roomsL g s (i + 1))[b]? = none := List.getElem?_eq_none (by rw [roomsL_len]; omega)
    rw [h1, h2]
    split
    · rw [if_neg (by rw [roomsL_len]; omega)]
    · rfl
/-- the rooms that are laid up to b, then nil -/
def laidL (g : Nat) (s : List UInt8) (b : Nat) : List Value := (List.range b).map (roomV g s 0) ++ List.replicate (256 - b) (.slice none 0 0)
theorem laidL_len (g : Nat) (s : List UInt8) {b : Nat} (h : b ≤ 256) : (laidL g s b).length = 256 := by simp [laidL]; omega
theorem laidL_all (g : Nat) (s : List UInt8) : laidL g s 256 = roomsL g s 0 := by simp [laidL, roomsL]
theorem laidL_step (g : Nat) (s : List UInt8) {b : Nat} (h : b < 256) : (laidL g s b).set b (roomV g s 0 b) = laidL g s (b + 1) := by
  have e : List.replicate (256 - b) (Value.slice none 0 0) = .slice none 0 0 :: List.replicate (256 - (b + 1)) (.slice none 0 0) := by
    rw [← List.replicate_succ]; congr 1; omega
  unfold laidL
  rw [e, List.set_append, if_neg (by simp), List.length_map, List.length_range, Nat.sub_self, List.range_succ, List.map_append, List.append_assoc]; rfl
end G294
