/- Joined texts: ErrLaw2, LocI, Two, TailHeld, VecPair, VecAdd, VecScale. -/
import Derived.Test.YtfglkgeeelapgaaGreatDoorBd08
import Derived.Test.YtfglkgeeelapgaaGreatDoorBd06
import Derived.Test.YtfglkgeeelapgaaGreatDoorBd05
import Derived.BigRegion
import Derived.Deep.RegionHeld3
import Derived.Test.YtfglkgeeelapgaaGreatDoorBd02
import Derived.OrdersHeld
import Derived.StillTail
import Derived.Deep.RegionHeld
import Derived.Test.YtfglkgeeelapgaaGreatDoorBd00
import Derived.Test.YtfglkgeeelapgaaGreatDoorBd01
set_option linter.unusedSimpArgs false
set_option linter.unusedVariables false
/- Chapter 8's mathematics: errors out of sums, the locator's length, what CorrectWord answers. -/
namespace G294
/-- where c does not vanish -/
def nzK (n : Nat) (c : Nat → UInt8) : List Nat := (List.range n).filter fun k => c k != 0
theorem nzK_mem {n : Nat} {c : Nat → UInt8} {k : Nat} : k ∈ nzK n c ↔ k < n ∧ c k ≠ 0 := by simp [nzK]
theorem nzK_len (n : Nat) (c : Nat → UInt8) : (nzK n c).length ≤ n := by
  have := List.length_filter_le (fun k => c k != 0) (List.range n)
  simpa [nzK] using this
theorem nzK_lt {n : Nat} {c : Nat → UInt8} : ∀ i j, i < j → j < (nzK n c).length → (nzK n c).getD i 0 < (nzK n c).getD j 0 := by
  intro i j hij hj
  have hs : (nzK n c).Pairwise (· < ·) := List.Pairwise.filter _ List.pairwise_lt_range
  have := List.pairwise_iff_getElem.1 hs i j (by omega) hj hij
  simpa [List.getD, show i < (nzK n c).length by omega, hj] using this
theorem nzK_at {n : Nat} {c : Nat → UInt8} {j : Nat} (hj : j < (nzK n c).length) : (nzK n c).getD j 0 < n ∧ c ((nzK n c).getD j 0) ≠ 0 := by
  have hm : (nzK n c).getD j 0 ∈ nzK n c := by
    rw [show (nzK n c).getD j 0 = (nzK n c)[j] by simp [List.getD, hj]]
    exact List.getElem_mem hj
  exact nzK_mem.1 hm
theorem nzK_short {n : Nat} {c : Nat → UInt8} {q : Nat} (hq : q < n) (h : c q = 0) : (nzK n c).length < n := by
  have h1 := len_parts (fun k => c k != 0) (List.range n)
  have h2 : q ∈ (List.range n).filter fun k => !(c k != 0) := by simp [hq, h]
  have h3 := List.length_pos_of_mem h2
  have e : nzK n c = (List.range n).filter fun k => c k != 0 := rfl
  rw [← e] at h1
  simp only [List.length_range] at h1
  omega
theorem sumL_idx {α : Type} (d : α) (l : List α) (f : α → UInt8) : sumL l f = sumK l.length fun k => f (l.getD k d) := by
  rw [← sumL_range, ← sumL_map (fun k => l.getD k d)]
  congr 1
  refine List.ext_getElem (by simp) fun j h1 h2 => ?_
  simp [List.getD, h1]
theorem sum_nz (n : Nat) (c : Nat → UInt8) (f : Nat → UInt8) : sumK n (fun k => gmul (c k) (f k)) = sumK (nzK n c).length fun j => gmul (c ((nzK n c).getD j 0)) (f ((nzK n c).getD j 0)) := by
  rw [← sumL_idx 0 (nzK n c) (fun k => gmul (c k) (f k)), nzK, sumL_filter, sumL_range]
  intro k _ hk
  have : c k = 0 := by simpa using hk
  rw [this, zero_gmul]
/-- errors, out of a sum over all places -/
theorem errs_of {s : List UInt8} {n : Nat} {c X : Nat → UInt8} (ha : apartX X n) (h0 : ∀ k, k < n → X k ≠ 0) (hs : ∀ i, i < s.length → s.getD i 0 = sumK n fun k => gmul (c k) (powB (X k) (i + 1))) :
    Errs s (nzK n c).length (fun j => c ((nzK n c).getD j 0)) (fun j => X ((nzK n c).getD j 0)) :=
  ⟨fun i j hij hj => apart_ne ha (nzK_at (by omega)).1 (nzK_at hj).1 (by have := nzK_lt i j hij hj; omega),
    fun k hk => h0 _ (nzK_at hk).1, fun k hk => (nzK_at hk).2, fun i hi => by rw [hs i hi, sum_nz n c (fun k => powB (X k) (i + 1))]⟩
/-- the greatest number of rows whose matrix is invertible -/
def locN (s : List UInt8) : Nat → Nat
  | 0 => 0
  | n + 1 => if (est (hanF s) (n + 1) (n + 1)).2 = n + 1 then n + 1 else locN s n
theorem locN_le (s : List UInt8) : ∀ n, locN s n ≤ n
  | 0 => Nat.le_refl _
  | n + 1 => by unfold locN; have := locN_le s n; split <;> omega
theorem locN_full (s : List UInt8) : ∀ n, 0 < locN s n → (est (hanF s) (locN s n) (locN s n)).2 = locN s n
  | 0, h => by simp [locN] at h
  | n + 1, h => by
    unfold locN at h ⊢
    split
    · rename_i e; exact e
    · rename_i e; rw [if_neg e] at h; exact locN_full s n h
theorem locN_errs {s : List UInt8} {v : Nat} {c X : Nat → UInt8} (h : Errs s v c X) : ∀ n, v ≤ n → 2 * n ≤ s.length → locN s n = v
  | 0, hv, _ => by simp [locN]; omega
  | n + 1, hv, hs => by
    unfold locN
    by_cases e : v = n + 1
    · subst e; rw [if_pos (han_full h hs)]
    · rw [if_neg (han_many h (by omega) hs), locN_errs h n (by omega) (by omega)]
def locSol (s : List UInt8) (n : Nat) : List UInt8 := mkRow n fun i => bst (hanF s) (fun i _ => s.getD (n + i) 0) n n i 0
def locL (s : List UInt8) : List UInt8 := 1 :: (locSol s (locN s (s.length / 2))).reverse
theorem locL_length (s : List UInt8) : (locL s).length = locN s (s.length / 2) + 1 := by simp [locL, locSol]
def locOk (s : List UInt8) : Bool := decide (s.length % 2 = 0 ∧ s.length ≤ 8)
def locR (s : List UInt8) : List UInt8 := if locOk s = true then locL s else []
theorem locR_len (s : List UInt8) : (locR s).length ≤ 5 := by
  unfold locR; split
  · rename_i h
    simp only [locOk, decide_eq_true_eq] at h
    have := locN_le s (s.length / 2)
    rw [locL_length]; omega
  · simp
/-- the positions at which the locator vanishes -/
def plcs (n : Nat) (l : List UInt8) : List Nat := (List.range n).filter fun i => hor (ginv (powB 3 i)) l == 0
theorem plcs_mem {n : Nat} {l : List UInt8} {i : Nat} : i ∈ plcs n l ↔ i < n ∧ hor (ginv (powB 3 i)) l = 0 := by simp [plcs]
theorem plcs_len (n : Nat) (l : List UInt8) : (plcs n l).length ≤ n := by
  have := List.length_filter_le (fun i => hor (ginv (powB 3 i)) l == 0) (List.range n)
  simpa [plcs] using this
theorem plcs_lt {n : Nat} {l : List UInt8} : ∀ i j, i < j → j < (plcs n l).length → (plcs n l).getD i 0 < (plcs n l).getD j 0 := by
  intro i j hij hj
  have hs : (plcs n l).Pairwise (· < ·) := List.Pairwise.filter _ List.pairwise_lt_range
  have := List.pairwise_iff_getElem.1 hs i j (by omega) hj hij
  simpa [List.getD, show i < (plcs n l).length by omega, hj] using this
theorem plcs_at {n : Nat} {l : List UInt8} {j : Nat} (hj : j < (plcs n l).length) : (plcs n l).getD j 0 < n := by
  have hm : (plcs n l).getD j 0 ∈ plcs n l := by
    rw [show (plcs n l).getD j 0 = (plcs n l)[j] by simp [List.getD, hj]]
    exact List.getElem_mem hj
  exact (plcs_mem.1 hm).1
def corX (P : List Nat) (k : Nat) : UInt8 := powB 3 (P.getD k 0)
def corE (s : List UInt8) (P : List Nat) (k : Nat) : UInt8 := bst (plcF (corX P)) (fun i _ => s.getD i 0) P.length P.length k 0
/-- the first k changes made -/
def putE (w : List UInt8) (P : List Nat) (E : Nat → UInt8) : Nat → List UInt8
  | 0 => w
  | k + 1 => (putE w P E k).set (P.getD k 0) ((putE w P E k).getD (P.getD k 0) 0 ^^^ E k)
@[simp] theorem putE_length (w : List UInt8) (P : List Nat) (E : Nat → UInt8) : ∀ k, (putE w P E k).length = w.length
  | 0 => rfl
  | k + 1 => by rw [putE, List.length_set, putE_length w P E k]
theorem getD_setB (l : List UInt8) (k i : Nat) (x : UInt8) (hk : k < l.length) : (l.set k x).getD i 0 = if i = k then x else l.getD i 0 := by
  simp only [List.getD, List.getElem?_set]
  split
  · rename_i h; subst h; simp [hk]
  · rename_i h; rw [if_neg (fun e => h e.symm)]
theorem putE_getD {w : List UInt8} {P : List Nat} {E : Nat → UInt8} (hP : ∀ i j, i < j → j < P.length → P.getD i 0 < P.getD j 0) (hb : ∀ j, j < P.length → P.getD j 0 < w.length) : ∀ k, k ≤ P.length →
    (∀ j, j < k → (putE w P E k).getD (P.getD j 0) 0 = w.getD (P.getD j 0) 0 ^^^ E j) ∧ (∀ p, (∀ j, j < k → P.getD j 0 ≠ p) → (putE w P E k).getD p 0 = w.getD p 0)
  | 0, _ => ⟨fun j h => by omega, fun p _ => rfl⟩
  | k + 1, hk => by
    obtain ⟨h1, h2⟩ := putE_getD hP hb (E := E) k (by omega)
    have hbk : P.getD k 0 < (putE w P E k).length := by rw [putE_length]; exact hb k (by omega)
    have hk0 : (putE w P E k).getD (P.getD k 0) 0 = w.getD (P.getD k 0) 0 := h2 _ fun j hj => by have := hP j k hj (by omega); omega
    constructor
    · intro j hj
      rw [putE, getD_setB _ _ _ _ hbk]
      by_cases e : j = k
      · subst e; rw [if_pos rfl, hk0]
      · have := hP j k (by omega) (by omega)
        rw [if_neg (by omega), h1 j (by omega)]
    · intro p hp
      rw [putE, getD_setB _ _ _ _ hbk, if_neg (fun e => hp k (by omega) e.symm), h2 p fun j hj => hp j (by omega)]
def corAt (w : List UInt8) (n : Nat) : Option (List UInt8 × Nat) :=
  if zeroL (synL w n) = true then some (w, 0)
  else
    if (plcs w.length (locL (synL w n))).length = 0 ∨ (plcs w.length (locL (synL w n))).length ≠ locN (synL w n) ((synL w n).length / 2) then none
    else if zeroL (synL (putE w (plcs w.length (locL (synL w n))) (corE (synL w n) (plcs w.length (locL (synL w n)))) (plcs w.length (locL (synL w n))).length) n) = true
      then some (putE w (plcs w.length (locL (synL w n))) (corE (synL w n) (plcs w.length (locL (synL w n)))) (plcs w.length (locL (synL w n))).length, (plcs w.length (locL (synL w n))).length)
      else none
def corO (w : List UInt8) (t : Int) : Option (List UInt8 × Nat) := if fitW w t = true then corAt w (2 * t.toNat) else none
def corR (w : List UInt8) (t : Int) : List UInt8 := ((corO w t).map (·.1)).getD []
def corN (w : List UInt8) (t : Int) : Int := (((corO w t).map (·.2)).getD 0 : Nat)
def corOk (w : List UInt8) (t : Int) : Bool := (corO w t).isSome
theorem zeroL_iff (l : List UInt8) : zeroL l = true ↔ ∀ i, i < l.length → l.getD i 0 = 0 := by simp only [zeroL, decide_eq_true_eq]
@[simp] theorem synL_length (w : List UInt8) (n : Nat) : (synL w n).length = n := by simp [synL]
theorem synL_getD (w : List UInt8) (n i : Nat) (h : i < n) : (synL w n).getD i 0 = hor (powB 3 (i + 1)) w := by rw [synL, mkRow_getD _ _ _ h]
theorem corX_apart {P : List Nat} {n : Nat} (hP : ∀ i j, i < j → j < P.length → P.getD i 0 < P.getD j 0) (hb : ∀ j, j < P.length → P.getD j 0 < n) (hn : n ≤ 24) : apartX (corX P) P.length :=
  fun i j hij hj e => by
    have h1 := hP i j hij hj
    have := pow3_inj (by have := hb i (by omega); omega) (by have := hb j hj; omega) e
    omega
theorem corX_ne (P : List Nat) (k : Nat) : corX P k ≠ 0 := pow3_ne _
theorem hor_syn (w : List UInt8) (i : Nat) : hor (powB 3 (i + 1)) w = sumK w.length fun p => gmul (w.getD p 0) (powB (powB 3 p) (i + 1)) := by
  rw [hor_sum]
  exact sumK_congr fun p _ => by rw [powB_swap]
theorem sumK_dif {n : Nat} {f g h : Nat → UInt8} (e : ∀ p, p < n → f p = g p ^^^ h p) : sumK n f = sumK n g ^^^ sumK n h := by
  rw [← sumK_xor]; exact sumK_congr e
/-- a sum over a part of the places -/
theorem sum_part {n : Nat} {P : List Nat} {E : Nat → UInt8} (f : Nat → UInt8) (hP : ∀ i j, i < j → j < P.length → P.getD i 0 < P.getD j 0) (hb : ∀ j, j < P.length → P.getD j 0 < n) (d : Nat → UInt8)
    (h1 : ∀ j, j < P.length → d (P.getD j 0) = E j) (h2 : ∀ p, (∀ j, j < P.length → P.getD j 0 ≠ p) → d p = 0) : sumK n (fun p => gmul (d p) (f p)) = sumK P.length fun j => gmul (E j) (f (P.getD j 0)) := by
  have hs : P.Pairwise (· < ·) := List.pairwise_iff_getElem.2 fun i j hi hj hij => by
    have := hP i j hij hj
    simpa [List.getD, hi, hj] using this
  have hf : (List.range n).filter (fun p => decide (p ∈ P)) = P := by
    have hp : ((List.range n).filter fun p => decide (p ∈ P)).Pairwise (· < ·) := List.Pairwise.filter _ List.pairwise_lt_range
    have hmem : ∀ x, x ∈ (List.range n).filter (fun p => decide (p ∈ P)) ↔ x ∈ P := fun x => by
      simp only [List.mem_filter, List.mem_range, decide_eq_true_eq]
      constructor
      · exact fun h => h.2
      · intro h
        obtain ⟨j, hj, rfl⟩ := List.getElem_of_mem h
        have := hb j hj
        exact ⟨by simpa [List.getD, hj] using this, h⟩
    refine List.Perm.eq_of_pairwise (le := (· < ·)) (fun a b _ _ h1 h2 => by omega) hp hs ?_
    exact (List.perm_ext_iff_of_nodup (hp.imp fun h => Nat.ne_of_lt h) (hs.imp fun h => Nat.ne_of_lt h)).2 hmem
  rw [← sumL_range, ← sumL_filter (fun p => decide (p ∈ P)) (List.range n) (fun p => gmul (d p) (f p)) (fun p _ hp => by
    rw [h2 p (fun j hj e => by
      have : p ∈ P := e ▸ (by rw [show P.getD j 0 = P[j] by simp [List.getD, hj]]; exact List.getElem_mem hj)
      simp [this] at hp), zero_gmul]), hf, sumL_idx 0]
  exact sumK_congr fun j hj => by rw [h1 j hj]
/-- the syndromes behind the changes -/
theorem syn_put {w : List UInt8} {P : List Nat} {E : Nat → UInt8} (hP : ∀ i j, i < j → j < P.length → P.getD i 0 < P.getD j 0) (hb : ∀ j, j < P.length → P.getD j 0 < w.length) (i : Nat) :
    hor (powB 3 (i + 1)) (putE w P E P.length) = hor (powB 3 (i + 1)) w ^^^ sumK P.length fun k => gmul (E k) (powB (corX P k) (i + 1)) := by
  obtain ⟨h1, h2⟩ := putE_getD hP hb (E := E) P.length (Nat.le_refl _)
  rw [hor_syn, hor_syn, putE_length]
  have hc : (sumK P.length fun k => gmul (E k) (powB (corX P k) (i + 1))) = sumK P.length fun j => gmul (E j) (powB (powB 3 (P.getD j 0)) (i + 1)) := rfl
  rw [hc, ← sum_part (n := w.length) (E := E) (fun p => powB (powB 3 p) (i + 1)) hP hb (fun p => (putE w P E P.length).getD p 0 ^^^ w.getD p 0) (fun j hj => by
    simp only [h1 j hj]; rw [UInt8.xor_comm (w.getD _ 0), UInt8.xor_assoc, UInt8.xor_self, UInt8.xor_zero]) (fun p hp => by simp only [h2 p hp, UInt8.xor_self])]
  refine sumK_dif fun p _ => ?_
  rw [← xor_gmul, UInt8.xor_comm (w.getD p 0), UInt8.xor_assoc, UInt8.xor_self, UInt8.xor_zero]
/-- where the last test passes no change is 0 -/
theorem no_zero {w : List UInt8} {n : Nat} (hw : w.length ≤ 24) (hn : n % 2 = 0) (hl : (plcs w.length (locL (synL w n))).length = locN (synL w n) ((synL w n).length / 2)) (hp : (plcs w.length (locL (synL w n))).length ≠ 0)
    {E : Nat → UInt8} (hz : zeroL (synL (putE w (plcs w.length (locL (synL w n))) E (plcs w.length (locL (synL w n))).length) n) = true) : ∀ k, k < (plcs w.length (locL (synL w n))).length → E k ≠ 0 := by
  intro q hq hE
  generalize hPP : plcs w.length (locL (synL w n)) = P at *
  have hP : ∀ i j, i < j → j < P.length → P.getD i 0 < P.getD j 0 := by rw [← hPP]; exact plcs_lt
  have hb : ∀ j, j < P.length → P.getD j 0 < w.length := by rw [← hPP]; exact fun j hj => plcs_at hj
  rw [zeroL_iff] at hz
  have hs : ∀ i, i < (synL w n).length → (synL w n).getD i 0 = sumK P.length fun k => gmul (E k) (powB (corX P k) (i + 1)) := fun i hi => by
    have hi' : i < n := by simpa using hi
    have := hz i (by simpa using hi')
    rw [synL_getD _ _ _ hi', syn_put hP hb] at this
    rw [synL_getD _ _ _ hi']
    exact x_eq this
  have he := errs_of (corX_apart hP hb hw) (fun k _ => corX_ne P k) hs
  have hlt := nzK_short hq hE
  have hN := locN_le (synL w n) ((synL w n).length / 2)
  have hf := locN_full (synL w n) ((synL w n).length / 2) (by omega)
  rw [← hl] at hf
  exact han_many he hlt (by rw [hl]; omega) hf
end G294

/- Chapter 8: the matrix of syndromes, slices.Reverse of bytes, the locator: the program's. -/
namespace G294
open Go Go.RowKit
/-- f, its first i and last i elements turned -/
def revF (n : Nat) (f : Nat → UInt8) (i p : Nat) : UInt8 := if p < i ∨ n ≤ p + i then f (n - 1 - p) else f p
theorem revF_zero (n : Nat) (f : Nat → UInt8) : mkRow n (revF n f 0) = mkRow n f := mkRow_congr fun p hp => by
  unfold revF; rw [if_neg (by omega)]
theorem revF_at {n : Nat} {f : Nat → UInt8} {i j : Nat} (h : i + j + 1 = n) (hij : i < j) : revF n f i i = f i ∧ revF n f i j = f j := by
  unfold revF; rw [if_neg (by omega), if_neg (by omega)]; exact ⟨rfl, rfl⟩
theorem revF_step {n : Nat} {f : Nat → UInt8} {i j : Nat} (h : i + j + 1 = n) (hij : i < j) : ((mkRow n (revF n f i)).set i (f j)).set j (f i) = mkRow n (revF n f (i + 1)) := by
  rw [mkRow_set, mkRow_set]
  refine mkRow_congr fun p hp => ?_
  unfold revF
  by_cases h1 : p = j
  · subst h1; rw [if_pos rfl, if_pos (by omega)]; congr 1; omega
  · rw [if_neg h1]
    by_cases h2 : p = i
    · subst h2; rw [if_pos rfl, if_pos (by omega)]; congr 1; omega
    · rw [if_neg h2]
      by_cases h3 : p < i ∨ n ≤ p + i
      · rw [if_pos h3, if_pos (by omega)]
      · rw [if_neg h3, if_neg (by omega)]
theorem revF_end {n : Nat} {f : Nat → UInt8} {i j : Nat} (h : i + j + 1 = n ∨ n = 0) (hij : j ≤ i) : mkRow n (revF n f i) = (mkRow n f).reverse := by
  refine ext_getD (by simp) fun p hp => ?_
  simp only [mkRow_length] at hp
  rw [mkRow_getD _ _ _ hp]
  have hr : (mkRow n f).reverse.getD p 0 = f (n - 1 - p) := by
    have hp' : p < (mkRow n f).length := by simpa using hp
    rw [List.getD_eq_getElem?_getD, List.getElem?_reverse hp', ← List.getD_eq_getElem?_getD, mkRow_length, mkRow_getD _ _ _ (by omega)]
  rw [hr]
  unfold revF
  split
  · rfl
  · congr 1; omega
theorem locN_yes {s : List UInt8} {n : Nat} (h : solB (hanF s) (n + 1) = true) : locN s (n + 1) = n + 1 := by
  unfold locN; rw [if_pos (by simpa [solB] using h)]
theorem locN_no {s : List UInt8} {n : Nat} (h : solB (hanF s) (n + 1) = false) : locN s (n + 1) = locN s n := by
  rw [locN, if_neg (by simpa [solB] using h)]
theorem locSol_eq {s : List UInt8} {n : Nat} (h : 2 * n ≤ s.length) : slvL (hanF s) n ((s.drop n).take n) = locSol s n := by
  unfold slvL locSol
  refine mkRow_congr fun i hi => ?_
  rw [bst_lin _ _ _ _ _ _ hi, bst_lin _ _ _ _ _ _ hi]
  refine sumK_congr fun k hk => ?_
  congr 1
  show ((s.drop n).take n).getD k 0 = s.getD (n + k) 0
  simp [List.getD, List.getElem?_take, hk]
theorem sub_row {w : World} {A : Option Addr} {c : Nat} {s : List UInt8} (h : Seen w (.slice A s.length c) (bys s)) {a m : Nat} (hm : 0 < m) (ha : a + m ≤ s.length) : ∃ b off, A = some ⟨b, off, none⟩ ∧ Seen w (.slice (some ⟨b, off + a, none⟩) m (c - a)) (bys ((s.drop a).take m)) := by
  obtain ⟨A', c', e, hlc, hcm, hx⟩ := h
  rw [bys_length] at e hlc hx
  simp only [Value.slice.injEq, true_and] at e
  obtain ⟨rfl, rfl⟩ := e
  obtain ⟨b, off, rfl, hb, hc⟩ := hx (by omega)
  have hl : ((s.drop a).take m).length = m := by rw [List.length_take, List.length_drop]; omega
  refine ⟨b, off, rfl, ⟨_, c - a, by rw [bys_length, hl], by rw [bys_length, hl]; omega, by omega, fun _ => ⟨b, off + a, rfl, hb, fun i u hu => ?_⟩⟩⟩
  have hi : i < ((s.drop a).take m).length := by have := (List.getElem?_eq_some_iff.1 hu).1; simpa using this
  rw [bys_get _ i hi] at hu
  rw [← hu, Nat.add_assoc, hc (a + i) _ (bys_get s (a + i) (by omega))]
  simp [List.getElem_take, List.getElem_drop]
end G294
namespace Go.Proofs.YtfglkgeeelapgaaGreatDoor
open Go.RowKit G294

theorem sliceLHb (b off len cap l h : Nat) (hlh : l ≤ h) (hc : h ≤ cap) (hlt : l < cap) (W : World) : (Instr.slice 22 (.slice (some ⟨b, off, none⟩) len cap) (some (.int .i64 (l : Int))) (some (.int .i64 (h : Int))) none).run Tryz.prog W = .ok (.slice (some ⟨b, off + l, none⟩) (h - l) (cap - l)) W := by
  have hel : (sizeOf (Tryz.prog.elem 22)).run Tryz.prog W = .ok 1 W := by kernel_rfl
  rw [run_slice_lh W 22 _ len cap (by kernel_rfl) .i64 .i64 l h (by omega) (by omega) (by omega), hel]
  simp [Result.andThen, sliced, Addr.add, show ¬ cap = l by omega]

theorem sliceLH (b off len cap l h : Nat) (hlh : l ≤ h) (hc : h ≤ cap) (hlt : l < cap) (W : World) : (Instr.sliceAt 22 (.slice (some ⟨b, off, none⟩) len cap) (some (.int .i64 (l : Int))) (some (.int .i64 (h : Int))) none).run Tryz.prog W = .ok (.slice (some ⟨b, off + l, none⟩) (h - l) (cap - l)) W := by
  rw [run_sliceAt_slice W 22 _ _ _ _ (by kernel_rfl)]
  exact sliceLHb b off len cap l h hlh hc hlt W

set_option maxRecDepth 100000 in
set_option maxHeartbeats 1000000 in
theorem hankelAt (n Bv : Nat) (s : List UInt8) (v : Value) (w : World) (hBv : Bv < w.heap.size) (hn : n ≤ 100) (hbl : 2 * n ≤ s.length) (hv : w.cell? ⟨Bv, 0, none⟩ = some v) (hs : Seen w v (bys s)) :
    GivesAt Tryz.prog 92 #[.pointer (some ⟨Bv, 0, none⟩)] n n (hanF s) w := by
  intro W i j hb hi hj
  have hv' := (hb.cell (p := ⟨Bv, 0, none⟩) hBv).trans hv
  obtain ⟨bb, off, c, rfl, hbb, hlm, hcell⟩ := seen_cellsB hs (by omega)
  obtain ⟨k, hk⟩ : ∃ k, k = i + j := ⟨_, rfl⟩
  have hib : k < s.length := by omega
  have hci := hcell W hb k _ (bys_get s k hib)
  rw [Addr.add_lit, show s[k] = s.getD k 0 by simp [List.getD, hib]] at hci
  have HF : Hid (hanF s i j = s.getD k 0) := by show s.getD (i + j) 0 = _; rw [hk]
  have hwk : IntKind.i64.wrap ((i : Int) + (j : Int)) = (k : Int) := by rw [IntWalk.i64_in _ (by omega)]; omega
  have hi' : (k : Int) < (s.length : Int) := by omega
  generalize s.getD k 0 = x at *
  generalize s.length = q at *
  clear hcell hs hv hk
  go_enter Tryz.func92, Tryz.ntmps92
  go_wp2_with fail
  go_ret
  exact ⟨by rw [HF.out]; rfl, 0, rfl⟩

set_option maxRecDepth 100000 in
set_option maxHeartbeats 1000000 in
theorem syndromeMatrix_own (n : Nat) (s : List UInt8) (v : Value) (w : World) (hs : Seen w v (bys s)) (hn : n ≤ 100) (hbl : 2 * n ≤ s.length) :
    Calls Tryz.prog 59 #[v, .int .i64 (n : Int)] w (RetMat 5 22 w (mkM n n (hanF s))) := by
  obtain ⟨qa, qb⟩ := boxes2c (w := w) (v := v) (v' := .slice none 0 0) (T := 22) (T' := 70)
  have kB : TurnIn 0 0 w ((w.alloc (.cells #[v] 22)).alloc (.cells #[.slice none 0 0] 70)) := turn_trans (turn_alloc _ _) (turn_alloc _ _) (by omega)
  have zB : ((w.alloc (.cells #[v] 22)).alloc (.cells #[.slice none 0 0] 70)).heap.size = w.heap.size + 2 := by simp
  have qf : ((w.alloc (.cells #[v] 22)).alloc (.cells #[.slice none 0 0] 70)).frozen? ⟨w.heap.size + 1, 0, none⟩ = false := by simp
  have HG := Lib.hid (hankelAt n w.heap.size s v _ (by rw [zB]; omega) hn hbl qa (hs.touch kB))
  have eg := enters_of Tryz.func92 (by kernel_rfl) rfl
  obtain ⟨A, c, rfl⟩ := hs.len
  have KB := Lib.hid kB
  clear hs kB
  generalize (bys s).length = q at *
  go_enter Tryz.func59, Tryz.ntmps59
  go_wp2_with fail
  generalize hw2 : ((w.alloc (.cells #[.slice A q c] 22)).alloc (.cells #[.slice none 0 0] 70)) = w2 at *
  clear hw2
  refine (newGridB n n _ _ _ w2 eg HG.out (by omega) (by omega)).mono ?_
  rintro e w3 ⟨v3, vs3, rfl, o3, k3⟩
  have qb3 := cell_turn k3 qb (by omega)
  have qf3 := frozen_turn k3 qf (by omega)
  obtain ⟨A', n', c', rfl⟩ := o3.isSlice
  have HF := Lib.hid (ret_store KB.out.to_below o3 k3 (w.heap.size + 1) 0 (by omega) (by omega) (.slice A' n' c'))
  clear o3 k3
  go_wp2_with fail
  refine bodyPost_ret (v := .agg #[.slice A' n' c']) (by simp [results, Tryz.results59, go_sem, qb3]) rfl ?_
  exact ⟨_, vs3, rfl, HF.out.1, HF.out.2⟩

set_option maxRecDepth 100000 in
set_option maxHeartbeats 4000000 in
theorem reverse_own (n g cp lo hi : Nat) (f : Nat → UInt8) (w : World) (ho : OwnBytes 5 w lo hi (.slice (some ⟨g, 0, none⟩) n cp) (mkRow n f)) (hn : n ≤ 1000) :
    Calls Tryz.prog 60 #[.slice (some ⟨g, 0, none⟩) n cp] w fun e w' => e = .returned (.tuple #[]) ∧ OwnBytes 5 w' lo hi (.slice (some ⟨g, 0, none⟩) n cp) (mkRow n f).reverse ∧ TurnIn lo hi w w' := by
  have ho1 := ho.1
  rw [mkRow_length, ← revF_zero] at ho1
  have hgh : g < hi := ho.2.2 g rfl
  have hgl : lo ≤ g := (ho.1.lt g rfl).1
  have hhz := ho.2.1
  have hcp : n ≤ cp ∧ cp ≤ maxLen := by
    rcases ho1.2 with ⟨hh, _⟩ | ⟨g', cap, cur, e, hbg, hg, hnc, hcm, hcs, ht⟩
    · simp at hh
    · simp only [Value.slice.injEq] at e
      exact ⟨by omega, by omega⟩
  obtain ⟨hcp1, hcp2⟩ := hcp
  unfold maxLen at hcp2
  have HML : Hid (∀ (F : Nat → UInt8), n = (mkRow n F).length) := fun F => by simp
  have HMG : Hid (∀ (F : Nat → UInt8) k, k < n → (mkRow n F).getD k 0 = F k) := fun F k hk => mkRow_getD n F k hk
  clear ho
  have hwn : IntKind.i64.wrap ((n : Int) - 1) = (n : Int) - 1 := by rw [IntWalk.i64_in _ (by omega)]
  go_enter Tryz.func60, Tryz.ntmps60
  go_wp2_with fail
  go_loopw [2, 3] (fun i j wr => ∃ (k : Nat) (q : Int), q + k + 1 = n ∧ (k : Int) ≤ q + 1 ∧ i = .int .i64 k ∧ j = .int .i64 q ∧ wr.ownsRow lo 5 1 (.slice (some ⟨g, 0, none⟩) n cp) n (bys (mkRow n (revF n f k))) ∧ TurnIn lo hi w wr)
    (fun i _ _ => n - (intOf i).toNat)
  case atStart => exact ⟨0, (n : Int) - 1, by omega, by omega, rfl, by first | rfl | rw [hwn], ho1, ⟨rfl, rfl, rfl, Nat.le_refl _, fun _ _ _ => rfl⟩⟩
  case round =>
    obtain ⟨k, q, hq, hk, rfl, rfl, ho, kr⟩ := hrel
    clear ho1
    by_cases hlt : (k : Int) < q
    · obtain ⟨j, rfl⟩ : ∃ j : Nat, q = (j : Int) := ⟨q.toNat, by omega⟩
      have hkj : k < j := by omega
      have hsum : k + j + 1 = n := by omega
      have hc1 := own_cell8 ho (HML.out _) (k := k) (by omega)
      have hc2 := own_cell8 ho (HML.out _) (k := j) (by omega)
      rw [HMG.out _ k (by omega), (revF_at hsum hkj).1] at hc1
      rw [HMG.out _ j (by omega), (revF_at hsum hkj).2] at hc2
      have hf1 := ho.frozenAt k
      have hf2 := ho.frozenAt j
      have s1 := own_set8 (own_set8 ho k (f j)) j (f k)
      rw [revF_step hsum hkj] at s1
      have HS1 := Lib.hid s1
      have hki : (k : Int) < (n : Int) := by omega
      have hji : (j : Int) < (n : Int) := by omega
      have hne1 : k ≠ j := by omega
      have hne2 : j ≠ k := by omega
      generalize f k = x at *
      generalize f j = y at *
      clear s1 ho
      go_wp2_with fail
      go_region
      have kr2 := turn_drewA (turn_trans (turn_trans kr (turn_setCell wr g k (.int .u8 (y.toNat : Int))) (by omega)) (turn_setCell _ g j (.int .u8 (x.toNat : Int))) (by omega))
      have hj1 : IntKind.i64.wrap ((j : Int) - 1) = (j : Int) - 1 := by rw [IntWalk.i64_in _ (by omega)]
      go_wp2_with fail
      go_roundw
      case rel => exact ⟨k + 1, (j : Int) - 1, by omega, by omega, by go_num, by first | rfl | rw [hj1] | go_num, HS1.out.drew, kr2⟩
      case measure => simp [intOf]; omega
    · have hnl : ¬ (k : Int) < q := hlt
      have HRV : Hid (mkRow n (revF n f k) = (mkRow n f).reverse) := by
        show _ = _
        by_cases h0 : n = 0
        · subst h0; simp [mkRow]
        · exact revF_end (i := k) (j := q.toNat) (by omega) (by omega)
      rw [HRV.out] at ho
      have HO := Lib.hid ho
      have HL : Hid ((mkRow n f).reverse.length = n) := by show _ = _; simp
      clear ho
      go_wp2_with fail
      go_end0
      refine ⟨rfl, ⟨?_, by have := kr.size; omega, fun g' e => by simp only [Value.ownBlock, Option.some.injEq] at e; omega⟩, kr⟩
      rw [HL.out]; exact HO.out

set_option maxRecDepth 100000 in
set_option maxHeartbeats 1000000 in
theorem locatorOf_own (v : Value) (s : List UInt8) (w : World) (hs : Seen w v (bys s)) (htab : Tab w) (h0 : 3 < w.heap.size) :
    Calls Tryz.prog 21 #[v] w (RetBytesOk 5 w (locR s) (locOk s)) := by
  have HS := Lib.hid hs
  have HT : Hid (∀ W, TurnIn 0 0 w W → Tab W ∧ 3 < W.heap.size) := fun W h => ⟨htab.below h.to_below h0, by have := h.size; omega⟩
  obtain ⟨A, c, rfl, hlc, hcm, _⟩ := hs
  rw [bys_length] at hlc HS
  simp only [bys_length]
  unfold maxLen at hcm
  clear htab
  have HSUB : Hid (∀ W, SeenM W (.slice A s.length c) [] → True) := fun _ _ => trivial
  have HNO : Hid (locOk s = false → locR s = []) := fun h => if_neg (by rw [h]; simp)
  have HYES : Hid (locOk s = true → locR s = locL s) := fun h => if_pos h
  have HLL : Hid (∀ n, locN s (s.length / 2) = n → locL s = 1 :: (locSol s n).reverse) := fun n h => by unfold locL; rw [h]
  have HOK : Hid (locOk s = decide (s.length % 2 = 0 ∧ s.length ≤ 8)) := rfl
  have HSR : Hid (∀ n W, 0 < n → 2 * n ≤ s.length → TurnIn 0 0 w W → ∃ b off, A = some ⟨b, off, none⟩ ∧ Seen W (.slice (some ⟨b, off + n, none⟩) n (c - n)) (bys ((s.drop n).take n))) := fun n W h1 h2 h3 => sub_row (HS.out.touch h3) h1 (by omega)
  have HSL : Hid (∀ n, 2 * n ≤ s.length → slvL (hanF s) n ((s.drop n).take n) = locSol s n ∧ ((s.drop n).take n).length = n) := fun n h => ⟨locSol_eq h, by rw [List.length_take, List.length_drop]; omega⟩
  have HSM : Hid (∀ n W, 2 * n ≤ s.length → n ≤ 100 → TurnIn 0 0 w W → Calls Tryz.prog 59 #[.slice A s.length c, .int .i64 (n : Int)] W (RetMat 5 22 W (mkM n n (hanF s)))) := fun n W h1 h2 h3 => syndromeMatrix_own n s _ W (HS.out.touch h3) h2 h1
  have HCC : Hid (Calls Tryz.prog 31 #[.int .i64 4] w fun e w' => e = .returned (.int .i64 8) ∧ w = w') := checkCount_any 4 w (by omega)
  generalize hqq : s.length = q at *
  have HQ := Lib.hid hqq
  clear hqq HSUB
  by_cases hodd : q % 2 = 0
  · have hr0 : (((q : Int) % 2) != 0) = false := by rw [show (q : Int) % 2 = 0 by omega]; rfl
    have hr2 : ((q : Int).tmod 2 != 0) = false := by rw [Int.tmod_eq_emod_of_nonneg (by omega)]; exact hr0
    by_cases h8 : q ≤ 8
    · have HO : Hid (locOk s = true) := by show _ = _; rw [HOK.out]; simp [hodd, h8]
      have h8i : ¬ (8 : Int) < (q : Int) := by omega
      obtain ⟨h, hh⟩ : ∃ h, h = q / 2 := ⟨_, rfl⟩
      have h2q : 2 * h = q := by omega
      have hquo : (q : Int) / 2 = (h : Int) := by omega
      have hquo2 : (q : Int).tdiv 2 = (h : Int) := by rw [Int.tdiv_eq_ediv_of_nonneg (by omega)]; exact hquo
      rw [← hh] at HLL
      clear hh hodd
      go_enter Tryz.func21, Tryz.ntmps21
      go_wp2_with fail
      refine HCC.out.mono ?_
      rintro e w' ⟨rfl, rfl⟩
      go_wp2_with fail
      go_loopw [4] (fun i wr => ∃ n : Nat, n ≤ h ∧ i = .int .i64 n ∧ Hid (locN s h = locN s n) ∧ TurnIn 0 0 w wr) (fun i _ => (intOf i).toNat)
      case atStart => exact ⟨h, Nat.le_refl _, rfl, rfl, TurnIn.refl _⟩
      case round =>
        obtain ⟨n, hn, rfl, HL, kr⟩ := hrel
        by_cases hlt : 0 < n
        · obtain ⟨b, off, rfl, hsr⟩ := HSR.out n wr hlt (by omega) kr
          obtain ⟨z, hz⟩ : ∃ z, z = 2 * n := ⟨_, rfl⟩
          have hmul : 2 * (n : Int) = (z : Int) := by omega
          have hzn : n ≤ z := by omega
          have hzq : z ≤ q := by omega
          have hzc : z ≤ c := by omega
          have HSZ : Hid (Seen wr (.slice (some ⟨b, off + n, none⟩) (z - n) (c - n)) (bys ((s.drop n).take n))) := by
            show Seen _ _ _
            rw [show z - n = n by omega]; exact hsr
          have HTW := HT.out
          have HE := Lib.hid (HSL.out n (by omega))
          have HSN : Hid (solB (hanF s) n = true → locL s = 1 :: (locSol s n).reverse) := fun hb => by
            obtain ⟨m, rfl⟩ : ∃ m, n = m + 1 := ⟨n - 1, by omega⟩
            exact HLL.out _ (by rw [HL.out, locN_yes hb])
          have HSX : Hid (solB (hanF s) n = false → locN s h = locN s (n - 1)) := fun hb => by
            obtain ⟨m, rfl⟩ : ∃ m, n = m + 1 := ⟨n - 1, by omega⟩
            rw [HL.out, locN_no hb]; rfl
          have HM := Lib.hid (HSM.out n wr.drew (by omega) (by omega) (turn_drewA kr))
          have KR := Lib.hid (turn_drewA kr)
          have hn16 : n ≤ 16 := by omega
          have hwz : IntKind.i64.wrap (z : Int) = (z : Int) := IntWalk.i64_in _ (by omega)
          have hwm : IntKind.i64.wrap (2 * (n : Int)) = (z : Int) := by rw [IntWalk.i64_in _ (by omega)]; exact hmul
          have hsl1 := sliceLH b off q c n z hzn hzc (by omega)
          have hsl2 := sliceLHb b off q c n z hzn hzc (by omega)
          clear hz hsr HTW HSR HSL HSM HLL
          go_wp2_with fail
          go_region_held3 (fun _ => True)
            (exact trivial)
            (first
              | (go_at_call 59; refine HM.out.mono ?_; rintro e w1 ⟨v1, vs1, rfl, o1, k1⟩; have kk1 := turn_trans KR.out k1 (by omega))
              | (go_at_call 58; refine (solveF_own n (hanF s) _ _ ((s.drop n).take n) w1 o1.seen ((show Seen wr.drew _ _ from HSZ.out).touch k1) hlt hn16 HE.out.2 (HT.out w1 kk1).1 (HT.out w1 kk1).2).mono ?_; rintro e w2 ⟨v2, rfl, o2, k2⟩; have kk2 := turn_trans kk1 k2 (by omega)))
          have z1 := kr.size
          have z1' := k1.size
          have z1d : wr.heap.size ≤ w1.heap.size := z1'
          have z2 := k2.size
          have kk := Lib.hid kk2
          clear o1 k1 k2 kk1 kk2 z1' hsl1 hsl2
          by_cases hsol : solB (hanF s) n = true
          · have HFL := Lib.hid (HSN.out hsol)
            have e2 : slvF' (hanF s) n ((s.drop n).take n) = locSol s n := by unfold slvF'; rw [if_pos hsol]; exact HE.out.1
            rw [e2] at o2
            rw [hsol]
            have HLS : Hid ((locSol s n).length = n) := by show _ = _; simp [locSol]
            obtain ⟨g, cg, rfl, hg1, hg2, hg3, hg4⟩ := o2.slice (by rw [HLS.out]; omega)
            rw [HLS.out] at hg3 o2 ⊢
            unfold maxLen at hg4
            have HRV := Lib.hid (reverse_own n g cg w1.heap.size w2.heap.size (fun i => bst (hanF s) (fun i _ => s.getD (n + i) 0) n n i 0) w2 o2 (by omega))
            clear o2 e2 hsol HSN HSX HM
            go_wp2_with fail
            refine HRV.out.mono ?_
            rintro e w3 ⟨rfl, o3, k3⟩
            have kk3 : TurnIn 0 0 w w3 := turn_trans kk.out k3 (by omega)
            have z3 := k3.size
            have o3' : OwnBytes 5 w3 w1.heap.size w2.heap.size (.slice (some ⟨g, 0, none⟩) n cg) (locSol s n).reverse := o3
            have hob : OwnBytes 5 (w3.alloc (.cells #[.int .u8 1] 5)) w3.heap.size (w3.heap.size + 1) (.slice (some ⟨w3.heap.size, 0, none⟩) 1 1) [1] := own_built w3 5 [1] (by simp)
            have ka := turn_alloc w3 (.cells #[.int .u8 1] 5)
            have za := World.size_alloc w3 (.cells #[.int .u8 1] 5)
            have o4 := o3'.keep ka (by omega)
            have kb := turn_alloc (w3.alloc (.cells #[.int .u8 1] 5)) (.cells #[.slice (some ⟨w3.heap.size, 0, none⟩) 1 1, .slice (some ⟨g, 0, none⟩) n cg] 22)
            have zb := World.size_alloc (w3.alloc (.cells #[.int .u8 1] 5)) (.cells #[.slice (some ⟨w3.heap.size, 0, none⟩) 1 1, .slice (some ⟨g, 0, none⟩) n cg] 22)
            rw [za] at zb
            have HCO := Lib.hid (concatB_own (.slice (some ⟨w3.heap.size, 0, none⟩) 1 1) (.slice (some ⟨g, 0, none⟩) n cg) [1] (locSol s n).reverse (w3.heap.size + 1) ((w3.alloc (.cells #[.int .u8 1] 5)).alloc (.cells #[.slice (some ⟨w3.heap.size, 0, none⟩) 1 1, .slice (some ⟨g, 0, none⟩) n cg] 22)) (by rw [zb]; omega) (by rw [← za]; simp) (by rw [← za]; simp) (hob.seen.touch kb) (by have := o4.seen.touch kb; exact this) (by simp) (by simp) (by rw [List.length_reverse, HLS.out]; omega) (by rw [List.length_reverse, HLS.out]; omega))
            have KK5 := Lib.hid (turn_trans (turn_trans kk3 ka (by omega)) kb (by omega))
            have ZB : Hid (w.heap.size ≤ ((w3.alloc (.cells #[.int .u8 1] 5)).alloc (.cells #[.slice (some ⟨w3.heap.size, 0, none⟩) 1 1, .slice (some ⟨g, 0, none⟩) n cg] 22)).heap.size) := by show _ ≤ _; rw [zb]; omega
            clear o3 o3' hob o4 kb zb ka za k3
            go_wp2_with fail
            refine HCO.out.mono ?_
            rintro e w6 ⟨v6, rfl, o6, k6⟩
            go_wp2_with fail
            go_ret2
            refine ⟨_, by rw [HO.out]; rfl, ?_, turn_trans KK5.out k6 (by omega)⟩
            rw [HYES.out HO.out, HFL.out]
            exact o6.wider ZB.out (Nat.le_refl _) (Nat.le_refl _)
          · have hsol' : solB (hanF s) n = false := by simpa using hsol
            have HXX : Hid (locN s h = locN s (n - 1)) := HSX.out hsol'
            rw [hsol']
            clear o2 hsol hsol' HSN HSX HM
            obtain ⟨m, hm⟩ : ∃ m, m = n - 1 := ⟨_, rfl⟩
            rw [← hm] at HXX
            have hwm1 : IntKind.i64.wrap ((n : Int) - 1) = (m : Int) := by rw [IntWalk.i64_in _ (by omega)]; omega
            have hmn : m < n := by omega
            clear hm
            go_wp2_with fail
            go_roundw
            case rel => exact ⟨m, by omega, by go_num, HXX, kk.out⟩
            case measure => simp [intOf]; omega
        · obtain rfl : n = 0 := by omega
          have HF : Hid (locL s = [1]) := by show _ = _; rw [HLL.out 0 HL.out]; rfl
          have hob := own_built wr 5 [1] (by simp)
          have HOB : Hid (OwnBytes 5 (wr.alloc (.cells #[.int .u8 1] 5)) wr.heap.size (wr.heap.size + 1) (.slice (some ⟨wr.heap.size, 0, none⟩) 1 1) [1]) := hob
          have kz := kr.size
          clear hob
          go_wp2_with fail
          go_ret2
          refine ⟨_, by rw [HO.out]; rfl, ?_, turn_trans kr (turn_alloc _ _) (by omega)⟩
          rw [HYES.out HO.out, HF.out]
          exact HOB.out.wider kz (by simp) (Nat.le_refl _)
    · have HO : Hid (locOk s = false) := by show _ = _; rw [HOK.out]; simp [h8]
      have h8i : (8 : Int) < (q : Int) := by omega
      go_enter Tryz.func21, Tryz.ntmps21
      go_wp2_with fail
      refine HCC.out.mono ?_
      rintro e w' ⟨rfl, rfl⟩
      go_wp2_with fail
      go_ret2
      exact ⟨.slice none 0 0, by rw [HO.out]; rfl, by rw [HNO.out HO.out]; exact OwnBytes.nil _ _ _, TurnIn.refl _⟩
  · have hr0 : (((q : Int) % 2) != 0) = true := by rw [show (q : Int) % 2 = 1 by omega]; rfl
    have hr2 : ((q : Int).tmod 2 != 0) = true := by rw [Int.tmod_eq_emod_of_nonneg (by omega)]; exact hr0
    have HO : Hid (locOk s = false) := by show _ = _; rw [HOK.out]; simp [hodd]
    go_enter Tryz.func21, Tryz.ntmps21
    go_wp2_with fail
    go_ret2
    exact ⟨.slice none 0 0, by rw [HO.out]; rfl, by rw [HNO.out HO.out]; exact OwnBytes.nil _ _ _, TurnIn.refl _⟩

end Go.Proofs.YtfglkgeeelapgaaGreatDoor

/- Two matrices beside each other, whose rows are replaced by new ones. -/
namespace G294
open Go Go.RowKit
structure Two (E EE : TypeId) (w : World) (lo g1 g2 n p1 p2 : Nat) (A B : Mat) (vs us : List Value) : Prop where
  o1 : w.ownsRow lo EE 1 (.slice (some ⟨g1, 0, none⟩) n p1) n vs
  o2 : w.ownsRow lo EE 1 (.slice (some ⟨g2, 0, none⟩) n p2) n us
  ne : g1 ≠ g2
  r1 : ∀ (i : Nat) (u : Value), vs[i]? = some u → OwnBytes E w lo w.heap.size u (A.getD i []) ∧ u.ownBlock ≠ some g1 ∧ u.ownBlock ≠ some g2
  r2 : ∀ (i : Nat) (u : Value), us[i]? = some u → OwnBytes E w lo w.heap.size u (B.getD i []) ∧ u.ownBlock ≠ some g1 ∧ u.ownBlock ≠ some g2
def ApartL (vs : List Value) : Prop := ∀ (i j : Nat) (u u' : Value) (g : Nat), vs[i]? = some u → vs[j]? = some u' → u.ownBlock = some g → u'.ownBlock = some g → i = j
section
variable {E EE : TypeId} {w w' : World} {lo g1 g2 n p1 p2 : Nat} {A B : Mat} {vs us : List Value}
theorem Two.flip (h : Two E EE w lo g1 g2 n p1 p2 A B vs us) : Two E EE w lo g2 g1 n p2 p1 B A us vs :=
  ⟨h.o2, h.o1, h.ne.symm, fun i u hu => ⟨(h.r2 i u hu).1, (h.r2 i u hu).2.2, (h.r2 i u hu).2.1⟩, fun i u hu => ⟨(h.r1 i u hu).1, (h.r1 i u hu).2.2, (h.r1 i u hu).2.1⟩⟩
theorem Two.keep (h : Two E EE w lo g1 g2 n p1 p2 A B vs us) (t : TurnIn 0 0 w w') : Two E EE w' lo g1 g2 n p1 p2 A B vs us :=
  ⟨owns_turn h.o1 (fun g e => (h.o1.lt g e).2) t (by omega), owns_turn h.o2 (fun g e => (h.o2.lt g e).2) t (by omega), h.ne,
    fun i u hu => ⟨((h.r1 i u hu).1.keep t (by omega)).wider (Nat.le_refl _) t.size (Nat.le_refl _), (h.r1 i u hu).2⟩,
    fun i u hu => ⟨((h.r2 i u hu).1.keep t (by omega)).wider (Nat.le_refl _) t.size (Nat.le_refl _), (h.r2 i u hu).2⟩⟩
theorem Two.put (h : Two E EE w lo g1 g2 n p1 p2 A B vs us) (k : Nat) (hk : k < A.length) {u : Value} {r : List UInt8} (hu : OwnBytes E w lo w.heap.size u r) (n1 : u.ownBlock ≠ some g1) (n2 : u.ownBlock ≠ some g2) :
    Two E EE (w.setCell ⟨g1, k, none⟩ u) lo g1 g2 n p1 p2 (A.set k r) B (vs.set k u) us := by
  have hst := h.o1.stored k u
  have hold : ∀ (x : Value) (l : List UInt8), OwnBytes E w lo w.heap.size x l → x.ownBlock ≠ some g1 → OwnBytes E (w.setCell ⟨g1, k, none⟩ u) lo (w.setCell ⟨g1, k, none⟩ u).heap.size x l :=
    fun x l hx hn => (hx.other hst.2 (fun g' e e2 => hn (e.trans e2.symm))).wider (Nat.le_refl _) (by simp) (by simp)
  refine ⟨hst.1, own_other h.o2 hst.2 (fun g e e2 => h.ne (Option.some.inj (e2.trans e.symm))), h.ne, ?_, fun i x hx => ⟨hold x _ (h.r2 i x hx).1 (h.r2 i x hx).2.1, (h.r2 i x hx).2⟩⟩
  intro i x hx
  rw [getD_set _ _ _ _ _ hk]
  rcases get_set hx with ⟨rfl, rfl⟩ | ⟨hne, hx⟩
  · rw [if_pos rfl]; exact ⟨hold _ _ hu n1, n1, n2⟩
  · rw [if_neg hne]; exact ⟨hold x _ (h.r1 i x hx).1 (h.r1 i x hx).2.1, (h.r1 i x hx).2⟩
theorem Two.congr {A' B' : Mat} (h : Two E EE w lo g1 g2 n p1 p2 A B vs us) (e1 : A = A') (e2 : B = B') : Two E EE w lo g1 g2 n p1 p2 A' B' vs us := e1 ▸ e2 ▸ h
theorem Two.of {lo1 hi1 lo2 hi2 : Nat} (h1 : OwnM E EE w lo1 hi1 (.slice (some ⟨g1, 0, none⟩) n p1) A vs) (h2 : OwnM E EE w lo2 hi2 (.slice (some ⟨g2, 0, none⟩) n p2) B us) (hd : hi1 ≤ lo2) (hl : lo ≤ lo1) (hA : A.length = n) (hB : B.length = n) (hl2 : lo ≤ lo2) :
    Two E EE w lo g1 g2 n p1 p2 A B vs us ∧ ApartL us := by
  have a1 := h1.out g1 rfl
  have a2 := (h2.row.lt g2 rfl).1
  refine ⟨⟨own_base (hA ▸ h1.row) hl, own_base (hB ▸ h2.row) hl2, by omega, fun i u hu => ?_, fun i u hu => ?_⟩, fun i j u u' g hi hj e e' => ((h2.apart i u g hi e).2 j u' hj e').symm⟩
  · exact ⟨(h1.rows i u hu).wider hl h1.top (Nat.le_refl _), fun e => (h1.apart i u g1 hu e).1 rfl, fun e => by have := (h1.rows i u hu).2.2 g2 e; omega⟩
  · exact ⟨(h2.rows i u hu).wider hl2 h2.top (Nat.le_refl _), fun e => by have := ((h2.rows i u hu).1.lt g1 e).1; omega, fun e => (h2.apart i u g2 hu e).1 rfl⟩
theorem Two.own2 (h : Two E EE w lo g1 g2 n p1 p2 A B vs us) (ha : ApartL us) (hB : B.length = n) : OwnM E EE w lo w.heap.size (.slice (some ⟨g2, 0, none⟩) n p2) B us :=
  ⟨hB.symm ▸ h.o2, Nat.le_refl _, fun g e => (h.o2.lt g e).2, fun i u hu => (h.r2 i u hu).1, fun i u g hu e => ⟨fun e2 => (h.r2 i u hu).2.2 (e.trans e2.symm), fun j u' hj e' => (ha i j u u' g hu hj e e').symm⟩⟩
/-- row i of the first -/
theorem Two.rowF {c : Nat} {F : Ents} (h : Two E EE w lo g1 g2 n p1 p2 (mkM n c F) B vs us) (i : Nat) (hi : i < n) (hc : 0 < c) : ∃ b cc, vs[i]? = some (.slice (some ⟨b, 0, none⟩) c cc) ∧ b < w.heap.size ∧ c ≤ cc ∧ cc ≤ maxLen ∧
    w.cell? ⟨g1, i, none⟩ = some (.slice (some ⟨b, 0, none⟩) c cc) ∧ OwnBytes E w lo w.heap.size (.slice (some ⟨b, 0, none⟩) c cc) (mkRow c (F i)) ∧ ∀ j, j < c → w.cell? ⟨b, j, none⟩ = some (.int .u8 ((F i j).toNat : Int)) := by
  have hl := h.o1.1
  have e : vs[i]? = some (vs[i]'(by omega)) := List.getElem?_eq_getElem (by omega)
  generalize vs[i]'(by omega) = u at e
  have ho := (h.r1 i u e).1
  rw [mkM_getD _ _ _ _ hi] at ho
  obtain ⟨b, cc, rfl, h1, h2, h3, h4⟩ := ho.slice (by simpa using hc)
  rw [mkRow_length] at ho e h3
  have hcell := h.o1.cells (g := g1) rfl i _ e
  rw [Addr.add_lit, Nat.zero_add] at hcell
  refine ⟨b, cc, e, h2, h3, h4, hcell, ho, fun j hj => ?_⟩
  have := ho.cellAt (k := j) (by simpa using hj)
  rwa [mkRow_getD _ _ _ hj] at this
theorem Two.at1 (h : Two E EE w lo g1 g2 n p1 p2 A B vs us) {i : Nat} {u : Value} (hu : vs[i]? = some u) : w.cell? ⟨g1, i, none⟩ = some u := by
  have hcell := h.o1.cells (g := g1) rfl i _ hu
  rwa [Addr.add_lit, Nat.zero_add] at hcell
theorem Two.some1 (h : Two E EE w lo g1 g2 n p1 p2 A B vs us) {i : Nat} (hi : i < n) : ∃ u, w.cell? ⟨g1, i, none⟩ = some u := by
  have hl := h.o1.1
  exact ⟨_, h.at1 (List.getElem?_eq_getElem (by omega))⟩
/-- what is beside stays when a row is put -/
theorem Two.side (h : Two E EE w lo g1 g2 n p1 p2 A B vs us) (k : Nat) (u : Value) {x : Value} {l : List UInt8} (hx : OwnBytes E w lo w.heap.size x l) (hn : x.ownBlock ≠ some g1) : OwnBytes E (w.setCell ⟨g1, k, none⟩ u) lo (w.setCell ⟨g1, k, none⟩ u).heap.size x l :=
  (hx.other (h.o1.stored k u).2 (fun g' e e2 => hn (e.trans e2.symm))).wider (Nat.le_refl _) (by simp) (by simp)
/-- a new row is put -/
theorem Two.new (h : Two E EE w lo g1 g2 n p1 p2 A B vs us) (t : TurnIn 0 0 w w') {g c cc : Nat} {r : List UInt8} (ho : OwnBytes E w' w.heap.size w'.heap.size (.slice (some ⟨g, 0, none⟩) c cc) r) (hg : w.heap.size ≤ g) (hlo : lo ≤ w.heap.size) (k : Nat) (hk : k < A.length) :
    Two E EE (w'.setCell ⟨g1, k, none⟩ (.slice (some ⟨g, 0, none⟩) c cc)) lo g1 g2 n p1 p2 (A.set k r) B (vs.set k (.slice (some ⟨g, 0, none⟩) c cc)) us := by
  have a1 := (h.o1.lt g1 rfl).2
  have a2 := (h.o2.lt g2 rfl).2
  exact (h.keep t).put k hk (ho.wider hlo (Nat.le_refl _) (Nat.le_refl _)) (by simp [Value.ownBlock]; omega) (by simp [Value.ownBlock]; omega)
theorem Two.fresh (h : Two E EE w lo g1 g2 n p1 p2 A B vs us) {g c cc : Nat} (hg : w.heap.size ≤ g) : ∀ (i : Nat) (x : Value) (g' : Nat), us[i]? = some x → x.ownBlock = some g' → (Value.slice (some ⟨g, 0, none⟩) c cc).ownBlock ≠ some g' := by
  intro i x g' hx e e2
  have := (h.r2 i x hx).1.2.2 g' e
  simp [Value.ownBlock] at e2
  omega
theorem row_own {w w' : World} {c : Nat} {v : Value} {f : Nat → UInt8} (ho : OwnBytes E w' w.heap.size w'.heap.size v (mkRow c f)) (hc : 0 < c) : ∃ g cc, v = .slice (some ⟨g, 0, none⟩) c cc ∧ w.heap.size ≤ g ∧ g < w'.heap.size := by
  obtain ⟨g, cc, e, h1, h2, _⟩ := ho.slice (by simpa using hc)
  exact ⟨g, cc, by simpa using e, h1, h2⟩
theorem Two.frz (h : Two E EE w lo g1 g2 n p1 p2 A B vs us) (k : Nat) : w.frozen? ⟨g1, k, none⟩ = false := h.o1.frozenAt k
theorem ApartL.set (h : ApartL vs) (k : Nat) (u : Value) (hf : ∀ (i : Nat) (x : Value) (g : Nat), vs[i]? = some x → x.ownBlock = some g → u.ownBlock ≠ some g) : ApartL (vs.set k u) := by
  intro i j x x' g hi hj e e'
  rcases get_set hi with ⟨i1, i2⟩ | ⟨n1, hi2⟩ <;> rcases get_set hj with ⟨j1, j2⟩ | ⟨n2, hj2⟩
  · rw [i1, j1]
  · exact absurd (i2 ▸ e) (hf j x' g hj2 e')
  · exact absurd (j2 ▸ e') (hf i x g hi2 e)
  · exact h i j x x' g hi2 hj2 e e'
theorem ApartL.move (h : ApartL vs) (a k : Nat) {y : Value} (hy : vs[a]? = some y) (u : Value) (hf : ∀ (i : Nat) (x : Value) (g : Nat), vs[i]? = some x → x.ownBlock = some g → u.ownBlock ≠ some g) : ApartL ((vs.set k y).set a u) := by
  intro i j x x' g hi hj e e'
  rcases get_set hi with ⟨i1, i2⟩ | ⟨n1, hi2⟩ <;> rcases get_set hj with ⟨j1, j2⟩ | ⟨n2, hj2⟩
  · rw [i1, j1]
  · rcases get_set hj2 with ⟨j3, j4⟩ | ⟨n3, hj3⟩
    · exact absurd (i2 ▸ e) (hf a y g hy (j4 ▸ e'))
    · exact absurd (i2 ▸ e) (hf j x' g hj3 e')
  · rcases get_set hi2 with ⟨i3, i4⟩ | ⟨n3, hi3⟩
    · exact absurd (j2 ▸ e') (hf a y g hy (i4 ▸ e))
    · exact absurd (j2 ▸ e') (hf i x g hi3 e)
  · rcases get_set hi2 with ⟨i3, i4⟩ | ⟨n3, hi3⟩ <;> rcases get_set hj2 with ⟨j3, j4⟩ | ⟨n4, hj3⟩
    · rw [i3, j3]
    · exact absurd (h a j y x' g hy hj3 (i4 ▸ e) e').symm n2
    · exact absurd (h i a x y g hi3 hy e (j4 ▸ e')) n1
    · exact h i j x x' g hi3 hj3 e e'
end
/-- only the blocks g1 and g2 of those that were there may have turned -/
structure Off (g1 g2 : Nat) (w w' : World) : Prop where
  os : w'.os = w.os
  tape : w'.tape = w.tape
  output : w'.output = w.output
  size : w.heap.size ≤ w'.heap.size
  block : ∀ k, k < w.heap.size → k ≠ g1 → k ≠ g2 → w'.heap[k]? = w.heap[k]?
section
variable {w w1 w2 W : World} {g1 g2 N : Nat}
theorem Off.refl (w : World) : Off g1 g2 w w := ⟨rfl, rfl, rfl, Nat.le_refl _, fun _ _ _ _ => rfl⟩
theorem Off.turn (h : Off g1 g2 w w1) (t : TurnIn 0 0 w1 w2) : Off g1 g2 w w2 :=
  ⟨t.os.trans h.os, t.tape.trans h.tape, t.output.trans h.output, Nat.le_trans h.size t.size, fun k hk a b => (t.block k (by have := h.size; omega) (by omega)).trans (h.block k hk a b)⟩
theorem Off.set1 (h : Off g1 g2 w w1) (o : Nat) (x : Value) : Off g1 g2 w (w1.setCell ⟨g1, o, none⟩ x) :=
  ⟨h.os, h.tape, h.output, by simpa using h.size, fun k hk a b => (heap_setCell_other w1 ⟨g1, o, none⟩ k x (by intro e; simp at e; omega)).trans (h.block k hk a b)⟩
theorem Off.flip (h : Off g1 g2 w w1) : Off g2 g1 w w1 := ⟨h.os, h.tape, h.output, h.size, fun k hk a b => h.block k hk b a⟩
theorem Off.set2 (h : Off g1 g2 w w1) (o : Nat) (x : Value) : Off g1 g2 w (w1.setCell ⟨g2, o, none⟩ x) := (h.flip.set1 o x).flip
theorem Off.cell (h : Off g1 g2 w w1) {B o : Nat} {x : Value} (hc : w.cell? ⟨B, o, none⟩ = some x) (hB : B < w.heap.size) (n1 : B ≠ g1) (n2 : B ≠ g2) : w1.cell? ⟨B, o, none⟩ = some x := (World.cell?_of_block (h.block B hB n1 n2)).trans hc
theorem Off.frozen (h : Off g1 g2 w w1) {B o : Nat} {x : Bool} (hc : w.frozen? ⟨B, o, none⟩ = x) (hB : B < w.heap.size) (n1 : B ≠ g1) (n2 : B ≠ g2) : w1.frozen? ⟨B, o, none⟩ = x := (World.frozen?_of_block (h.block B hB n1 n2)).trans hc
theorem Off.below (h : Off g1 g2 w w1) (hb : Below N W w) (hN : N ≤ w.heap.size) (h1 : N ≤ g1) (h2 : N ≤ g2) : Below N W w1 :=
  ⟨h.os.trans hb.os, h.tape.trans hb.tape, h.output.trans hb.output, Nat.le_trans hb.size h.size, fun k hk => (h.block k (by omega) (by omega) (by omega)).trans (hb.block k hk)⟩
end
theorem scaleL_mk (s : UInt8) (c : Nat) (f : Nat → UInt8) : scaleL s (mkRow c f) = mkRow c (fun j => gmul s (f j)) := by
  simp [scaleL, mkRow]
theorem addL_mk (c : Nat) (f g : Nat → UInt8) : addL (mkRow c f) (mkRow c g) = mkRow c (fun j => f j ^^^ g j) := by
  apply List.ext_getElem (by simp [addL])
  intro n h1 h2
  simp [addL, mkRow]
/-- rows below k cleared -/
def ckF (a k : Nat) (fs : Nat → UInt8) (X : Ents) : Ents := fun i j => if i < k then clF a fs X i j else X i j
theorem ckF_a (a k : Nat) (fs : Nat → UInt8) (X : Ents) (j : Nat) : ckF a k fs X a j = X a j := by unfold ckF clF; split <;> simp
theorem ckF_k (a k : Nat) (fs : Nat → UInt8) (X : Ents) (j : Nat) : ckF a k fs X k j = X k j := by simp [ckF]
theorem ckF_zero (a : Nat) (fs : Nat → UInt8) (X : Ents) (n c : Nat) : mkM n c (ckF a 0 fs X) = mkM n c X := mkM_congr fun i j _ _ => by simp [ckF]
theorem ckF_all (a : Nat) (fs : Nat → UInt8) (X : Ents) (n c : Nat) : mkM n c (ckF a n fs X) = mkM n c (clF a fs X) := mkM_congr fun i j hi _ => by simp [ckF, hi]
theorem ckF_stay (a k : Nat) (fs : Nat → UInt8) (X : Ents) (n c : Nat) (h : k = a ∨ fs k = 0) : mkM n c (ckF a k fs X) = mkM n c (ckF a (k + 1) fs X) := mkM_congr fun i j _ _ => by
  unfold ckF
  by_cases h1 : i = k
  · subst h1
    simp only [Nat.lt_irrefl, if_false, Nat.lt_succ_self, if_true, clF]
    by_cases h2 : i = a
    · subst h2; simp
    · rcases h with h | h
      · exact absurd h h2
      · rw [if_neg h2, h, zero_gmul]; simp
  · by_cases h2 : i < k
    · simp [h2, show i < k + 1 by omega]
    · simp [h2, show ¬ i < k + 1 by omega]
theorem ckF_put (a k : Nat) (fs : Nat → UInt8) (X : Ents) (n c : Nat) (h : k ≠ a) : (mkM n c (ckF a k fs X)).set k (mkRow c fun j => X k j ^^^ gmul (fs k) (X a j)) = mkM n c (ckF a (k + 1) fs X) := by
  rw [mkM_set]
  refine mkM_congr fun i j _ _ => ?_
  unfold ckF
  by_cases h1 : i = k
  · subst h1
    simp [clF, h]
  · by_cases h2 : i < k
    · simp [h1, h2, show i < k + 1 by omega]
    · simp [h1, h2, show ¬ i < k + 1 by omega]
theorem ckF_put' (a k : Nat) (fs : Nat → UInt8) (X : Ents) (n c : Nat) (f : UInt8) (hf : f = fs k) (h : k ≠ a) : (mkM n c (ckF a k fs X)).set k (mkRow c fun j => ckF a k fs X k j ^^^ gmul f (ckF a k fs X a j)) = mkM n c (ckF a (k + 1) fs X) := by
  rw [← ckF_put a k fs X n c h]
  congr 1
  exact mkRow_congr fun j _ => by rw [ckF_k, ckF_a, hf]
theorem swap_put (n c a p : Nat) (s : UInt8) (F : Ents) : ((mkM n c F).set p (mkRow c (F a))).set a (mkRow c fun j => gmul s (F p j)) = mkM n c (scF a s (swF a p F)) := by
  rw [mkM_set, mkM_set]
  refine mkM_congr fun i j _ _ => ?_
  unfold scF swF sw
  by_cases h1 : i = a
  · subst h1; simp
  · by_cases h2 : i = p
    · subst h2; simp [h1]
    · simp [h1, h2]
end G294

/- Regions that draw their order and end in one operation that waits for all others: behind it nothing is asked of the cells that the loads read. -/
namespace G294
open Go Go.RowKit
section
variable {P : Program} {md : Region.Mode} {ops : Array Oper} {Q : Exit → Act → World → Prop} {S : World → Prop} {L : Nat}
/-- whatever comes up next; behind each operation but the last, L, S holds -/
def wpAnyT (P : Program) (md : Region.Mode) (ops : Array Oper) (Q : Exit → Act → World → Prop) (S : World → Prop) (L : Nat) : Nat → Array Bool → Act → World → Prop
  | 0, listed, a, w => Region.ready md ops listed = [] ∧ Q .normal a w
  | fuel + 1, listed, a, w =>
    (Region.ready md ops listed = [] → Q .normal a w) ∧
    ∀ i ∈ Region.ready md ops listed, wpOp P ops Q i (fun a' w' => (i ≠ L → S w') ∧ wpAnyT P md ops Q S L fuel (listed.setIfInBounds i true) a' w') a w
theorem wpAny_of_T : ∀ (fuel : Nat) (listed : Array Bool) (a : Act) (w : World), wpAnyT P md ops Q S L fuel listed a w → wpAny P md ops Q fuel listed a w
  | 0, _, _, _, h => h
  | fuel + 1, _, _, _, h => ⟨h.1, fun i hi => wpOp_mono (fun a' w' h' => wpAny_of_T fuel _ a' w' h'.2) (h.2 i hi)⟩
theorem not_ready {i j : Nat} {listed : Array Bool} (hw : Region.waitsFor md ops j i = true) (hi : i ∈ Region.ready md ops listed) : j ∉ Region.ready md ops listed := fun hj => by
  obtain ⟨oj, hoj, e, he, hb, hon⟩ := Region.waitsFor_spec hw
  obtain ⟨_, oj', hoj', hall⟩ := mem_ready.1 hj
  obtain rfl : oj' = oj := Option.some.inj (hoj'.symm.trans hoj)
  have h1 := hall e he hb
  have h0 := (mem_ready.1 hi).1
  rw [hon] at h1
  rcases Nat.lt_or_ge i listed.size with h' | h'
  · simp [h'] at h0 h1; rw [h0] at h1; cases h1
  · simp [Array.getElem?_eq_none h'] at h1
theorem wpAnyT_first {i : Nat} {oi : Oper} {v : Value} (hi : ops[i]? = some oi) (hsel : ∀ (j : Nat) (o : Oper) cs b, ops[j]? = some o → o.op ≠ .select cs b)
    (hQ : ∀ c a w, Q (.panic c) (a.put oi.dst v) w → Q (.panic c) a w) (hwl : Region.waitsFor md ops L i = true) :
    ∀ (fuel : Nat) (listed : Array Bool) (a : Act) (w : World),
      (∀ j oj, ops[j]? = some oj → j ≠ i → listed.getD j true = false → (∀ e ∈ oj.after, Region.binds md e = true → e.on ≠ i) → oi.apart ops oj = true) →
      i ∈ Region.ready md ops listed → YieldsIf P ops S oi v a → S w →
      wpAnyT P md ops Q S L fuel (listed.setIfInBounds i true) (a.put oi.dst v) w → wpAnyT P md ops Q S L (fuel + 1) listed a w := by
  intro fuel
  induction fuel with
  | zero =>
    intro listed a w _ hr hy hS H
    refine ⟨fun h => (by rw [h] at hr; cases hr), fun j hj => ?_⟩
    by_cases hji : j = i
    · subst hji; exact hy.wpOp hi hS ⟨fun _ => hS, H⟩
    · have h5 := ready_mono hj hji
      rw [H.1] at h5
      cases h5
  | succ fuel ih =>
    intro listed a w hfree hr hy hS H
    refine ⟨fun h => (by rw [h] at hr; cases hr), fun j hj => ?_⟩
    by_cases hji : j = i
    · subst hji; exact hy.wpOp hi hS ⟨fun _ => hS, H⟩
    · have hjL : j ≠ L := fun e => not_ready hwl hr (e ▸ hj)
      obtain ⟨hjun, oj, hoj, hall⟩ := mem_ready.1 hj
      have hnot : ∀ e ∈ oj.after, Region.binds md e = true → e.on ≠ i := fun e he hb heq => by
        have h1 := hall e he hb
        have h0 := (mem_ready.1 hr).1
        rw [heq] at h1
        rcases Nat.lt_or_ge i listed.size with h' | h'
        · simp [h'] at h0 h1; rw [h0] at h1; cases h1
        · simp [Array.getElem?_eq_none h'] at h1
      have h2 := wpOp_putIf hoj (hfree j oj hoj hji hjun hnot) (fun cs b => hsel i oi cs b hi) (fun cs b => hsel j oj cs b hoj) hQ hy (H.2 j (ready_mono hj hji))
      refine wpOp_mono (fun a' w' h3 => ⟨h3.2.1, ih (listed.setIfInBounds j true) a' w' (fun k ok hk hki hun hno => ?_) (ready_mono hr (Ne.symm hji)) h3.1 (h3.2.1 hjL) ?_⟩) h2
      · refine hfree k ok hk hki ?_ hno
        by_cases hjk : j = k
        · subst hjk; exact hjun
        · rw [getD_set_ne true hjk] at hun; exact hun
      · rw [Array.setIfInBounds_comm _ _ hji]
        exact h3.2.2
theorem wpAnyT_take {i : Nat} {oi : Oper} {v : Value} {fuel : Nat} {listed : Array Bool} {a : Act} {w : World} (hi : ops[i]? = some oi)
    (hs : Region.noSelect ops = true) (hf : Region.free md ops listed i = true) (hr : (Region.ready md ops listed).contains i = true) (hwl : Region.waitsFor md ops L i = true)
    (hQ : ∀ c a w, Q (.panic c) (a.put oi.dst v) w → Q (.panic c) a w) (hy : YieldsIf P ops S oi v a) (hS : S w)
    (h : wpAnyT P md ops Q S L fuel (listed.setIfInBounds i true) (a.put oi.dst v) w) : wpAnyT P md ops Q S L (fuel + 1) listed a w :=
  wpAnyT_first hi (Region.noSelect_spec hs) hQ hwl fuel listed a w (Region.free_spec hi hf) (by simpa using hr) hy hS h
/-- one operation alone may come up -/
theorem wpAnyT_one {i : Nat} {o : Oper} {fuel : Nat} {listed : Array Bool} {a : Act} {w : World} (ho : ops[i]? = some o) (hr : Region.ready md ops listed = [i])
    (h : ∀ K' : Act → World → Prop, Shut (∀ a w, (i ≠ L → S w) → wpAnyT P md ops Q S L fuel (listed.setIfInBounds i true) a w → K' a w) → if Region.wanted o (yielded ops a.tmps) = true then Oper.wp P o a w K' Q else K' (a.put o.dst undef) w) :
    wpAnyT P md ops Q S L (fuel + 1) listed a w :=
  ⟨fun h0 => (by rw [hr] at h0; cases h0), fun j hj => by
    rw [hr] at hj
    obtain rfl : j = i := by simpa using hj
    exact wpOp_step ho (fun K' hK => h K' (fun a w hS hW => hK a w ⟨hS, hW⟩))⟩
theorem wpAnyT_done {listed : Array Bool} {a : Act} {w : World} (hr : Region.ready md ops listed = []) (h : Q .normal a w) : ∀ fuel, wpAnyT P md ops Q S L fuel listed a w
  | 0 => ⟨hr, h⟩
  | _ + 1 => ⟨fun _ => h, by rw [hr]; simp⟩
theorem wp_region_tail {id : Nat} {a : Act} {w : World} (S : World → Prop) (L : Nat) (hm : P.follows .mixedOrders = true)
    (h : wpAnyT P .any ops Q S L ops.size (Array.replicate ops.size false) a w.drew) : (Code.region id ops true).wp P Q a w :=
  wp_region_any hm (wpAny_of_T _ _ _ _ h)
end
end G294

/- goodVector and goodPair. -/
namespace Go.Proofs.YtfglkgeeelapgaaGreatDoor
open Go.RowKit G294

end Go.Proofs.YtfglkgeeelapgaaGreatDoor

/- Contracts of AddVectors, the program's and the model's. -/
namespace G294
theorem addL_len (l m : List UInt8) (h : l.length = m.length) : (addL l m).length = l.length := by simp [addL, h]
theorem addL_get (l m : List UInt8) (k : Nat) (h1 : k < l.length) (h2 : k < m.length) (h3 : k < (addL l m).length) : (addL l m)[k] = l[k] ^^^ m[k] := by simp [addL]
theorem addR_len (l m : List UInt8) : (addR l m).length ≤ 80 := by
  unfold addR; split
  · rename_i h; rw [addL_len l m h.2]; exact h.1
  · simp
end G294
namespace Go.Proofs.YtfglkgeeelapgaaGreatDoor
open Go.RowKit G294

set_option maxHeartbeats 1000000 in
theorem l1Add_own (v u : Value) (l m : List UInt8) (w : World) (hv : Seen w v (bys l)) (hu : Seen w u (bys m)) (hlen : l.length = m.length) (hn : l.length ≤ 1048576) :
    Calls Tryz.prog 100 #[v, u] w (RetBytes 5 w (addL l m)) := by
  obtain ⟨A, c, rfl, hlc, hcm, hx⟩ := hv
  obtain ⟨A', c', rfl, hlc', hcm', hx'⟩ := hu
  rw [bys_length] at hlc hx hlc' hx'
  simp only [bys_length]
  unfold maxLen at hcm hcm'
  have HAL := Lib.hid (addL_len l m hlen)
  generalize hnn : l.length = n at *
  generalize hmm : m.length = n' at *
  obtain rfl : n = n' := by omega
  have HN := Lib.hid hnn
  have HM := Lib.hid hmm
  clear hnn hmm
  go_enter Tryz.func100, Tryz.ntmps100
  go_wp2_with fail
  go_loopw [5, 9] (fun o i wr => ∃ k : Nat, k ≤ n ∧ i = .int .i64 k ∧ wr.ownsRow w.heap.size 5 1 o k (bys ((addL l m).take k)) ∧ Below w.heap.size w wr)
    (fun _ i _ => n - (intOf i).toNat)
  case atStart => exact ⟨0, Nat.zero_le _, rfl, World.ownsRow_nil _ _ _ _, Below.refl _ _⟩
  case round =>
    obtain ⟨k, hk, rfl, hown, hb⟩ := hrel
    by_cases hlt : k < n
    · obtain ⟨b, off, rfl, hbl, hcell⟩ := hx (by omega)
      obtain ⟨b', off', rfl, hbl', hcell'⟩ := hx' (by omega)
      have hkl : k < l.length := by rw [HN.out]; exact hlt
      have hkm : k < m.length := by rw [HM.out]; exact hlt
      have hka : k < (addL l m).length := by rw [HAL.out]; exact hlt
      have hcx : wr.cell? ⟨b, off + k, none⟩ = some (.int .u8 ((l[k]).toNat : Int)) := (hb.cell (p := ⟨b, off + k, none⟩) hbl).trans (hcell k _ (bys_get l k hkl))
      have hcy : wr.cell? ⟨b', off' + k, none⟩ = some (.int .u8 ((m[k]).toNat : Int)) := (hb.cell (p := ⟨b', off' + k, none⟩) hbl').trans (hcell' k _ (bys_get m k hkm))
      have HX := Lib.hid (xor_u8 l[k] m[k])
      have HG := Lib.hid (addL_get l m k hkl hkm hka)
      have hbs := hb.size
      have hob : u5.ownBlock ≠ some b := fun e => by have := (hown.lt b e).1; omega
      have hob' : u5.ownBlock ≠ some b' := fun e => by have := (hown.lt b' e).1; omega
      have hk0 : (0 : Int) ≤ (k : Int) := Int.natCast_nonneg _
      clear hcell hcell' hx hx'
      have hki : (k : Int) < (n : Int) := by omega
      go_wp2_with fail
      go_region_held3 (fun w' => w'.cell? ⟨b, off + k, none⟩ = some (.int .u8 ((l[k]).toNat : Int)) ∧ w'.cell? ⟨b', off' + k, none⟩ = some (.int .u8 ((m[k]).toNat : Int)))
        (first
          | go_keep
          | (go_split_ands
             refine ⟨?_, ?_⟩
             · (rw [hg'.cell_far _ (by simp; omega) (Ne.symm hob)]; assumption)
             · (rw [hg'.cell_far _ (by simp; omega) (Ne.symm hob')]; assumption)))
        ((refine step_append1 (by rfl) _ _ _ (by rfl) w.heap.size 5 _ _ Tryz.underlying22 infoByte rfl _ k _ (by rfl) ((hown.alloc _).drew) wr.heap.size (.int .u8 (bits BinOp.xor IntKind.u8 ((l[k]).toNat : Int) ((m[k]).toNat : Int))) (by rfl) (by simp) (by rfl) (by omega) (by omega) (by have := hb.size; simp; omega) ?_; intro v' w1 hown1 hg' _))
      have hb' : Below w.heap.size w w1 := below_append ((hb.alloc hb.size _).drew) ((hown.alloc _).drew) hg' (Nat.le_refl _) (by simp; omega)
      have hown2 : w1.ownsRow w.heap.size 5 1 v' (k + 1) (bys ((addL l m).take (k + 1))) := by
        have e : (addL l m).take (k + 1) = (addL l m).take k ++ [l[k] ^^^ m[k]] := by
          rw [List.take_succ_eq_append_getElem hka, HG.out]
        rw [HX.out] at hown1
        rw [e, bys_append]; exact hown1
      clear hown1 hg' hown
      go_wp2_with fail
      go_roundw
      case rel => exact ⟨k + 1, by omega, by go_num, hown2, hb'⟩
      case measure => simp [intOf]; omega
    · obtain rfl : k = n := by omega
      have hki : ¬ (k : Int) < (k : Int) := by omega
      go_wp2_with fail
      go_ret
      refine ⟨_, rfl, OwnBytes.of_made ?_, TurnIn.of_below hb⟩
      rw [List.take_of_length_le (by rw [HAL.out]; exact Nat.le_refl _)] at hown
      simpa [HAL.out] using hown

end Go.Proofs.YtfglkgeeelapgaaGreatDoor

/- Contracts of ScaleVector, the program's and the model's. -/
namespace Go.Proofs.YtfglkgeeelapgaaGreatDoor
open Go.RowKit G294

set_option maxHeartbeats 400000 in
theorem l1Scale_any (a : UInt8) (v : Value) (l : List UInt8) (w : World) (hv : Seen w v (bys l)) (hn : l.length ≤ 1048576) :
    Calls Tryz.prog 99 #[.int .u8 (a.toNat : Int), v] w (Made w 5 (bys (scaleL a l))) := by
  obtain ⟨A, c, rfl, hlc, hcm, hx⟩ := hv
  rw [bys_length] at hlc hx
  simp only [bys_length]
  unfold maxLen at hcm
  generalize hnn : l.length = n at *
  have HN := Lib.hid hnn
  clear hnn
  go_enter Tryz.func99, Tryz.ntmps99
  go_wp2_with fail
  go_loopw [5, 10] (fun o i wr => ∃ k : Nat, k ≤ n ∧ i = .int .i64 k ∧ wr.ownsRow w.heap.size 5 1 o k (bys ((scaleL a l).take k)) ∧ Below w.heap.size w wr)
    (fun _ i _ => n - (intOf i).toNat)
  case atStart => exact ⟨0, Nat.zero_le _, rfl, World.ownsRow_nil _ _ _ _, Below.refl _ _⟩
  case round =>
    obtain ⟨k, hk, rfl, hown, hb⟩ := hrel
    by_cases hlt : k < n
    · obtain ⟨b, off, rfl, hbl, hcell⟩ := hx (by omega)
      have hkl : k < l.length := by rw [HN.out]; exact hlt
      have hcx : wr.cell? ⟨b, off + k, none⟩ = some (.int .u8 ((l[k]).toNat : Int)) := (hb.cell (p := ⟨b, off + k, none⟩) hbl).trans (hcell k _ (bys_get l k hkl))
      clear hcell hx
      have hki : (k : Int) < (n : Int) := by omega
      go_wp2_with fail
      refine (l1Times_u8 a l[k] _).mono ?_
      rintro e w' ⟨rfl, rfl⟩
      go_wp2_with (at_builtin; refine wpList_append1 rfl _ _ _ rfl w.heap.size 5 _ _ Tryz.underlying22 infoByte rfl _ k _ rfl (hown.alloc _) wr.heap.size (.int .u8 ((gmul a l[k]).toNat : Int)) rfl ?c1 rfl ?c2 ?c3 ?c4 ?_)
      case c1 => simp
      case c2 => omega
      case c3 => omega
      case c4 => have := hb.size; simp; omega
      intro v' w' hown' hg' _
      have hb' : Below w.heap.size w w' := below_append (hb.alloc hb.size _) (hown.alloc _) hg' (Nat.le_refl _) (by have := hb.size; simp; omega)
      have hown2 : w'.ownsRow w.heap.size 5 1 v' (k + 1) (bys ((scaleL a l).take (k + 1))) := by
        have e : (scaleL a l).take (k + 1) = (scaleL a l).take k ++ [gmul a l[k]] := by
          rw [List.take_succ_eq_append_getElem (by simp [scaleL, hkl])]; simp [scaleL]
        rw [e, bys_append]; exact hown'
      clear hown' hg'
      go_wp2_with fail
      go_roundw
      case rel => exact ⟨k + 1, by omega, by go_num, hown2, hb'⟩
      case measure => simp [intOf]; omega
    · obtain rfl : k = n := by omega
      have hki : ¬ (k : Int) < (k : Int) := by omega
      go_wp2_with fail
      go_ret
      refine ⟨_, rfl, ?_, hb⟩
      rw [List.take_of_length_le (by simp [scaleL, HN.out])] at hown
      simpa [HN.out, scaleL] using hown

theorem scaleR_len (a : UInt8) (l : List UInt8) : (scaleR a l).length ≤ 80 := by
  unfold scaleR; split
  · simpa [scaleL]
  · simp

end Go.Proofs.YtfglkgeeelapgaaGreatDoor
