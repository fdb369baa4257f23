/- Joined texts: MatMath, MatMem, NewGrid, Conv, Turned, FieldWalks, FieldWalksB. -/
import Derived.Test.YtdbgkpmdimapdaaBd01
import Derived.Test.YtdbgkpmdimapdaaBd00
import Derived.Test.YtdbgkpmdimapdaaProg
import Derived.Deep.QuietTactic
import Derived.BigQuiet
import Derived.Deep.RegionHeld3
import Derived.Shelf.Abstract
import Derived.WalkKit
import Derived.WalkSpells
import Derived.WalkLawsBesides
import Derived.Lib.Hide
set_option linter.unusedSimpArgs false
set_option linter.unusedVariables false
/- Matrices over GF(256), as lists of rows and as functions of row and column: plain functions, no program. -/
namespace G294

abbrev Mat := List (List UInt8)
abbrev Ents := Nat → Nat → UInt8
def wid (L : Mat) : Nat := (L.getD 0 []).length
def goodM (L : Mat) : Bool := decide (1 ≤ L.length ∧ L.length ≤ 16 ∧ 1 ≤ wid L ∧ wid L ≤ 16 ∧ ∀ i, i < L.length → (L.getD i []).length = wid L)
def ent (L : Mat) : Ents := fun i j => (L.getD i []).getD j 0
def mkRow (c : Nat) (f : Nat → UInt8) : List UInt8 := (List.range c).map f
def mkM (r c : Nat) (F : Ents) : Mat := (List.range r).map fun i => mkRow c (F i)
@[simp] theorem mkRow_length (c : Nat) (f : Nat → UInt8) : (mkRow c f).length = c := by simp [mkRow]
@[simp] theorem mkM_length (r c : Nat) (F : Ents) : (mkM r c F).length = r := by simp [mkM]
theorem mkRow_getD (c : Nat) (f : Nat → UInt8) (j : Nat) (h : j < c) : (mkRow c f).getD j 0 = f j := by simp [mkRow, List.getD, h]
theorem mkRow_get (c : Nat) (f : Nat → UInt8) (j : Nat) (h : j < (mkRow c f).length) : (mkRow c f)[j] = f j := by simp [mkRow]
theorem mkM_getD (r c : Nat) (F : Ents) (i : Nat) (h : i < r) : (mkM r c F).getD i [] = mkRow c (F i) := by simp [mkM, List.getD, h]
theorem mkM_get? (r c : Nat) (F : Ents) (i : Nat) (h : i < r) : (mkM r c F)[i]? = some (mkRow c (F i)) := by simp [mkM, h]
theorem ent_mkM (r c : Nat) (F : Ents) (i j : Nat) (hi : i < r) (hj : j < c) : ent (mkM r c F) i j = F i j := by
  unfold ent; rw [mkM_getD _ _ _ _ hi, mkRow_getD _ _ _ hj]
theorem wid_mkM (r c : Nat) (F : Ents) (h : 0 < r) : wid (mkM r c F) = c := by unfold wid; rw [mkM_getD _ _ _ _ h]; simp
theorem mkRow_congr {c : Nat} {f g : Nat → UInt8} (h : ∀ j, j < c → f j = g j) : mkRow c f = mkRow c g := by
  unfold mkRow; exact List.map_congr_left (fun j hj => h j (by simpa using hj))
theorem mkM_congr {r c : Nat} {F G : Ents} (h : ∀ i j, i < r → j < c → F i j = G i j) : mkM r c F = mkM r c G := by
  unfold mkM; exact List.map_congr_left (fun i hi => mkRow_congr fun j hj => h i j (by simpa using hi) hj)
theorem mkRow_set (c : Nat) (f : Nat → UInt8) (k : Nat) (x : UInt8) : (mkRow c f).set k x = mkRow c (fun j => if j = k then x else f j) := by
  apply List.ext_getElem (by simp)
  intro n h1 h2
  rw [List.getElem_set]
  by_cases h : k = n
  · subst h; simp [mkRow]
  · have h' : ¬ n = k := fun e => h e.symm
    rw [if_neg h]; simp [mkRow, h']
theorem mkM_set (r c : Nat) (F : Ents) (k : Nat) (f : Nat → UInt8) : (mkM r c F).set k (mkRow c f) = mkM r c (fun i => if i = k then f else F i) := by
  apply List.ext_getElem (by simp)
  intro n h1 h2
  rw [List.getElem_set]
  by_cases h : k = n
  · subst h; simp [mkM]
  · have h' : ¬ n = k := fun e => h e.symm
    rw [if_neg h]; simp [mkM, h']
theorem eq_mkRow (l : List UInt8) : l = mkRow l.length (fun j => l.getD j 0) := by
  apply List.ext_getElem (by simp)
  intro n h1 h2
  rw [mkRow_get]; simp [List.getD, h1]
theorem eq_mkM {L : Mat} {r c : Nat} (hr : L.length = r) (hc : ∀ i, i < r → (L.getD i []).length = c) : L = mkM r c (ent L) := by
  apply List.ext_getElem (by simp [hr])
  intro n h1 h2
  have hn : n < r := by omega
  have h3 := hc n hn
  have e : (mkM r c (ent L))[n] = mkRow c (ent L n) := by simp [mkM]
  have e2 : L.getD n [] = L[n] := by simp [List.getD, h1]
  rw [e]
  unfold ent
  rw [e2] at h3 ⊢
  rw [← h3]
  exact eq_mkRow _
theorem goodM_iff (L : Mat) : goodM L = true ↔ 1 ≤ L.length ∧ L.length ≤ 16 ∧ 1 ≤ wid L ∧ wid L ≤ 16 ∧ ∀ i, i < L.length → (L.getD i []).length = wid L := by simp only [goodM, decide_eq_true_eq]
theorem good_eq {L : Mat} (h : goodM L = true) : L = mkM L.length (wid L) (ent L) := eq_mkM rfl ((goodM_iff L).1 h).2.2.2.2
theorem good_mkM (r c : Nat) (F : Ents) (h1 : 1 ≤ r) (h2 : r ≤ 16) (h3 : 1 ≤ c) (h4 : c ≤ 16) : goodM (mkM r c F) = true := by
  rw [goodM_iff, wid_mkM _ _ _ (by omega), mkM_length]
  exact ⟨h1, h2, h3, h4, fun i hi => by rw [mkM_getD _ _ _ _ hi]; simp⟩

/-- sums -/
def sumK : Nat → (Nat → UInt8) → UInt8
  | 0, _ => 0
  | n + 1, f => sumK n f ^^^ f n
theorem sumK_congr {n : Nat} {f g : Nat → UInt8} (h : ∀ l, l < n → f l = g l) : sumK n f = sumK n g := by
  induction n with
  | zero => rfl
  | succ n ih => rw [sumK, sumK, ih (fun l hl => h l (by omega)), h n (by omega)]
theorem sumK_zero (n : Nat) : sumK n (fun _ => 0) = 0 := by
  induction n with
  | zero => rfl
  | succ n ih => rw [sumK, ih]; rfl
theorem x4 (a b c d : UInt8) : a ^^^ b ^^^ (c ^^^ d) = a ^^^ c ^^^ (b ^^^ d) := by
  rw [UInt8.xor_assoc, UInt8.xor_assoc, ← UInt8.xor_assoc b c d, UInt8.xor_comm b c, UInt8.xor_assoc c b d]
theorem sumK_xor (n : Nat) (f g : Nat → UInt8) : sumK n (fun l => f l ^^^ g l) = sumK n f ^^^ sumK n g := by
  induction n with
  | zero => simp [sumK]
  | succ n ih => simp only [sumK]; rw [ih, x4]
theorem sumK_mul (n : Nat) (a : UInt8) (f : Nat → UInt8) : sumK n (fun l => gmul a (f l)) = gmul a (sumK n f) := by
  induction n with
  | zero => exact (gmul_zero a).symm
  | succ n ih => simp only [sumK]; rw [ih, gmul_xor]
theorem sumK_mulr (n : Nat) (a : UInt8) (f : Nat → UInt8) : sumK n (fun l => gmul (f l) a) = gmul (sumK n f) a := by
  rw [gmul_comm, ← sumK_mul]; exact sumK_congr fun l _ => gmul_comm _ _
theorem sumK_one {n k : Nat} (f : Nat → UInt8) (hk : k < n) (h : ∀ l, l < n → l ≠ k → f l = 0) : sumK n f = f k := by
  induction n with
  | zero => omega
  | succ n ih =>
    rw [sumK]
    by_cases e : k = n
    · subst e
      rw [sumK_congr (g := fun _ => 0) (fun l hl => h l (by omega) (by omega)), sumK_zero]; simp
    · rw [ih (by omega) (fun l hl hn => h l (by omega) hn), h n (by omega) (by omega)]; simp
theorem sumK_swap (n m : Nat) (f : Nat → Nat → UInt8) : sumK n (fun i => sumK m (fun j => f i j)) = sumK m (fun j => sumK n (fun i => f i j)) := by
  induction n with
  | zero => simp only [sumK]; exact (sumK_zero m).symm
  | succ n ih => simp only [sumK]; rw [ih, sumK_xor]
theorem dotK_sum (l m : List UInt8) (k : Nat) : dotK l m k = sumK k (fun i => gmul (l.getD i 0) (m.getD i 0)) := by
  induction k with
  | zero => rfl
  | succ k ih => rw [dotK, sumK, ih]

/-- inverses of bytes -/
def ginv (a : UInt8) : UInt8 := UInt8.ofNat (gi a.toNat)
theorem gi_lt {a : Nat} (ha : a < 256) : gi a < 256 := gp_lt ha 254
theorem ginv_toNat (a : UInt8) : (ginv a).toNat = gi a.toNat := by
  unfold ginv; rw [UInt8.toNat_ofNat']; exact Nat.mod_eq_of_lt (gi_lt a.toNat_lt)
theorem gmul_ginv {a : UInt8} (h : a ≠ 0) : gmul a (ginv a) = 1 := by
  apply u8_ext
  rw [gmul_toNat, ginv_toNat, gm_gi a.toNat_lt (fun e => h (u8_ext e))]; rfl
theorem ginv_gmul {a : UInt8} (h : a ≠ 0) : gmul (ginv a) a = 1 := by rw [gmul_comm, gmul_ginv h]

/-- the first row from a on, of r rows, whose entry in column j is not 0 -/
def piv (F : Ents) (r a j : Nat) : Option Nat := (List.range' a (r - a)).find? fun i => F i j != 0
theorem piv_some {F : Ents} {r a j k : Nat} (h1 : a ≤ k) (h2 : k < r) (h3 : F k j ≠ 0) (h4 : ∀ i, a ≤ i → i < k → F i j = 0) : piv F r a j = some k := by
  unfold piv
  rw [List.find?_range'_eq_some]
  refine ⟨by simpa using h3, by simp; omega, fun i h5 h6 => by simp [h4 i h5 h6]⟩
theorem piv_none {F : Ents} {r a j : Nat} (h : ∀ i, a ≤ i → i < r → F i j = 0) : piv F r a j = none := by
  unfold piv
  rw [List.find?_range'_eq_none]
  intro i h1 h2
  simp [h i h1 (by omega)]
theorem piv_cases (F : Ents) (r a j : Nat) : (piv F r a j = none ∧ ∀ i, a ≤ i → i < r → F i j = 0) ∨
    ∃ k, piv F r a j = some k ∧ a ≤ k ∧ k < r ∧ F k j ≠ 0 ∧ ∀ i, a ≤ i → i < k → F i j = 0 := by
  cases h : piv F r a j with
  | none =>
    refine .inl ⟨rfl, fun i h1 h2 => ?_⟩
    unfold piv at h
    rw [List.find?_range'_eq_none] at h
    simpa using h i h1 (by omega)
  | some k =>
    unfold piv at h
    rw [List.find?_range'_eq_some] at h
    obtain ⟨h1, h2, h3⟩ := h
    simp at h2
    exact .inr ⟨k, rfl, by omega, by omega, by simpa using h1, fun i h5 h6 => by simpa using h3 i h5 h6⟩
theorem piv_congr {F G : Ents} {r a j : Nat} (h : ∀ i, a ≤ i → i < r → F i j = G i j) : piv F r a j = piv G r a j := by
  rcases piv_cases G r a j with ⟨e, h1⟩ | ⟨k, e, h1, h2, h3, h4⟩
  · rw [e]; exact piv_none fun i a1 a2 => by rw [h i a1 a2, h1 i a1 a2]
  · rw [e]; exact piv_some h1 h2 (by rw [h k h1 h2]; exact h3) fun i a1 a2 => by rw [h i a1 (by omega), h4 i a1 a2]

/-- one step of elimination, as an operation on rows -/
def sw (a p i : Nat) : Nat := if i = a then p else if i = p then a else i
def swF (a p : Nat) (F : Ents) : Ents := fun i => F (sw a p i)
def scF (a : Nat) (s : UInt8) (F : Ents) : Ents := fun i j => if i = a then gmul s (F a j) else F i j
def clF (a : Nat) (fs : Nat → UInt8) (F : Ents) : Ents := fun i j => if i = a then F a j else F i j ^^^ gmul (fs i) (F a j)
structure Op where
  a : Nat
  p : Nat
  s : UInt8
  fs : Nat → UInt8
def opF (o : Op) (F : Ents) : Ents := clF o.a o.fs (scF o.a o.s (swF o.a o.p F))
def opAt (F : Ents) (a j p : Nat) : Op := ⟨a, p, ginv (F p j), fun i => swF a p F i j⟩
def opOf (F : Ents) (r a j : Nat) : Option Op := (piv F r a j).map (opAt F a j)
/-- the matrix and the number of pivots after k columns -/
def est (F : Ents) (r : Nat) : Nat → Ents × Nat
  | 0 => (F, 0)
  | k + 1 => match opOf (est F r k).1 r (est F r k).2 k with
    | none => est F r k
    | some o => (opF o (est F r k).1, (est F r k).2 + 1)
/-- another matrix with the same operations -/
def bst (F B : Ents) (r : Nat) : Nat → Ents
  | 0 => B
  | k + 1 => match opOf (est F r k).1 r (est F r k).2 k with
    | none => bst F B r k
    | some o => opF o (bst F B r k)
theorem est_none {F : Ents} {r k : Nat} (h : piv (est F r k).1 r (est F r k).2 k = none) : est F r (k + 1) = est F r k := by
  rw [est, opOf, h]; rfl
theorem est_some {F : Ents} {r k p : Nat} (h : piv (est F r k).1 r (est F r k).2 k = some p) : est F r (k + 1) = (opF (opAt (est F r k).1 (est F r k).2 k p) (est F r k).1, (est F r k).2 + 1) := by
  rw [est, opOf, h]; rfl
theorem bst_none {F B : Ents} {r k : Nat} (h : piv (est F r k).1 r (est F r k).2 k = none) : bst F B r (k + 1) = bst F B r k := by
  rw [bst, opOf, h]; rfl
theorem bst_some {F B : Ents} {r k p : Nat} (h : piv (est F r k).1 r (est F r k).2 k = some p) : bst F B r (k + 1) = opF (opAt (est F r k).1 (est F r k).2 k p) (bst F B r k) := by
  rw [bst, opOf, h]; rfl
theorem est_le (F : Ents) (r k : Nat) : (est F r k).2 ≤ r ∧ (est F r k).2 ≤ k := by
  induction k with
  | zero => simp [est]
  | succ k ih =>
    rcases piv_cases (est F r k).1 r (est F r k).2 k with ⟨e, _⟩ | ⟨p, e, h1, h2, _⟩
    · rw [est_none e]; omega
    · rw [est_some e]; simp; omega
/-- where all rows have a pivot nothing more happens -/
theorem est_full {F : Ents} {r k : Nat} (h : (est F r k).2 = r) : ∀ d, est F r (k + d) = est F r k := by
  intro d
  induction d with
  | zero => rfl
  | succ d ih =>
    rw [← Nat.add_assoc, est_none, ih]
    rw [ih]
    exact piv_none fun i h1 h2 => by omega
theorem bst_full {F B : Ents} {r k : Nat} (h : (est F r k).2 = r) : ∀ d, bst F B r (k + d) = bst F B r k := by
  intro d
  induction d with
  | zero => rfl
  | succ d ih =>
    rw [← Nat.add_assoc, bst_none, ih]
    rw [est_full h d]
    exact piv_none fun i h1 h2 => by omega
theorem bst_self (F : Ents) (r k : Nat) : bst F F r k = (est F r k).1 := by
  induction k with
  | zero => rfl
  | succ k ih =>
    rcases piv_cases (est F r k).1 r (est F r k).2 k with ⟨e, _⟩ | ⟨p, e, _⟩
    · rw [est_none e, bst_none e, ih]
    · rw [est_some e, bst_some e, ih]

/-- two matrices side by side -/
def hcF (n : Nat) (A B : Ents) : Ents := fun i j => if j < n then A i j else B i (j - n)
theorem opF_hc (o : Op) (n : Nat) (A B : Ents) : opF o (hcF n A B) = hcF n (opF o A) (opF o B) := by
  funext i j
  unfold opF clF scF swF hcF
  by_cases h : j < n <;> simp [h]
theorem est_hc (A B : Ents) (r n : Nat) : ∀ k, k ≤ n → est (hcF n A B) r k = (hcF n (est A r k).1 (bst A B r k), (est A r k).2) := by
  intro k
  induction k with
  | zero => intro _; rfl
  | succ k ih =>
    intro hk
    have ih := ih (by omega)
    have hp : piv (est (hcF n A B) r k).1 r (est (hcF n A B) r k).2 k = piv (est A r k).1 r (est A r k).2 k := by
      rw [ih]
      exact piv_congr fun i _ _ => by simp [hcF, show k < n by omega]
    rcases piv_cases (est A r k).1 r (est A r k).2 k with ⟨e, _⟩ | ⟨p, e, _⟩
    · rw [est_none (hp.trans e), est_none e, bst_none e, ih]
    · rw [est_some (hp.trans e), est_some e, bst_some e, ih]
      have ho : opAt (hcF n (est A r k).1 (bst A B r k)) (est A r k).2 k p = opAt (est A r k).1 (est A r k).2 k p := by
        unfold opAt
        simp only [hcF, swF, show k < n by omega, if_true]
      simp only
      rw [ho, opF_hc]

/-- the operations are linear -/
def idF : Ents := fun i j => if i = j then 1 else 0
theorem sw_lt {a p r i : Nat} (ha : a < r) (hp : p < r) (hi : i < r) : sw a p i < r := by unfold sw; split <;> (try split) <;> omega
theorem opF_congr {o : Op} {r j : Nat} {X Y : Ents} (ha : o.a < r) (hp : o.p < r) (h : ∀ i, i < r → X i j = Y i j) : ∀ i, i < r → opF o X i j = opF o Y i j := by
  intro i hi
  unfold opF clF scF swF
  simp only [h _ (sw_lt ha hp ha), h _ (sw_lt ha hp hi)]
theorem opF_sum (o : Op) (r : Nat) (T B : Ents) (i j : Nat) : opF o (fun i j => sumK r fun l => gmul (T i l) (B l j)) i j = sumK r fun l => gmul (opF o T i l) (B l j) := by
  unfold opF clF scF swF
  by_cases h : i = o.a
  · simp only [h, if_true]
    rw [← sumK_mul]
    exact sumK_congr fun l _ => by rw [gmul_assoc]
  · simp only [h, if_false, if_true]
    rw [← sumK_mul, ← sumK_mul, ← sumK_xor]
    exact sumK_congr fun l _ => by rw [xor_gmul, gmul_assoc, gmul_assoc]
theorem bst_lin (F B : Ents) (r : Nat) (k : Nat) : ∀ i j, i < r → bst F B r k i j = sumK r fun l => gmul (bst F idF r k i l) (B l j) := by
  induction k with
  | zero =>
    intro i j hi
    show B i j = sumK r fun l => gmul (idF i l) (B l j)
    rw [sumK_one _ hi (fun l _ hn => by
      have hn' : ¬ i = l := fun e => hn e.symm
      simp [idF, hn', zero_gmul])]
    simp [idF, one_gmul]
  | succ k ih =>
    intro i j hi
    have hl := est_le F r k
    rcases piv_cases (est F r k).1 r (est F r k).2 k with ⟨e, _⟩ | ⟨p, e, h1, h2, _⟩
    · rw [bst_none e, bst_none e, ih i j hi]
    · rw [bst_some e, bst_some e]
      have := opF_congr (o := opAt (est F r k).1 (est F r k).2 k p) (j := j) (r := r) (X := bst F B r k) (Y := fun i j => sumK r fun l => gmul (bst F idF r k i l) (B l j)) (show (est F r k).2 < r by omega) (show p < r from h2) (fun i hi => ih i j hi) i hi
      rw [this, opF_sum]

/-- what the functions of chapter 2 answer -/
def goodI (n : Int) : Bool := decide (1 ≤ n ∧ n ≤ 16)
def prodOk (a b : Mat) : Bool := goodM a && goodM b && decide (wid a = b.length)
def prodF (n : Nat) (A B : Ents) : Ents := fun i j => sumK n fun k => gmul (A i k) (B k j)
def prodR (a b : Mat) : Mat := if prodOk a b = true then mkM a.length (wid b) (prodF (wid a) (ent a) (ent b)) else []
def idOk (n : Int) : Bool := goodI n
def idR (n : Int) : Mat := if goodI n = true then mkM n.toNat n.toNat idF else []
def rankN (m : Mat) : Nat := (est (ent m) m.length (wid m)).2
def rankR (m : Mat) : Nat := if goodM m = true then rankN m else 0
def squareM (m : Mat) : Bool := goodM m && decide (m.length = wid m)
def invOk (m : Mat) : Bool := squareM m && decide (rankN m = m.length)
def invF (m : Mat) : Ents := bst (ent m) idF m.length m.length
def invR (m : Mat) : Mat := if invOk m = true then mkM m.length m.length (invF m) else []
def transR (m : Mat) : Mat := if goodM m = true then mkM (wid m) m.length (fun i j => ent m j i) else []
/-- an increasing, nonempty list of indexes below size -/
def incr (size : Nat) : Int → List Int → Bool
  | _, [] => true
  | last, x :: l => decide (last < x) && decide (x < size) && incr size x l
def choice (l : List Int) (size : Nat) : Bool := incr size (-1) l && !l.isEmpty
def partOk (m : Mat) (l c : List Int) : Bool := goodM m && choice l m.length && choice c (wid m)
def partR (m : Mat) (l c : List Int) : Mat := if partOk m l c = true then mkM l.length c.length (fun i j => ent m (l.getD i 0).toNat (c.getD j 0).toNat) else []
def sidesOk (r c : Int) : Bool := goodI r && goodI c
def vandF : Ents := fun i j => UInt8.ofNat (gp i j)
def vandR (r c : Int) : Mat := if sidesOk r c = true then mkM r.toNat c.toNat vandF else []
def cauF (c : Nat) : Ents := fun i j => UInt8.ofNat (gi ((c + i) ^^^ j))
def cauR (r c : Int) : Mat := if sidesOk r c = true then mkM r.toNat c.toNat (cauF c.toNat) else []
def solveOk (m : Mat) (v : List UInt8) : Bool := invOk m && decide (v.length = m.length)
def colF (v : List UInt8) : Ents := fun i _ => v.getD i 0
def solveR (m : Mat) (v : List UInt8) : List UInt8 := if solveOk m v = true then mkRow m.length (fun i => bst (ent m) (colF v) m.length m.length i 0) else []
theorem solve_dot (m : Mat) (v : List UInt8) (i : Nat) (hi : i < m.length) : bst (ent m) (colF v) m.length m.length i 0 = dotK (mkRow m.length (invF m i)) v m.length := by
  rw [bst_lin _ _ _ _ i 0 hi, dotK_sum]
  exact sumK_congr fun l hl => by rw [mkRow_getD _ _ _ hl]; rfl
theorem piv_col (m : Mat) (k : Nat) (h : squareM m = true) : True := trivial
end G294

/- Slices of slices of bytes in memory: read, lying in an interval of blocks, and of the call's own with no two rows in one block. -/
namespace G294
open Go Go.RowKit

/-- the value v is seen in w as the rows L -/
def SeenM (w : World) (v : Value) (L : Mat) : Prop := ∃ vs : List Value, vs.length = L.length ∧ Seen w v vs ∧ ∀ i u, vs[i]? = some u → Seen w u (bys (L.getD i []))
section
variable {w w' : World} {v : Value} {L : Mat} {lo hi a b : Nat} {E EE : TypeId} {vs : List Value}
theorem SeenM.below (h : SeenM w v L) (hb : Below w.heap.size w w') : SeenM w' v L := by
  obtain ⟨vs, h1, h2, h3⟩ := h
  exact ⟨vs, h1, h2.below hb, fun i u hu => (h3 i u hu).below hb⟩
theorem SeenM.touch (h : SeenM w v L) (t : TurnIn 0 0 w w') : SeenM w' v L := h.below t.to_below
theorem SeenM.len (h : SeenM w v L) : ∃ A c, v = .slice A L.length c ∧ L.length ≤ c ∧ c ≤ maxLen := by
  obtain ⟨vs, h1, ⟨A, c, h2, h3, h4, _⟩, _⟩ := h
  exact ⟨A, c, by rw [h2, h1], by omega, h4⟩
/-- row i -/
theorem SeenM.row (h : SeenM w v L) (i : Nat) (hi : i < L.length) : ∃ bb off c u, v = .slice (some ⟨bb, off, none⟩) L.length c ∧ L.length ≤ c ∧ c ≤ maxLen ∧ bb < w.heap.size ∧ w.cell? ⟨bb, off + i, none⟩ = some u ∧ Seen w u (bys (L.getD i [])) := by
  obtain ⟨vs, h1, ⟨A, c, h2, h3, h4, h5⟩, h6⟩ := h
  obtain ⟨bb, off, rfl, hb, hc⟩ := h5 (by omega)
  have hi' : i < vs.length := by omega
  have e : vs[i]? = some vs[i] := List.getElem?_eq_getElem hi'
  exact ⟨bb, off, c, vs[i], by rw [h2, h1], by omega, h4, hb, hc i _ e, h6 i _ e⟩
/-- entry i, j -/
theorem SeenM.cell (h : SeenM w v L) (i j : Nat) (hi : i < L.length) (hj : j < (L.getD i []).length) : ∃ bb off c b' off' c', v = .slice (some ⟨bb, off, none⟩) L.length c ∧ L.length ≤ maxLen ∧ bb < w.heap.size ∧ b' < w.heap.size ∧
    w.cell? ⟨bb, off + i, none⟩ = some (.slice (some ⟨b', off', none⟩) (L.getD i []).length c') ∧ (L.getD i []).length ≤ maxLen ∧ w.cell? ⟨b', off' + j, none⟩ = some (.int .u8 ((ent L i j).toNat : Int)) := by
  obtain ⟨bb, off, c, u, h1, h2, h3, h4, h5, ⟨A, c', h6, h7, h8, h9⟩⟩ := h.row i hi
  rw [bys_length] at h6 h7 h9
  obtain ⟨b', off', rfl, hb', hc'⟩ := h9 (by omega)
  refine ⟨bb, off, c, b', off', c', h1, by omega, h4, hb', by rw [h5, h6], by omega, ?_⟩
  rw [hc' j _ (bys_get _ j hj)]
  have e : ent L i j = (L.getD i [])[j] := by
    unfold ent
    generalize L.getD i [] = l at hj ⊢
    simp [List.getD, hj]
  rw [e]

theorem owns_turn {n : Nat} {xs : List Value} (h : w.ownsRow lo E 1 v n xs) (h2 : ∀ g, v.ownBlock = some g → g < hi) (t : TurnIn a b w w') (d : hi ≤ a ∨ b ≤ lo) : w'.ownsRow lo E 1 v n xs := by
  refine ⟨h.1, ?_⟩
  rcases h.2 with hn | ⟨g, cap, cur, rfl, hbg, hg, rest⟩
  · exact .inl hn
  · refine .inr ⟨g, cap, cur, rfl, hbg, ?_, rest⟩
    have := h2 g rfl
    rw [t.block g (Array.getElem?_eq_some_iff.1 hg).1 (by omega)]
    exact hg
theorem OwnBytes.wider {l : List UInt8} {lo' hi' : Nat} (h : OwnBytes E w lo hi v l) (h1 : lo' ≤ lo) (h2 : hi ≤ hi') (h3 : hi' ≤ w.heap.size) : OwnBytes E w lo' hi' v l :=
  ⟨own_base h.1 h1, h3, fun g hg => by have := h.2.2 g hg; omega⟩
theorem OwnBytes.other {l : List UInt8} {row : Option Nat} (h : OwnBytes E w lo hi v l) (hg : w.grownBy w' row) (hne : ∀ g, v.ownBlock = some g → row ≠ some g) : OwnBytes E w' lo hi v l :=
  ⟨own_other h.1 hg hne, Nat.le_trans h.2.1 hg.size, h.2.2⟩

/-- rows of the call's own, in blocks from lo to hi, no two in one block; vs: the rows' values -/
structure OwnM (E EE : TypeId) (w : World) (lo hi : Nat) (v : Value) (L : Mat) (vs : List Value) : Prop where
  row : w.ownsRow lo EE 1 v L.length vs
  top : hi ≤ w.heap.size
  out : ∀ g, v.ownBlock = some g → g < hi
  rows : ∀ (i : Nat) (u : Value), vs[i]? = some u → OwnBytes E w lo hi u (L.getD i [])
  apart : ∀ (i : Nat) (u : Value) (g : Nat), vs[i]? = some u → u.ownBlock = some g → v.ownBlock ≠ some g ∧ ∀ (j : Nat) (u' : Value), vs[j]? = some u' → u'.ownBlock = some g → j = i
theorem OwnM.vlen (h : OwnM E EE w lo hi v L vs) : vs.length = L.length := by have := h.row.1; omega
theorem OwnM.keep (h : OwnM E EE w lo hi v L vs) (t : TurnIn a b w w') (d : hi ≤ a ∨ b ≤ lo) : OwnM E EE w' lo hi v L vs :=
  ⟨owns_turn h.row h.out t d, Nat.le_trans h.top t.size, h.out, fun i u hu => (h.rows i u hu).keep t d, h.apart⟩
theorem OwnM.seen (h : OwnM E EE w lo hi v L vs) : SeenM w v L := ⟨vs, h.vlen, Seen.of_own h.row, fun i u hu => (h.rows i u hu).seen⟩
theorem OwnM.wider {lo' hi' : Nat} (h : OwnM E EE w lo hi v L vs) (h1 : lo' ≤ lo) (h2 : hi ≤ hi') (h3 : hi' ≤ w.heap.size) : OwnM E EE w lo' hi' v L vs :=
  ⟨own_base h.row h1, h3, fun g hg => by have := h.out g hg; omega, fun i u hu => (h.rows i u hu).wider h1 h2 h3, h.apart⟩
theorem OwnM.at (h : OwnM E EE w lo hi v L vs) (i : Nat) (hi' : i < L.length) : ∃ u, vs[i]? = some u ∧ OwnBytes E w lo hi u (L.getD i []) := by
  have hl := h.vlen
  have e : vs[i]? = some (vs[i]'(by omega)) := List.getElem?_eq_getElem (by omega)
  exact ⟨_, e, h.rows i _ e⟩
theorem OwnM.congr {L' : Mat} (h : OwnM E EE w lo hi v L vs) (e : L = L') : OwnM E EE w lo hi v L' vs := e ▸ h
theorem OwnM.nil (E EE : TypeId) (w : World) (lo : Nat) : OwnM E EE w lo w.heap.size (.slice none 0 0) [] [] :=
  ⟨World.ownsRow_nil _ _ _ _, Nat.le_refl _, fun g h => by simp [Value.ownBlock] at h, fun i u h => by simp at h, fun i u g h => by simp at h⟩
theorem getD_set {α : Type} (l : List α) (k i : Nat) (x d : α) (hk : k < l.length) : (l.set k x).getD i d = if i = k then x else l.getD i d := by
  simp only [List.getD, List.getElem?_set]
  by_cases h : k = i
  · subst h; simp [hk]
  · have h' : ¬ i = k := fun e => h e.symm
    simp [h, h']
theorem get_set {α : Type} {l : List α} {k i : Nat} {x u : α} (h : (l.set k x)[i]? = some u) : (i = k ∧ u = x) ∨ (i ≠ k ∧ l[i]? = some u) := by
  rw [List.getElem?_set] at h
  by_cases e : k = i
  · subst e
    simp only [if_true] at h
    split at h
    · exact .inl ⟨rfl, (Option.some.inj h).symm⟩
    · simp at h
  · rw [if_neg e] at h
    exact .inr ⟨fun e' => e e'.symm, h⟩
/-- a new row is stored -/
theorem OwnM.put {g n cap k : Nat} {u : Value} {r : List UInt8} (h : OwnM E EE w lo hi (.slice (some ⟨g, 0, none⟩) n cap) L vs) (hn : n = L.length) (hk : k < L.length)
    (hu : OwnBytes E w a b u r) (h1 : hi ≤ a) (h2 : lo ≤ a) (h3 : a ≤ b) : OwnM E EE (w.setCell ⟨g, k, none⟩ u) lo b (.slice (some ⟨g, 0, none⟩) n cap) (L.set k r) (vs.set k u) := by
  subst hn
  have hst := h.row.stored k u
  have hg := h.out g rfl
  have hug : ∀ g', u.ownBlock = some g' → a ≤ g' ∧ g' < b := fun g' e => ⟨(hu.1.lt g' e).1, hu.2.2 g' e⟩
  have hold : ∀ (i : Nat) (u' : Value) (g' : Nat), vs[i]? = some u' → u'.ownBlock = some g' → g' < hi := fun i u' g' e1 e2 => (h.rows i u' e1).2.2 g' e2
  have hu' : OwnBytes E (w.setCell ⟨g, k, none⟩ u) lo b u r := (hu.other hst.2 (fun g' e => by have := hug g' e; simp; omega)).wider h2 (Nat.le_refl _) (by simpa using hu.2.1)
  refine ⟨by simpa using hst.1, by simpa using hu.2.1, fun g' e => by simp [Value.ownBlock] at e; omega, ?_, ?_⟩
  · intro i u' hi'
    rw [getD_set _ _ _ _ _ hk]
    rcases get_set hi' with ⟨rfl, rfl⟩ | ⟨hne, hi'⟩
    · simpa using hu'
    · rw [if_neg hne]
      exact ((h.rows i u' hi').other hst.2 (fun g' e => fun e2 => (h.apart i u' g' hi' e).1 (by simpa [Value.ownBlock] using e2))).wider (Nat.le_refl _) (by omega) (by simpa using hu.2.1)
  · intro i u' g' hi' hg'
    rcases get_set hi' with ⟨rfl, rfl⟩ | ⟨hne, hi2⟩
    · have := hug g' hg'
      refine ⟨by simp [Value.ownBlock]; omega, fun j u'' hj hg'' => ?_⟩
      rcases get_set hj with ⟨rfl, rfl⟩ | ⟨hne2, hj⟩
      · rfl
      · have := hold j u'' g' hj hg''; omega
    · refine ⟨(h.apart i u' g' hi2 hg').1, fun j u'' hj hg'' => ?_⟩
      rcases get_set hj with ⟨rfl, rfl⟩ | ⟨hne2, hj⟩
      · have := hug g' hg''; have := hold i u' g' hi2 hg'; omega
      · exact (h.apart i u' g' hi2 hg').2 j u'' hj hg''
/-- one row turns into another of the same length, in place -/
theorem OwnM.row_turn {k : Nat} {u : Value} {r : List UInt8} (h : OwnM E EE w lo hi v L vs) (hk : k < L.length) (hu : vs[k]? = some u) (hg : w.grownBy w' u.ownBlock)
    (ho : w'.ownsRow lo E 1 u r.length (bys r)) : OwnM E EE w' lo hi v (L.set k r) vs := by
  refine ⟨?_, Nat.le_trans h.top hg.size, h.out, ?_, h.apart⟩
  · rw [List.length_set]
    refine own_other h.row hg (fun g e1 e2 => (h.apart k u g hu e2).1 e1)
  · intro i u' hi'
    rw [getD_set _ _ _ _ _ hk]
    by_cases e : i = k
    · subst e
      obtain rfl : u = u' := Option.some.inj (hu.symm.trans hi')
      rw [if_pos rfl]
      exact ⟨ho, Nat.le_trans h.top hg.size, (h.rows i u hi').2.2⟩
    · rw [if_neg e]
      exact (h.rows i u' hi').other hg (fun g e1 e2 => e ((h.apart k u g hu e2).2 i u' hi' e1))
/-- one entry is stored -/
theorem OwnM.store {k j bb m cap' : Nat} {x : UInt8} (h : OwnM E EE w lo hi v L vs) (hk : k < L.length) (hu : vs[k]? = some (.slice (some ⟨bb, 0, none⟩) m cap')) :
    OwnM E EE (w.setCell ⟨bb, j, none⟩ (.int .u8 (x.toNat : Int))) lo hi v (L.set k ((L.getD k []).set j x)) vs := by
  have ho := (h.rows k _ hu).1
  have hm : m = (L.getD k []).length := by
    rcases ho.2 with ⟨hh, _⟩ | ⟨g', c', cur, hh, _⟩
    · simp at hh
    · simp at hh; exact hh.2.1
  rw [← hm] at ho
  have hst := ho.stored j (.int .u8 (x.toNat : Int))
  refine h.row_turn hk hu hst.2 ?_
  rw [List.length_set, ← hm]
  have e : bys ((L.getD k []).set j x) = (bys (L.getD k [])).set j (.int .u8 (x.toNat : Int)) := by simp [bys, List.map_set]
  rw [e]
  exact hst.1
/-- the value of a row that is not empty -/
theorem OwnBytes.slice {l : List UInt8} (h : OwnBytes E w lo hi v l) (hl : 0 < l.length) : ∃ g cap, v = .slice (some ⟨g, 0, none⟩) l.length cap ∧ lo ≤ g ∧ g < hi ∧ l.length ≤ cap ∧ cap ≤ maxLen := by
  rcases h.1.2 with ⟨_, hn⟩ | ⟨g, cap, cur, hh, hb, hg, hc1, hc2, _⟩
  · omega
  · exact ⟨g, cap, hh, hb, h.2.2 g (by rw [hh]; rfl), hc1, hc2⟩
theorem OwnM.slice (h : OwnM E EE w lo hi v L vs) (hl : 0 < L.length) : ∃ g cap, v = .slice (some ⟨g, 0, none⟩) L.length cap ∧ lo ≤ g ∧ g < hi ∧ L.length ≤ cap ∧ cap ≤ maxLen := by
  rcases h.row.2 with ⟨_, hn⟩ | ⟨g, cap, cur, hh, hb, hg, hc1, hc2, _⟩
  · omega
  · exact ⟨g, cap, hh, hb, h.out g (by rw [hh]; rfl), hc1, hc2⟩
theorem OwnM.isSlice (h : OwnM E EE w lo hi v L vs) : ∃ A n c, v = .slice A n c := by
  rcases h.row.2 with ⟨hh, _⟩ | ⟨g, cap, cur, hh, _⟩ <;> exact ⟨_, _, _, hh⟩
theorem OwnM.cellAt {g n cap k : Nat} {u : Value} (h : OwnM E EE w lo hi (.slice (some ⟨g, 0, none⟩) n cap) L vs) (hk : vs[k]? = some u) : w.cell? ⟨g, k, none⟩ = some u := by
  have hc := h.row.cells (g := g) rfl k u hk
  rwa [Addr.add_lit, Nat.zero_add] at hc
theorem OwnM.frozenAt {g n cap : Nat} (h : OwnM E EE w lo hi (.slice (some ⟨g, 0, none⟩) n cap) L vs) (k : Nat) : w.frozen? ⟨g, k, none⟩ = false := by
  have hn : n = L.length := by
    rcases h.row.2 with ⟨hh, _⟩ | ⟨g', c', cur, hh, _⟩
    · simp at hh
    · simp at hh; exact hh.2.1
  exact (hn ▸ h.row : w.ownsRow lo EE 1 (.slice (some ⟨g, 0, none⟩) n cap) n vs).frozenAt k
theorem OwnBytes.cellAt {g n cap k : Nat} {l : List UInt8} (h : OwnBytes E w lo hi (.slice (some ⟨g, 0, none⟩) n cap) l) (hk : k < l.length) : w.cell? ⟨g, k, none⟩ = some (.int .u8 ((l.getD k 0).toNat : Int)) := by
  have hc := h.1.cells (g := g) rfl k _ (bys_get l k hk)
  rw [Addr.add_lit, Nat.zero_add] at hc
  rw [hc]; simp [List.getD, hk]
theorem OwnBytes.frozenAt {g n cap : Nat} {l : List UInt8} (h : OwnBytes E w lo hi (.slice (some ⟨g, 0, none⟩) n cap) l) (k : Nat) : w.frozen? ⟨g, k, none⟩ = false := by
  have hn : n = l.length := by
    rcases h.1.2 with ⟨hh, _⟩ | ⟨g', c', cur, hh, _⟩
    · simp at hh
    · simp at hh; exact hh.2.1
  exact (hn ▸ h.1 : w.ownsRow lo E 1 (.slice (some ⟨g, 0, none⟩) n cap) n (bys l)).frozenAt k
theorem bys_zero (c : Nat) (f : Nat → UInt8) (h : ∀ j, j < c → f j = 0) : bys (mkRow c f) = List.replicate c (.int .u8 0) := by
  rw [mkRow_congr (g := fun _ => 0) h]
  simp [bys, mkRow, List.map_const']
theorem OwnM.drewN (h : OwnM E EE w lo hi v L vs) (q : Nat) : OwnM E EE (w.drewN q) lo hi v L vs := h.keep (a := 0) (b := 0) ⟨rfl, rfl, rfl, Nat.le_refl _, fun _ _ _ => rfl⟩ (by omega)
theorem mkM_store (r c : Nat) (F : Ents) (k j : Nat) (x : UInt8) (hk : k < r) : (mkM r c F).set k (((mkM r c F).getD k []).set j x) = mkM r c (fun i jj => if i = k ∧ jj = j then x else F i jj) := by
  rw [mkM_getD _ _ _ _ hk, mkRow_set, mkM_set]
  apply mkM_congr
  intro i jj hi hj
  by_cases h1 : i = k
  · subst h1; simp
  · simp [h1]
theorem OwnM.storeF {r c k j bb m cap' : Nat} {F : Ents} {x : UInt8} (h : OwnM E EE w lo hi v (mkM r c F) vs) (hk : k < r) (hu : vs[k]? = some (.slice (some ⟨bb, 0, none⟩) m cap')) :
    OwnM E EE (w.setCell ⟨bb, j, none⟩ (.int .u8 (x.toNat : Int))) lo hi v (mkM r c fun i jj => if i = k ∧ jj = j then x else F i jj) vs :=
  (h.store (by simpa using hk) hu).congr (mkM_store r c F k j x hk)
/-- row k of rows of the call's own -/
theorem OwnM.rowF {r c : Nat} {F : Ents} (h : OwnM E EE w lo hi v (mkM r c F) vs) (k : Nat) (hk : k < r) (hc : 0 < c) : ∃ bb cp, vs[k]? = some (.slice (some ⟨bb, 0, none⟩) c cp) ∧ lo ≤ bb ∧ bb < hi ∧ v.ownBlock ≠ some bb ∧ c ≤ cp ∧ cp ≤ maxLen ∧
    (∀ j, w.frozen? ⟨bb, j, none⟩ = false) ∧ ∀ j, j < c → w.cell? ⟨bb, j, none⟩ = some (.int .u8 ((F k j).toNat : Int)) := by
  obtain ⟨u, hu, ho⟩ := h.at k (by simpa using hk)
  rw [mkM_getD _ _ _ _ hk] at ho
  obtain ⟨bb, cp, rfl, h1, h2, h3, h4⟩ := ho.slice (by simpa using hc)
  rw [mkRow_length] at ho hu h3
  refine ⟨bb, cp, hu, h1, h2, (h.apart k _ bb hu rfl).1, h3, h4, ho.frozenAt, fun j hj => ?_⟩
  have := ho.cellAt (k := j) (by simpa using hj)
  rwa [mkRow_getD _ _ _ hj] at this
theorem OwnM.sliceF {r c : Nat} {F : Ents} (h : OwnM E EE w lo hi v (mkM r c F) vs) (hr : 0 < r) : ∃ g cp, v = .slice (some ⟨g, 0, none⟩) r cp ∧ lo ≤ g ∧ g < hi ∧ r ≤ cp ∧ cp ≤ maxLen := by
  have := h.slice (by simpa using hr)
  simpa using this

/-- two rows change places -/
theorem OwnM.swap {g n cap p q : Nat} {up uq : Value} {L' : Mat} (h : OwnM E EE w lo hi (.slice (some ⟨g, 0, none⟩) n cap) L vs) (hn : n = L.length) (hp : vs[p]? = some up) (hq : vs[q]? = some uq)
    (hl : L'.length = L.length) (hL : ∀ i, i < L.length → L'.getD i [] = L.getD (sw p q i) []) : OwnM E EE ((w.setCell ⟨g, p, none⟩ uq).setCell ⟨g, q, none⟩ up) lo hi (.slice (some ⟨g, 0, none⟩) n cap) L' ((vs.set p uq).set q up) := by
  subst hn
  have h1 := h.row.stored p uq
  have h2 := h1.1.stored q up
  have hpl : p < vs.length := (List.getElem?_eq_some_iff.1 hp).1
  have hql : q < vs.length := (List.getElem?_eq_some_iff.1 hq).1
  have hvl := h.vlen
  have key : ∀ (i : Nat) (u : Value), ((vs.set p uq).set q up)[i]? = some u → i < L.length ∧ vs[sw p q i]? = some u := by
    intro i u hi'
    have hil : i < L.length := by have := (List.getElem?_eq_some_iff.1 hi').1; simp at this; omega
    refine ⟨hil, ?_⟩
    unfold sw
    rcases get_set hi' with ⟨rfl, rfl⟩ | ⟨hne, hi'⟩
    · by_cases e : i = p
      · subst e; rw [if_pos rfl]; exact hp
      · rw [if_neg e, if_pos rfl]; exact hp
    · rcases get_set hi' with ⟨rfl, rfl⟩ | ⟨hne2, hi'⟩
      · rw [if_pos rfl]; exact hq
      · rw [if_neg hne2, if_neg hne]; exact hi'
  have hsw : ∀ i j, sw p q i = sw p q j → i = j := by
    intro i j; unfold sw
    intro e
    split at e <;> split at e <;> (try split at e) <;> (try split at e) <;> omega
  have hkeep : ∀ (i : Nat) (u : Value) (r : List UInt8), vs[i]? = some u → OwnBytes E w lo hi u r → OwnBytes E ((w.setCell ⟨g, p, none⟩ uq).setCell ⟨g, q, none⟩ up) lo hi u r := by
    intro i u r hi' ho
    have hne : ∀ g', u.ownBlock = some g' → (some g : Option Nat) ≠ some g' := fun g' e e2 => (h.apart i u g' hi' e).1 (by simpa [Value.ownBlock] using e2)
    exact (ho.other h1.2 hne).other h2.2 hne
  refine ⟨by rw [hl]; exact h2.1, by simpa using h.top, h.out, ?_, ?_⟩
  · intro i u hi'
    obtain ⟨a1, a2⟩ := key i u hi'
    rw [hL i a1]
    exact hkeep _ u _ a2 (h.rows _ u a2)
  · intro i u g' hi' hg'
    obtain ⟨a1, a2⟩ := key i u hi'
    refine ⟨(h.apart _ u g' a2 hg').1, fun j u'' hj hg'' => ?_⟩
    obtain ⟨b1, b2⟩ := key j u'' hj
    exact hsw _ _ ((h.apart _ u g' a2 hg').2 _ u'' b2 hg'')

theorem own_isSlice {base n : Nat} {e : TypeId} {xs : List Value} (h : w.ownsRow base e 1 v n xs) : ∃ A n' c, v = .slice A n' c := by
  rcases h.2 with ⟨hh, _⟩ | ⟨g, cap, cur, hh, _⟩ <;> exact ⟨_, _, _, hh⟩
theorem cell_past {W w1 : World} {row : Option Nat} {B : Nat} (k : TurnIn 0 0 w W) (hg : W.grownBy w1 row) (hne : row ≠ some B) (hB : B < w.heap.size) (o : Nat) : w1.cell? ⟨B, o, none⟩ = w.cell? ⟨B, o, none⟩ := by
  have h1 : W.heap[B]? = w.heap[B]? := k.block B hB (by omega)
  have h2 : w1.heap[B]? = W.heap[B]? := hg.block B (by have := k.size; omega) (fun e => hne e.symm)
  exact World.cell?_of_block (h2.trans h1)
theorem frozen_past {W w1 : World} {row : Option Nat} {B : Nat} (k : TurnIn 0 0 w W) (hg : W.grownBy w1 row) (hne : row ≠ some B) (hB : B < w.heap.size) (o : Nat) : w1.frozen? ⟨B, o, none⟩ = w.frozen? ⟨B, o, none⟩ := by
  have h1 : W.heap[B]? = w.heap[B]? := k.block B hB (by omega)
  have h2 : w1.heap[B]? = W.heap[B]? := hg.block B (by have := k.size; omega) (fun e => hne e.symm)
  exact World.frozen?_of_block (h2.trans h1)
/-- a new row is appended -/
theorem OwnM.push {W w1 : World} {v' u : Value} {r : List UInt8} (h : OwnM E EE w lo hi v L vs) (k : TurnIn 0 0 w W) (hu : OwnBytes E W a b u r) (h1 : hi ≤ a) (h2 : lo ≤ a)
    (ho : w1.ownsRow lo EE 1 v' (L.length + 1) (vs ++ [u])) (hg : W.grownBy w1 v.ownBlock) (hv : v'.ownBlock = v.ownBlock ∨ v'.ownBlock = some W.heap.size) : OwnM E EE w1 lo w1.heap.size v' (L ++ [r]) (vs ++ [u]) := by
  have hW := h.keep k (by omega)
  have hvl := h.vlen
  have hs := hg.size
  have hub : ∀ g, u.ownBlock = some g → a ≤ g ∧ g < W.heap.size := fun g e => ⟨(hu.1.lt g e).1, (hu.1.lt g e).2⟩
  have hob : ∀ g, v.ownBlock = some g → g < hi := h.out
  have key : ∀ (i : Nat) (x : Value), (vs ++ [u])[i]? = some x → (i < L.length ∧ vs[i]? = some x) ∨ (i = L.length ∧ x = u) := by
    intro i x hi'
    rcases Nat.lt_or_ge i vs.length with hlt | hge
    · rw [List.getElem?_append_left hlt] at hi'; exact .inl ⟨by omega, hi'⟩
    · rw [List.getElem?_append_right hge] at hi'
      have hx := (List.getElem?_eq_some_iff.1 hi').1
      simp at hx
      have : i - vs.length = 0 := by omega
      rw [this] at hi'
      simp at hi'
      exact .inr ⟨by omega, hi'.symm⟩
  refine ⟨by simpa using ho, Nat.le_refl _, fun g e => (ho.lt g e).2, ?_, ?_⟩
  · intro i x hi'
    rcases key i x hi' with ⟨h3, h4⟩ | ⟨rfl, rfl⟩
    · have e : (L ++ [r]).getD i [] = L.getD i [] := by simp [List.getD, List.getElem?_append_left h3]
      rw [e]
      exact ((hW.rows i x h4).other hg (fun g e1 e2 => (hW.apart i x g h4 e1).1 e2)).wider (Nat.le_refl _) (by have := hW.top; omega) (Nat.le_refl _)
    · have e : (L ++ [r]).getD L.length [] = r := by simp [List.getD]
      rw [e]
      exact (hu.other hg (fun g e1 e2 => by have := hub g e1; have := hob g e2; omega)).wider h2 (by have := hu.2.1; omega) (Nat.le_refl _)
  · intro i x g hi' hgx
    have hlt : g < W.heap.size := by
      rcases key i x hi' with ⟨_, h4⟩ | ⟨_, rfl⟩
      · exact ((hW.rows i x h4).1.lt g hgx).2
      · exact (hub g hgx).2
    have hne : v.ownBlock ≠ some g := by
      rcases key i x hi' with ⟨_, h4⟩ | ⟨_, rfl⟩
      · exact (hW.apart i x g h4 hgx).1
      · intro e; have := hub g hgx; have := hob g e; omega
    refine ⟨?_, ?_⟩
    · rcases hv with e | e <;> rw [e]
      · exact hne
      · simp; omega
    · intro j y hj hgy
      rcases key i x hi' with ⟨a1, a2⟩ | ⟨a1, a2⟩ <;> rcases key j y hj with ⟨b1, b2⟩ | ⟨b1, b2⟩
      · exact (hW.apart i x g a2 hgx).2 j y b2 hgy
      · subst b2; have := hub g hgy; have := (hW.rows i x a2).2.2 g hgx; omega
      · subst a2; have := hub g hgx; have := (hW.rows j y b2).2.2 g hgy; omega
      · omega

/-- read, and lying in blocks from lo to hi -/
structure LieM (w : World) (lo hi : Nat) (v : Value) (L : Mat) : Prop where
  top : hi ≤ w.heap.size
  ex : ∃ vs : List Value, vs.length = L.length ∧ (Seen w v vs ∧ ∀ g, v.ownBlock = some g → lo ≤ g ∧ g < hi) ∧ ∀ i u, vs[i]? = some u → Seen w u (bys (L.getD i [])) ∧ ∀ g, u.ownBlock = some g → lo ≤ g ∧ g < hi
theorem seen_turn {xs : List Value} (h : Seen w v xs) (h2 : ∀ g, v.ownBlock = some g → lo ≤ g ∧ g < hi) (t : TurnIn a b w w') (d : hi ≤ a ∨ b ≤ lo) : Seen w' v xs := by
  obtain ⟨A, c, rfl, h3, h4, h5⟩ := h
  refine ⟨A, c, rfl, h3, h4, fun hn => ?_⟩
  obtain ⟨bb, off, rfl, hb, hc⟩ := h5 hn
  have := h2 bb rfl
  have hs := t.size
  exact ⟨bb, off, rfl, by omega, fun i u hu => (World.cell?_of_block (t.block bb hb (by omega))).trans (hc i u hu)⟩
theorem LieM.keep (h : LieM w lo hi v L) (t : TurnIn a b w w') (d : hi ≤ a ∨ b ≤ lo) : LieM w' lo hi v L := by
  obtain ⟨h1, vs, h2, h3, h4⟩ := h
  exact ⟨Nat.le_trans h1 t.size, vs, h2, ⟨seen_turn h3.1 h3.2 t d, h3.2⟩, fun i u hu => ⟨seen_turn (h4 i u hu).1 (h4 i u hu).2 t d, (h4 i u hu).2⟩⟩
theorem LieM.seen (h : LieM w lo hi v L) : SeenM w v L := by
  obtain ⟨h1, vs, h2, h3, h4⟩ := h
  exact ⟨vs, h2, h3.1, fun i u hu => (h4 i u hu).1⟩
theorem OwnM.lie (h : OwnM E EE w lo hi v L vs) : LieM w lo hi v L :=
  ⟨h.top, vs, h.vlen, ⟨Seen.of_own h.row, fun g e => ⟨(h.row.lt g e).1, h.out g e⟩⟩, fun i u hu => ⟨(h.rows i u hu).seen, fun g e => ⟨((h.rows i u hu).1.lt g e).1, (h.rows i u hu).2.2 g e⟩⟩⟩
end

/-- new rows are returned -/
def RetM (E EE : TypeId) (w : World) (L : Mat) (e : Ending) (w' : World) : Prop := ∃ v vs, e = .returned v ∧ OwnM E EE w' w.heap.size w'.heap.size v L vs ∧ TurnIn 0 0 w w'
/-- a struct with new rows -/
def RetMat (E EE : TypeId) (w : World) (L : Mat) (e : Ending) (w' : World) : Prop := ∃ v vs, e = .returned (.agg #[v]) ∧ OwnM E EE w' w.heap.size w'.heap.size v L vs ∧ TurnIn 0 0 w w'
def RetMatOk (E EE : TypeId) (w : World) (L : Mat) (ok : Bool) (e : Ending) (w' : World) : Prop := ∃ v vs, e = .returned (.tuple #[.agg #[v], .bool ok]) ∧ OwnM E EE w' w.heap.size w'.heap.size v L vs ∧ TurnIn 0 0 w w'
/-- a struct with rows that lie in new blocks -/
def RetLie (w : World) (L : Mat) (e : Ending) (w' : World) : Prop := ∃ v, e = .returned (.agg #[v]) ∧ LieM w' w.heap.size w'.heap.size v L ∧ TurnIn 0 0 w w'
def RetLieOk (w : World) (L : Mat) (ok : Bool) (e : Ending) (w' : World) : Prop := ∃ v, e = .returned (.tuple #[.agg #[v], .bool ok]) ∧ LieM w' w.heap.size w'.heap.size v L ∧ TurnIn 0 0 w w'
def RetIntOk (w : World) (n : Int) (ok : Bool) (e : Ending) (w' : World) : Prop := e = .returned (.tuple #[.int .i64 n, .bool ok]) ∧ TurnIn 0 0 w w'

theorem turn_of_below {w w1 w' : World} (hb : Below w.heap.size w w1) (t : TurnIn 0 0 w1 w') : TurnIn 0 0 w w' := TurnIn.of_below (t.base hb hb.size (by omega))
theorem RetM.base {E EE : TypeId} {w w1 w' : World} {L : Mat} {e : Ending} (h : RetM E EE w1 L e w') (hb : Below w.heap.size w w1) : RetM E EE w L e w' := by
  obtain ⟨v, vs, he, h1, h2⟩ := h
  exact ⟨v, vs, he, h1.wider hb.size (Nat.le_refl _) (Nat.le_refl _), turn_of_below hb h2⟩
/-- entry i, j of a matrix that is given by its entries -/
theorem SeenM.cellF {w : World} {v : Value} {r c : Nat} {F : Ents} (h : SeenM w v (mkM r c F)) (i j : Nat) (hi : i < r) (hj : j < c) : ∃ bb off cp b' off' c', v = .slice (some ⟨bb, off, none⟩) r cp ∧ r ≤ maxLen ∧ bb < w.heap.size ∧ b' < w.heap.size ∧
    w.cell? ⟨bb, off + i, none⟩ = some (.slice (some ⟨b', off', none⟩) c c') ∧ c ≤ maxLen ∧ w.cell? ⟨b', off' + j, none⟩ = some (.int .u8 ((F i j).toNat : Int)) := by
  obtain ⟨bb, off, cp, b', off', c', h1, h2, h3, h4, h5, h6, h7⟩ := h.cell i j (by simpa using hi) (by rw [mkM_getD _ _ _ _ hi]; simpa using hj)
  rw [mkM_length] at h1 h2
  rw [mkM_getD _ _ _ _ hi, mkRow_length] at h5 h6
  rw [ent_mkM _ _ _ _ _ hi hj] at h7
  exact ⟨bb, off, cp, b', off', c', h1, h2, h3, h4, h5, h6, h7⟩
theorem SeenM.rowF {w : World} {v : Value} {r c : Nat} {F : Ents} (h : SeenM w v (mkM r c F)) (i : Nat) (hi : i < r) : ∃ bb off cp A c', v = .slice (some ⟨bb, off, none⟩) r cp ∧ r ≤ maxLen ∧ bb < w.heap.size ∧
    w.cell? ⟨bb, off + i, none⟩ = some (.slice A c c') ∧ c ≤ maxLen ∧ Seen w (.slice A c c') (bys (mkRow c (F i))) := by
  obtain ⟨bb, off, cp, u, h1, h2, h3, h4, h5, h6⟩ := h.row i (by simpa using hi)
  rw [mkM_length] at h1 h2
  rw [mkM_getD _ _ _ _ hi] at h6
  have h6' := h6
  obtain ⟨A, c', h7, h8, h9, _⟩ := h6
  simp only [bys_length, mkRow_length] at h7 h8
  rw [h7] at h5 h6'
  exact ⟨bb, off, cp, A, c', h1, by omega, h4, h5, by omega, h6'⟩

/-- marks of rows -/
def marksM : Nat → Mat → Mat
  | _, [] => []
  | k, r :: L => marks k r.length :: marksM (k + r.length) L
def sizM : Mat → Nat
  | [] => 0
  | r :: L => r.length + sizM L
theorem marksM_length (L : Mat) : ∀ k, (marksM k L).length = L.length := by
  induction L with
  | nil => intro k; rfl
  | cons r L ih => intro k; simp [marksM, ih]
theorem sizM_take_succ (L : Mat) (i : Nat) (hi : i < L.length) : sizM (L.take (i + 1)) = sizM (L.take i) + (L.getD i []).length := by
  induction L generalizing i with
  | nil => simp at hi
  | cons r L ih =>
    cases i with
    | zero => simp [sizM]
    | succ i =>
      have := ih i (by simpa using hi)
      simp only [List.take_succ_cons, sizM, List.getD_cons_succ] at this ⊢
      omega
theorem sizM_take_le (L : Mat) (i : Nat) : sizM (L.take i) ≤ sizM L := by
  induction L generalizing i with
  | nil => simp
  | cons r L ih =>
    cases i with
    | zero => simp [sizM]
    | succ i => have := ih i; simp only [List.take_succ_cons, sizM]; omega
theorem marksM_getD (L : Mat) : ∀ (k i : Nat), i < L.length → (marksM k L).getD i [] = marks (k + sizM (L.take i)) (L.getD i []).length := by
  induction L with
  | nil => intro k i h; simp at h
  | cons r L ih =>
    intro k i h
    cases i with
    | zero => simp [marksM, sizM]
    | succ i =>
      have := ih (k + r.length) i (by simpa using h)
      simp only [marksM, List.getD_cons_succ, List.take_succ_cons, sizM, this]
      rw [Nat.add_assoc]
theorem sizM_le_mul (L : Mat) (c : Nat) (h : ∀ i, i < L.length → (L.getD i []).length ≤ c) : sizM L ≤ L.length * c := by
  induction L with
  | nil => simp [sizM]
  | cons r L ih =>
    have h0 := h 0 (by simp)
    have h1 := ih (fun i hi => by have := h (i + 1) (by simpa using hi); simpa using this)
    simp only [sizM, List.length_cons, Nat.add_mul, Nat.one_mul]
    simp at h0
    omega
end G294

/- newGrid: rows of a new grid, entry by entry, by whatever function value. -/
namespace G294
open Go Go.RowKit
/-- the function value g with what it captured hands back F i j at i, j; it may draw; it turns and lays nothing -/
def GivesAt (P : Program) (g : Nat) (lb : Array Value) (r c : Nat) (F : Ents) (w : World) : Prop :=
  ∀ (W : World) (i j : Nat), Below w.heap.size w W → i < r → j < c → Calls P g (#[.int .i64 i, .int .i64 j] ++ lb) W fun e w' => e = .returned (.int .u8 ((F i j).toNat : Int)) ∧ ∃ q, w' = W.drewN q
theorem GivesAt.later {P : Program} {g : Nat} {lb : Array Value} {r c : Nat} {F : Ents} {w W : World} (h : GivesAt P g lb r c F w) (hb : Below w.heap.size w W) : GivesAt P g lb r c F W :=
  fun W' i j hb' hi hj => h W' i j (hb.trans (hb'.mono hb.size)) hi hj
theorem getD_rep (n i : Nat) : (List.replicate n ([] : List UInt8)).getD i [] = [] := by
  simp only [List.getD, List.getElem?_replicate]; split <;> rfl
theorem own_blank {E EE : TypeId} {w w1 : World} {r c : Nat} {F : Ents} {v : Value} (h : w1.ownsRow w.heap.size EE 1 v r (List.replicate r (.slice none 0 0))) :
    OwnM E EE w1 w.heap.size w1.heap.size v (mkM 0 c F ++ List.replicate (r - 0) []) (List.replicate r (.slice none 0 0)) := by
  refine ⟨by simpa using h, Nat.le_refl _, fun g e => (h.lt g e).2, ?_, ?_⟩
  · intro i u hu
    have : u = .slice none 0 0 := by
      rw [List.getElem?_replicate] at hu; split at hu <;> simp_all
    subst this
    have e : (mkM 0 c F ++ List.replicate (r - 0) []).getD i [] = [] := by
      have e0 : mkM 0 c F = [] := rfl
      rw [e0, List.nil_append]; exact getD_rep _ _
    rw [e]
    exact OwnBytes.nil _ _ _
  · intro i u g hu hg
    have : u = .slice none 0 0 := by
      rw [List.getElem?_replicate] at hu; split at hu <;> simp_all
    subst this
    simp [Value.ownBlock] at hg
theorem mkM_succ (k c : Nat) (F : Ents) : mkM (k + 1) c F = mkM k c F ++ [mkRow c (F k)] := by simp [mkM, List.range_succ]
theorem set_mid {α : Type} (l m : List α) (x y : α) (k : Nat) (hk : l.length = k) : (l ++ x :: m).set k y = l ++ y :: m := by
  subst hk; simp
theorem getD_mid {α : Type} (l m : List α) (x d : α) (k : Nat) (hk : l.length = k) : (l ++ x :: m).getD k d = x := by
  subst hk; simp [List.getD]
end G294
namespace Go.Proofs.Ytdbgkpmdimapdaa
open Go.RowKit G294

theorem infoRowB : (Try.prog.info? 22).map (fun i => (i.zero, i.size, i.bytes)) = some (some (.slice none 0 0), 1, 24) := by kernel_rfl

theorem infoElemB : (Try.prog.info? 5).map (fun i => (i.zero, i.size, i.bytes)) = some (some (.int .u8 0), 1, 1) := by kernel_rfl

end Go.Proofs.Ytdbgkpmdimapdaa

/- identityGrid and converted, on bytes and on field bytes. -/
namespace Go.Proofs.Ytdbgkpmdimapdaa
open Go.RowKit G294

end Go.Proofs.Ytdbgkpmdimapdaa

/- turned and identityGrid, on bytes and on field bytes. -/
namespace Go.Proofs.Ytdbgkpmdimapdaa
open Go.RowKit G294

end Go.Proofs.Ytdbgkpmdimapdaa

/- Contracts of chapter 1's functions, the program's and the model's: what each call returns; the world is left as it was. -/
namespace Go.Proofs.Ytdbgkpmdimapdaa
open Go.RowKit

theorem and1_u8 (b : Nat) (hb : b < 256) (k : Nat) : bits BinOp.and IntKind.u8 ((b : Int) / 2 ^ k) 1 = ((G294.bit b k : Nat) : Int) := by
  have h1 : ((b : Int) / 2 ^ k) = ((b / 2 ^ k : Nat) : Int) := by simp
  have h2 : b / 2 ^ k < 256 := Nat.lt_of_le_of_lt (Nat.div_le_self _ _) hb
  rw [h1]
  have := u8_and_nat (b / 2 ^ k) 1 h2 (by omega)
  rw [show ((1 : Nat) : Int) = 1 from rfl] at this
  rw [this]; simp [G294.bit, Nat.and_one_is_mod]
theorem and1_u16 (b : Nat) (hb : b < 65536) (k : Nat) : bits BinOp.and IntKind.u16 ((b : Int) / 2 ^ k) 1 = ((G294.bit b k : Nat) : Int) := by
  have h1 : ((b : Int) / 2 ^ k) = ((b / 2 ^ k : Nat) : Int) := by simp
  have h2 : b / 2 ^ k < 65536 := Nat.lt_of_le_of_lt (Nat.div_le_self _ _) hb
  rw [h1]
  have := u16_and_nat (b / 2 ^ k) 1 h2 (by omega)
  rw [show ((1 : Nat) : Int) = 1 from rfl] at this
  rw [this]; simp [G294.bit, Nat.and_one_is_mod]
theorem test_bit {b k : Nat} {x : Bool} (e : (((G294.bit b k : Nat) : Int) == 1) = x) : (x = true ∧ G294.bit b k = 1) ∨ (x = false ∧ ¬ G294.bit b k = 1) := by
  cases x
  · right; exact ⟨rfl, by intro h; simp [h] at e⟩
  · left; refine ⟨rfl, ?_⟩; have := beq_iff_eq.1 e; omega

theorem pp_yes {a b k : Nat} (ha : a < 256) (hb : b < 256) (hk : k < 8) (h : (bits BinOp.and IntKind.u8 ((b : Int) / 2 ^ k) 1 == 1) = true) :
    bits BinOp.xor IntKind.u16 ((G294.pp a b k : Nat) : Int) (IntKind.u16.wrap ((a : Int) * 2 ^ k)) = ((G294.pp a b (k + 1) : Nat) : Int) := by
  rw [and1_u8 b hb] at h
  have hbit : G294.bit b k = 1 := by have := beq_iff_eq.1 h; omega
  have h1 : ((a : Int) * 2 ^ k) = ((a * 2 ^ k : Nat) : Int) := by simp
  have h2 := G294.shl_lt ha hk
  rw [h1, IntKind.wrap_u16]
  have h3 : ((a * 2 ^ k : Nat) : Int) % 65536 = ((a * 2 ^ k : Nat) : Int) := by omega
  rw [h3, u16_xor_nat _ _ (G294.pp_lt ha b k (by omega)) h2]
  simp [G294.pp, hbit]
theorem pp_no {a b k : Nat} (hb : b < 256) (h : (bits BinOp.and IntKind.u8 ((b : Int) / 2 ^ k) 1 == 1) = false) :
    ((G294.pp a b k : Nat) : Int) = ((G294.pp a b (k + 1) : Nat) : Int) := by
  rw [and1_u8 b hb] at h
  have hbit : ¬ G294.bit b k = 1 := by intro e; simp [e] at h
  simp [G294.pp, hbit]

theorem rd_yes {p k : Nat} (hp : p < 65536) (hk : k < 7) (h : (bits BinOp.and IntKind.u16 ((p : Int) / 2 ^ (8 + k)) 1 == 1) = true) :
    bits BinOp.xor IntKind.u8 ((G294.rd p k : Nat) : Int) ((G294.tabN k : Nat) : Int) = ((G294.rd p (k + 1) : Nat) : Int) := by
  rw [and1_u16 p hp] at h
  have hbit : G294.bit p (8 + k) = 1 := by have := beq_iff_eq.1 h; omega
  rw [u8_xor_nat _ _ (G294.rd_lt p k) (G294.tabN_lt k)]
  simp [G294.rd, hbit]
theorem rd_no {p k : Nat} (hp : p < 65536) (h : (bits BinOp.and IntKind.u16 ((p : Int) / 2 ^ (8 + k)) 1 == 1) = false) :
    ((G294.rd p k : Nat) : Int) = ((G294.rd p (k + 1) : Nat) : Int) := by
  rw [and1_u16 p hp] at h
  have hbit : ¬ G294.bit p (8 + k) = 1 := by intro e; simp [e] at h
  simp [G294.rd, hbit]

theorem bit_i64 {n : Nat} (hn : n < 9223372036854775808) : bits BinOp.and IntKind.i64 (n : Int) 1 = ((n % 2 : Nat) : Int) := by
  have ho : ∀ a : Nat, a < 9223372036854775808 → (BitVec.ofInt 64 (a : Int)).toNat = a := fun a ha => by
    rw [BitVec.ofInt_natCast, BitVec.toNat_ofNat]; exact Nat.mod_eq_of_lt (by omega)
  show IntKind.i64.wrap ((BitVec.ofInt 64 (n : Int) &&& BitVec.ofInt 64 ((1 : Nat) : Int)).toNat : Int) = _
  rw [BitVec.toNat_and, ho n hn, ho 1 (by omega), IntKind.wrap_i64, Nat.and_one_is_mod]
  omega
end Go.Proofs.Ytdbgkpmdimapdaa

/- Contracts of chapter 1: LogOf, and the model's functions. -/
namespace Go.Proofs.Ytdbgkpmdimapdaa
open Go.RowKit

/-- what LogOf returns -/
def logV (a : Nat) : Value := if a = 0 then .tuple #[.int .i64 0, .bool false] else .tuple #[.int .i64 (G294.gl a : Nat), .bool true]

theorem xor_i64 {a b : Nat} (ha : a < 9223372036854775808) (hb : b < 9223372036854775808) : bits BinOp.xor IntKind.i64 (a : Int) (b : Int) = ((a ^^^ b : Nat) : Int) := by
  have ho : ∀ a : Nat, a < 9223372036854775808 → (BitVec.ofInt 64 (a : Int)).toNat = a := fun a ha => by
    rw [BitVec.ofInt_natCast, BitVec.toNat_ofNat]; exact Nat.mod_eq_of_lt (by omega)
  have hx : a ^^^ b < 2 ^ 63 := Nat.xor_lt_two_pow (by omega) (by omega)
  show IntKind.i64.wrap ((BitVec.ofInt 64 (a : Int) ^^^ BitVec.ofInt 64 (b : Int)).toNat : Int) = _
  rw [BitVec.toNat_xor, ho a ha, ho b hb, IntKind.wrap_i64]
  omega

/-- l1In -/
def inB (n lo hi : Int) : Bool := decide (lo ≤ n ∧ n ≤ hi)
set_option maxHeartbeats 400000 in
theorem l1In_any (n lo hi : Int) (w : World) :
    Calls Try.prog 69 #[.int .i64 n, .int .i64 lo, .int .i64 hi] w fun e w' => e = .returned (.bool (inB n lo hi)) ∧ w = w' := by
  by_cases h1 : lo ≤ n
  · have hd : decide (lo ≤ n) = true := by simpa using h1
    by_cases h2 : n ≤ hi
    · have HV : Hid (inB n lo hi = true) := by show inB n lo hi = true; simp [inB, h1, h2]
      go_enter Try.func69, Try.ntmps69
      go_wp2_with fail
      go_ret
      exact ⟨by rw [HV.out]; simp [h2], rfl⟩
    · have HV : Hid (inB n lo hi = false) := by show inB n lo hi = false; simp [inB, h2]
      go_enter Try.func69, Try.ntmps69
      go_wp2_with fail
      go_ret
      exact ⟨by rw [HV.out]; simp [h2], rfl⟩
  · have hd : decide (lo ≤ n) = false := by simpa using h1
    have HV : Hid (inB n lo hi = false) := by show inB n lo hi = false; simp [inB, h1]
    go_enter Try.func69, Try.ntmps69
    go_wp2_with fail
    go_ret
    exact ⟨by rw [HV.out]; rfl, rfl⟩
end Go.Proofs.Ytdbgkpmdimapdaa
