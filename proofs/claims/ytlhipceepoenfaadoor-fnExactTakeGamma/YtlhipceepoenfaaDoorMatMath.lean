/- Matrices over GF(256), as lists of rows and as functions of row and column: plain functions, no program. -/
import Derived.Test.YtlhipceepoenfaaDoorVecLaws
set_option linter.unusedSimpArgs false
set_option linter.unusedVariables false
namespace G294

abbrev Mat := List (List UInt8)
abbrev Ents := Nat → Nat → UInt8
def wid (L : Mat) : Nat := (L.getD 0 []).length
def goodM (L : Mat) : Bool := decide (1 ≤ L.length ∧ L.length ≤ 16 ∧ 1 ≤ wid L ∧ wid L ≤ 16 ∧ ∀ i, i < L.length → (L.getD i []).length = wid L)
def ent (L : Mat) : Ents := fun i j => (L.getD i []).getD j 0
def mkRow (c : Nat) (f : Nat → UInt8) : List UInt8 := (List.range c).map f
def mkM (r c : Nat) (F : Ents) : Mat := (List.range r).map fun i => mkRow c (F i)
@[simp] theorem mkRow_length (c : Nat) (f : Nat → UInt8) : (mkRow c f).length = c := by simp [mkRow]
@[simp] theorem mkM_length (r c : Nat) (F : Ents) : (mkM r c F).length = r := by simp [mkM]
theorem mkRow_getD (c : Nat) (f : Nat → UInt8) (j : Nat) (h : j < c) : (mkRow c f).getD j 0 = f j := by simp [mkRow, List.getD, h]
theorem mkRow_get (c : Nat) (f : Nat → UInt8) (j : Nat) (h : j < (mkRow c f).length) : (mkRow c f)[j] = f j := by simp [mkRow]
theorem mkM_getD (r c : Nat) (F : Ents) (i : Nat) (h : i < r) : (mkM r c F).getD i [] = mkRow c (F i) := by simp [mkM, List.getD, h]
theorem mkM_get? (r c : Nat) (F : Ents) (i : Nat) (h : i < r) : (mkM r c F)[i]? = some (mkRow c (F i)) := by simp [mkM, h]
theorem ent_mkM (r c : Nat) (F : Ents) (i j : Nat) (hi : i < r) (hj : j < c) : ent (mkM r c F) i j = F i j := by
  unfold ent; rw [mkM_getD _ _ _ _ hi, mkRow_getD _ _ _ hj]
theorem wid_mkM (r c : Nat) (F : Ents) (h : 0 < r) : wid (mkM r c F) = c := by unfold wid; rw [mkM_getD _ _ _ _ h]; simp
theorem mkRow_congr {c : Nat} {f g : Nat → UInt8} (h : ∀ j, j < c → f j = g j) : mkRow c f = mkRow c g := by
  unfold mkRow; exact List.map_congr_left (fun j hj => h j (by simpa using hj))
theorem mkM_congr {r c : Nat} {F G : Ents} (h : ∀ i j, i < r → j < c → F i j = G i j) : mkM r c F = mkM r c G := by
  unfold mkM; exact List.map_congr_left (fun i hi => mkRow_congr fun j hj => h i j (by simpa using hi) hj)
theorem mkRow_set (c : Nat) (f : Nat → UInt8) (k : Nat) (x : UInt8) : (mkRow c f).set k x = mkRow c (fun j => if j = k then x else f j) := by
  apply List.ext_getElem (by simp)
  intro n h1 h2
  rw [List.getElem_set]
  by_cases h : k = n
  · subst h; simp [mkRow]
  · have h' : ¬ n = k := fun e => h e.symm
    rw [if_neg h]; simp [mkRow, h']
theorem mkM_set (r c : Nat) (F : Ents) (k : Nat) (f : Nat → UInt8) : (mkM r c F).set k (mkRow c f) = mkM r c (fun i => if i = k then f else F i) := by
  apply List.ext_getElem (by simp)
  intro n h1 h2
  rw [List.getElem_set]
  by_cases h : k = n
  · subst h; simp [mkM]
  · have h' : ¬ n = k := fun e => h e.symm
    rw [if_neg h]; simp [mkM, h']
theorem eq_mkRow (l : List UInt8) : l = mkRow l.length (fun j => l.getD j 0) := by
  apply List.ext_getElem (by simp)
  intro n h1 h2
  rw [mkRow_get]; simp [List.getD, h1]
theorem eq_mkM {L : Mat} {r c : Nat} (hr : L.length = r) (hc : ∀ i, i < r → (L.getD i []).length = c) : L = mkM r c (ent L) := by
  apply List.ext_getElem (by simp [hr])
  intro n h1 h2
  have hn : n < r := by omega
  have h3 := hc n hn
  have e : (mkM r c (ent L))[n] = mkRow c (ent L n) := by simp [mkM]
  have e2 : L.getD n [] = L[n] := by simp [List.getD, h1]
  rw [e]
  unfold ent
  rw [e2] at h3 ⊢
  rw [← h3]
  exact eq_mkRow _
theorem goodM_iff (L : Mat) : goodM L = true ↔ 1 ≤ L.length ∧ L.length ≤ 16 ∧ 1 ≤ wid L ∧ wid L ≤ 16 ∧ ∀ i, i < L.length → (L.getD i []).length = wid L := by simp only [goodM, decide_eq_true_eq]
theorem good_eq {L : Mat} (h : goodM L = true) : L = mkM L.length (wid L) (ent L) := eq_mkM rfl ((goodM_iff L).1 h).2.2.2.2
theorem good_mkM (r c : Nat) (F : Ents) (h1 : 1 ≤ r) (h2 : r ≤ 16) (h3 : 1 ≤ c) (h4 : c ≤ 16) : goodM (mkM r c F) = true := by
  rw [goodM_iff, wid_mkM _ _ _ (by omega), mkM_length]
  exact ⟨h1, h2, h3, h4, fun i hi => by rw [mkM_getD _ _ _ _ hi]; simp⟩

/-- sums -/
def sumK : Nat → (Nat → UInt8) → UInt8
  | 0, _ => 0
  | n + 1, f => sumK n f ^^^ f n
theorem sumK_congr {n : Nat} {f g : Nat → UInt8} (h : ∀ l, l < n → f l = g l) : sumK n f = sumK n g := by
  induction n with
  | zero => rfl
  | succ n ih => rw [sumK, sumK, ih (fun l hl => h l (by omega)), h n (by omega)]
theorem sumK_zero (n : Nat) : sumK n (fun _ => 0) = 0 := by
  induction n with
  | zero => rfl
  | succ n ih => rw [sumK, ih]; rfl
theorem x4 (a b c d : UInt8) : a ^^^ b ^^^ (c ^^^ d) = a ^^^ c ^^^ (b ^^^ d) := by
  rw [UInt8.xor_assoc, UInt8.xor_assoc, ← UInt8.xor_assoc b c d, UInt8.xor_comm b c, UInt8.xor_assoc c b d]
theorem sumK_xor (n : Nat) (f g : Nat → UInt8) : sumK n (fun l => f l ^^^ g l) = sumK n f ^^^ sumK n g := by
  induction n with
  | zero => simp [sumK]
  | succ n ih => simp only [sumK]; rw [ih, x4]
theorem sumK_mul (n : Nat) (a : UInt8) (f : Nat → UInt8) : sumK n (fun l => gmul a (f l)) = gmul a (sumK n f) := by
  induction n with
  | zero => exact (gmul_zero a).symm
  | succ n ih => simp only [sumK]; rw [ih, gmul_xor]
theorem sumK_mulr (n : Nat) (a : UInt8) (f : Nat → UInt8) : sumK n (fun l => gmul (f l) a) = gmul (sumK n f) a := by
  rw [gmul_comm, ← sumK_mul]; exact sumK_congr fun l _ => gmul_comm _ _
theorem sumK_one {n k : Nat} (f : Nat → UInt8) (hk : k < n) (h : ∀ l, l < n → l ≠ k → f l = 0) : sumK n f = f k := by
  induction n with
  | zero => omega
  | succ n ih =>
    rw [sumK]
    by_cases e : k = n
    · subst e
      rw [sumK_congr (g := fun _ => 0) (fun l hl => h l (by omega) (by omega)), sumK_zero]; simp
    · rw [ih (by omega) (fun l hl hn => h l (by omega) hn), h n (by omega) (by omega)]; simp
theorem sumK_swap (n m : Nat) (f : Nat → Nat → UInt8) : sumK n (fun i => sumK m (fun j => f i j)) = sumK m (fun j => sumK n (fun i => f i j)) := by
  induction n with
  | zero => simp only [sumK]; exact (sumK_zero m).symm
  | succ n ih => simp only [sumK]; rw [ih, sumK_xor]
theorem dotK_sum (l m : List UInt8) (k : Nat) : dotK l m k = sumK k (fun i => gmul (l.getD i 0) (m.getD i 0)) := by
  induction k with
  | zero => rfl
  | succ k ih => rw [dotK, sumK, ih]

/-- inverses of bytes -/
def ginv (a : UInt8) : UInt8 := UInt8.ofNat (gi a.toNat)
theorem gi_lt {a : Nat} (ha : a < 256) : gi a < 256 := gp_lt ha 254
theorem ginv_toNat (a : UInt8) : (ginv a).toNat = gi a.toNat := by
  unfold ginv; rw [UInt8.toNat_ofNat']; exact Nat.mod_eq_of_lt (gi_lt a.toNat_lt)
theorem gmul_ginv {a : UInt8} (h : a ≠ 0) : gmul a (ginv a) = 1 := by
  apply u8_ext
  rw [gmul_toNat, ginv_toNat, gm_gi a.toNat_lt (fun e => h (u8_ext e))]; rfl
theorem ginv_gmul {a : UInt8} (h : a ≠ 0) : gmul (ginv a) a = 1 := by rw [gmul_comm, gmul_ginv h]

/-- the first row from a on, of r rows, whose entry in column j is not 0 -/
def piv (F : Ents) (r a j : Nat) : Option Nat := (List.range' a (r - a)).find? fun i => F i j != 0
theorem piv_some {F : Ents} {r a j k : Nat} (h1 : a ≤ k) (h2 : k < r) (h3 : F k j ≠ 0) (h4 : ∀ i, a ≤ i → i < k → F i j = 0) : piv F r a j = some k := by
  unfold piv
  rw [List.find?_range'_eq_some]
  refine ⟨by simpa using h3, by simp; omega, fun i h5 h6 => by simp [h4 i h5 h6]⟩
theorem piv_none {F : Ents} {r a j : Nat} (h : ∀ i, a ≤ i → i < r → F i j = 0) : piv F r a j = none := by
  unfold piv
  rw [List.find?_range'_eq_none]
  intro i h1 h2
  simp [h i h1 (by omega)]
theorem piv_cases (F : Ents) (r a j : Nat) : (piv F r a j = none ∧ ∀ i, a ≤ i → i < r → F i j = 0) ∨
    ∃ k, piv F r a j = some k ∧ a ≤ k ∧ k < r ∧ F k j ≠ 0 ∧ ∀ i, a ≤ i → i < k → F i j = 0 := by
  cases h : piv F r a j with
  | none =>
    refine .inl ⟨rfl, fun i h1 h2 => ?_⟩
    unfold piv at h
    rw [List.find?_range'_eq_none] at h
    simpa using h i h1 (by omega)
  | some k =>
    unfold piv at h
    rw [List.find?_range'_eq_some] at h
    obtain ⟨h1, h2, h3⟩ := h
    simp at h2
    exact .inr ⟨k, rfl, by omega, by omega, by simpa using h1, fun i h5 h6 => by simpa using h3 i h5 h6⟩
theorem piv_congr {F G : Ents} {r a j : Nat} (h : ∀ i, a ≤ i → i < r → F i j = G i j) : piv F r a j = piv G r a j := by
  rcases piv_cases G r a j with ⟨e, h1⟩ | ⟨k, e, h1, h2, h3, h4⟩
  · rw [e]; exact piv_none fun i a1 a2 => by rw [h i a1 a2, h1 i a1 a2]
  · rw [e]; exact piv_some h1 h2 (by rw [h k h1 h2]; exact h3) fun i a1 a2 => by rw [h i a1 (by omega), h4 i a1 a2]

/-- one step of elimination, as an operation on rows -/
def sw (a p i : Nat) : Nat := if i = a then p else if i = p then a else i
def swF (a p : Nat) (F : Ents) : Ents := fun i => F (sw a p i)
def scF (a : Nat) (s : UInt8) (F : Ents) : Ents := fun i j => if i = a then gmul s (F a j) else F i j
def clF (a : Nat) (fs : Nat → UInt8) (F : Ents) : Ents := fun i j => if i = a then F a j else F i j ^^^ gmul (fs i) (F a j)
structure Op where
  a : Nat
  p : Nat
  s : UInt8
  fs : Nat → UInt8
def opF (o : Op) (F : Ents) : Ents := clF o.a o.fs (scF o.a o.s (swF o.a o.p F))
def opAt (F : Ents) (a j p : Nat) : Op := ⟨a, p, ginv (F p j), fun i => swF a p F i j⟩
def opOf (F : Ents) (r a j : Nat) : Option Op := (piv F r a j).map (opAt F a j)
/-- the matrix and the number of pivots after k columns -/
def est (F : Ents) (r : Nat) : Nat → Ents × Nat
  | 0 => (F, 0)
  | k + 1 => match opOf (est F r k).1 r (est F r k).2 k with
    | none => est F r k
    | some o => (opF o (est F r k).1, (est F r k).2 + 1)
/-- another matrix with the same operations -/
def bst (F B : Ents) (r : Nat) : Nat → Ents
  | 0 => B
  | k + 1 => match opOf (est F r k).1 r (est F r k).2 k with
    | none => bst F B r k
    | some o => opF o (bst F B r k)
theorem est_none {F : Ents} {r k : Nat} (h : piv (est F r k).1 r (est F r k).2 k = none) : est F r (k + 1) = est F r k := by
  rw [est, opOf, h]; rfl
theorem est_some {F : Ents} {r k p : Nat} (h : piv (est F r k).1 r (est F r k).2 k = some p) : est F r (k + 1) = (opF (opAt (est F r k).1 (est F r k).2 k p) (est F r k).1, (est F r k).2 + 1) := by
  rw [est, opOf, h]; rfl
theorem bst_none {F B : Ents} {r k : Nat} (h : piv (est F r k).1 r (est F r k).2 k = none) : bst F B r (k + 1) = bst F B r k := by
  rw [bst, opOf, h]; rfl
theorem bst_some {F B : Ents} {r k p : Nat} (h : piv (est F r k).1 r (est F r k).2 k = some p) : bst F B r (k + 1) = opF (opAt (est F r k).1 (est F r k).2 k p) (bst F B r k) := by
  rw [bst, opOf, h]; rfl
theorem est_le (F : Ents) (r k : Nat) : (est F r k).2 ≤ r ∧ (est F r k).2 ≤ k := by
  induction k with
  | zero => simp [est]
  | succ k ih =>
    rcases piv_cases (est F r k).1 r (est F r k).2 k with ⟨e, _⟩ | ⟨p, e, h1, h2, _⟩
    · rw [est_none e]; omega
    · rw [est_some e]; simp; omega
/-- where all rows have a pivot nothing more happens -/
theorem est_full {F : Ents} {r k : Nat} (h : (est F r k).2 = r) : ∀ d, est F r (k + d) = est F r k := by
  intro d
  induction d with
  | zero => rfl
  | succ d ih =>
    rw [← Nat.add_assoc, est_none, ih]
    rw [ih]
    exact piv_none fun i h1 h2 => by omega
theorem bst_full {F B : Ents} {r k : Nat} (h : (est F r k).2 = r) : ∀ d, bst F B r (k + d) = bst F B r k := by
  intro d
  induction d with
  | zero => rfl
  | succ d ih =>
    rw [← Nat.add_assoc, bst_none, ih]
    rw [est_full h d]
    exact piv_none fun i h1 h2 => by omega
theorem bst_self (F : Ents) (r k : Nat) : bst F F r k = (est F r k).1 := by
  induction k with
  | zero => rfl
  | succ k ih =>
    rcases piv_cases (est F r k).1 r (est F r k).2 k with ⟨e, _⟩ | ⟨p, e, _⟩
    · rw [est_none e, bst_none e, ih]
    · rw [est_some e, bst_some e, ih]

/-- two matrices side by side -/
def hcF (n : Nat) (A B : Ents) : Ents := fun i j => if j < n then A i j else B i (j - n)
theorem opF_hc (o : Op) (n : Nat) (A B : Ents) : opF o (hcF n A B) = hcF n (opF o A) (opF o B) := by
  funext i j
  unfold opF clF scF swF hcF
  by_cases h : j < n <;> simp [h]
theorem est_hc (A B : Ents) (r n : Nat) : ∀ k, k ≤ n → est (hcF n A B) r k = (hcF n (est A r k).1 (bst A B r k), (est A r k).2) := by
  intro k
  induction k with
  | zero => intro _; rfl
  | succ k ih =>
    intro hk
    have ih := ih (by omega)
    have hp : piv (est (hcF n A B) r k).1 r (est (hcF n A B) r k).2 k = piv (est A r k).1 r (est A r k).2 k := by
      rw [ih]
      exact piv_congr fun i _ _ => by simp [hcF, show k < n by omega]
    rcases piv_cases (est A r k).1 r (est A r k).2 k with ⟨e, _⟩ | ⟨p, e, _⟩
    · rw [est_none (hp.trans e), est_none e, bst_none e, ih]
    · rw [est_some (hp.trans e), est_some e, bst_some e, ih]
      have ho : opAt (hcF n (est A r k).1 (bst A B r k)) (est A r k).2 k p = opAt (est A r k).1 (est A r k).2 k p := by
        unfold opAt
        simp only [hcF, swF, show k < n by omega, if_true]
      simp only
      rw [ho, opF_hc]

/-- the operations are linear -/
def idF : Ents := fun i j => if i = j then 1 else 0
theorem sw_lt {a p r i : Nat} (ha : a < r) (hp : p < r) (hi : i < r) : sw a p i < r := by unfold sw; split <;> (try split) <;> omega
theorem opF_congr {o : Op} {r j : Nat} {X Y : Ents} (ha : o.a < r) (hp : o.p < r) (h : ∀ i, i < r → X i j = Y i j) : ∀ i, i < r → opF o X i j = opF o Y i j := by
  intro i hi
  unfold opF clF scF swF
  simp only [h _ (sw_lt ha hp ha), h _ (sw_lt ha hp hi)]
theorem opF_sum (o : Op) (r : Nat) (T B : Ents) (i j : Nat) : opF o (fun i j => sumK r fun l => gmul (T i l) (B l j)) i j = sumK r fun l => gmul (opF o T i l) (B l j) := by
  unfold opF clF scF swF
  by_cases h : i = o.a
  · simp only [h, if_true]
    rw [← sumK_mul]
    exact sumK_congr fun l _ => by rw [gmul_assoc]
  · simp only [h, if_false, if_true]
    rw [← sumK_mul, ← sumK_mul, ← sumK_xor]
    exact sumK_congr fun l _ => by rw [xor_gmul, gmul_assoc, gmul_assoc]
theorem bst_lin (F B : Ents) (r : Nat) (k : Nat) : ∀ i j, i < r → bst F B r k i j = sumK r fun l => gmul (bst F idF r k i l) (B l j) := by
  induction k with
  | zero =>
    intro i j hi
    show B i j = sumK r fun l => gmul (idF i l) (B l j)
    rw [sumK_one _ hi (fun l _ hn => by
      have hn' : ¬ i = l := fun e => hn e.symm
      simp [idF, hn', zero_gmul])]
    simp [idF, one_gmul]
  | succ k ih =>
    intro i j hi
    have hl := est_le F r k
    rcases piv_cases (est F r k).1 r (est F r k).2 k with ⟨e, _⟩ | ⟨p, e, h1, h2, _⟩
    · rw [bst_none e, bst_none e, ih i j hi]
    · rw [bst_some e, bst_some e]
      have := opF_congr (o := opAt (est F r k).1 (est F r k).2 k p) (j := j) (r := r) (X := bst F B r k) (Y := fun i j => sumK r fun l => gmul (bst F idF r k i l) (B l j)) (show (est F r k).2 < r by omega) (show p < r from h2) (fun i hi => ih i j hi) i hi
      rw [this, opF_sum]

/-- what the functions of chapter 2 answer -/
def goodI (n : Int) : Bool := decide (1 ≤ n ∧ n ≤ 16)
def prodOk (a b : Mat) : Bool := goodM a && goodM b && decide (wid a = b.length)
def prodF (n : Nat) (A B : Ents) : Ents := fun i j => sumK n fun k => gmul (A i k) (B k j)
def prodR (a b : Mat) : Mat := if prodOk a b = true then mkM a.length (wid b) (prodF (wid a) (ent a) (ent b)) else []
def idOk (n : Int) : Bool := goodI n
def idR (n : Int) : Mat := if goodI n = true then mkM n.toNat n.toNat idF else []
def rankN (m : Mat) : Nat := (est (ent m) m.length (wid m)).2
def rankR (m : Mat) : Nat := if goodM m = true then rankN m else 0
def squareM (m : Mat) : Bool := goodM m && decide (m.length = wid m)
def invOk (m : Mat) : Bool := squareM m && decide (rankN m = m.length)
def invF (m : Mat) : Ents := bst (ent m) idF m.length m.length
def invR (m : Mat) : Mat := if invOk m = true then mkM m.length m.length (invF m) else []
def transR (m : Mat) : Mat := if goodM m = true then mkM (wid m) m.length (fun i j => ent m j i) else []
/-- an increasing, nonempty list of indexes below size -/
def incr (size : Nat) : Int → List Int → Bool
  | _, [] => true
  | last, x :: l => decide (last < x) && decide (x < size) && incr size x l
def choice (l : List Int) (size : Nat) : Bool := incr size (-1) l && !l.isEmpty
def partOk (m : Mat) (l c : List Int) : Bool := goodM m && choice l m.length && choice c (wid m)
def partR (m : Mat) (l c : List Int) : Mat := if partOk m l c = true then mkM l.length c.length (fun i j => ent m (l.getD i 0).toNat (c.getD j 0).toNat) else []
def sidesOk (r c : Int) : Bool := goodI r && goodI c
def vandF : Ents := fun i j => UInt8.ofNat (gp i j)
def vandR (r c : Int) : Mat := if sidesOk r c = true then mkM r.toNat c.toNat vandF else []
def cauF (c : Nat) : Ents := fun i j => UInt8.ofNat (gi ((c + i) ^^^ j))
def cauR (r c : Int) : Mat := if sidesOk r c = true then mkM r.toNat c.toNat (cauF c.toNat) else []
def solveOk (m : Mat) (v : List UInt8) : Bool := invOk m && decide (v.length = m.length)
def colF (v : List UInt8) : Ents := fun i _ => v.getD i 0
def solveR (m : Mat) (v : List UInt8) : List UInt8 := if solveOk m v = true then mkRow m.length (fun i => bst (ent m) (colF v) m.length m.length i 0) else []
theorem solve_dot (m : Mat) (v : List UInt8) (i : Nat) (hi : i < m.length) : bst (ent m) (colF v) m.length m.length i 0 = dotK (mkRow m.length (invF m i)) v m.length := by
  rw [bst_lin _ _ _ _ i 0 hi, dotK_sum]
  exact sumK_congr fun l hl => by rw [mkRow_getD _ _ _ hl]; rfl
theorem piv_col (m : Mat) (k : Nat) (h : squareM m = true) : True := trivial
end G294
