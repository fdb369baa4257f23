/- Joined texts: MatMath, InvMath, RowMath, ShaMath, RndMath, ShaDef, ErrMath. -/
import Derived.Test.YtblfobbeojdihaaGreatDoorBd00
set_option linter.unusedSimpArgs false
set_option linter.unusedVariables false
/- Matrices over GF(256), as lists of rows and as functions of row and column: plain functions, no program. -/
namespace G294

abbrev Mat := List (List UInt8)
abbrev Ents := Nat → Nat → UInt8
def wid (L : Mat) : Nat := (L.getD 0 []).length
def goodM (L : Mat) : Bool := decide (1 ≤ L.length ∧ L.length ≤ 16 ∧ 1 ≤ wid L ∧ wid L ≤ 16 ∧ ∀ i, i < L.length → (L.getD i []).length = wid L)
def ent (L : Mat) : Ents := fun i j => (L.getD i []).getD j 0
def mkRow (c : Nat) (f : Nat → UInt8) : List UInt8 := (List.range c).map f
def mkM (r c : Nat) (F : Ents) : Mat := (List.range r).map fun i => mkRow c (F i)
@[simp] theorem mkRow_length (c : Nat) (f : Nat → UInt8) : (mkRow c f).length = c := by simp [mkRow]
@[simp] theorem mkM_length (r c : Nat) (F : Ents) : (mkM r c F).length = r := by simp [mkM]
theorem mkRow_getD (c : Nat) (f : Nat → UInt8) (j : Nat) (h : j < c) : (mkRow c f).getD j 0 = f j := by simp [mkRow, List.getD, h]
theorem mkRow_get (c : Nat) (f : Nat → UInt8) (j : Nat) (h : j < (mkRow c f).length) : (mkRow c f)[j] = f j := by simp [mkRow]
theorem mkM_getD (r c : Nat) (F : Ents) (i : Nat) (h : i < r) : (mkM r c F).getD i [] = mkRow c (F i) := by simp [mkM, List.getD, h]
theorem mkM_get? (r c : Nat) (F : Ents) (i : Nat) (h : i < r) : (mkM r c F)[i]? = some (mkRow c (F i)) := by simp [mkM, h]
theorem ent_mkM (r c : Nat) (F : Ents) (i j : Nat) (hi : i < r) (hj : j < c) : ent (mkM r c F) i j = F i j := by
  unfold ent; rw [mkM_getD _ _ _ _ hi, mkRow_getD _ _ _ hj]
theorem wid_mkM (r c : Nat) (F : Ents) (h : 0 < r) : wid (mkM r c F) = c := by unfold wid; rw [mkM_getD _ _ _ _ h]; simp
theorem mkRow_congr {c : Nat} {f g : Nat → UInt8} (h : ∀ j, j < c → f j = g j) : mkRow c f = mkRow c g := by
  unfold mkRow; exact List.map_congr_left (fun j hj => h j (by simpa using hj))
theorem mkM_congr {r c : Nat} {F G : Ents} (h : ∀ i j, i < r → j < c → F i j = G i j) : mkM r c F = mkM r c G := by
  unfold mkM; exact List.map_congr_left (fun i hi => mkRow_congr fun j hj => h i j (by simpa using hi) hj)
theorem mkRow_set (c : Nat) (f : Nat → UInt8) (k : Nat) (x : UInt8) : (mkRow c f).set k x = mkRow c (fun j => if j = k then x else f j) := by
  apply List.ext_getElem (by simp)
  intro n h1 h2
  rw [List.getElem_set]
  by_cases h : k = n
  · subst h; simp [mkRow]
  · have h' : ¬ n = k := fun e => h e.symm
    rw [if_neg h]; simp [mkRow, h']
theorem mkM_set (r c : Nat) (F : Ents) (k : Nat) (f : Nat → UInt8) : (mkM r c F).set k (mkRow c f) = mkM r c (fun i => if i = k then f else F i) := by
  apply List.ext_getElem (by simp)
  intro n h1 h2
  rw [List.getElem_set]
  by_cases h : k = n
  · subst h; simp [mkM]
  · have h' : ¬ n = k := fun e => h e.symm
    rw [if_neg h]; simp [mkM, h']
theorem eq_mkRow (l : List UInt8) : l = mkRow l.length (fun j => l.getD j 0) := by
  apply List.ext_getElem (by simp)
  intro n h1 h2
  rw [mkRow_get]; simp [List.getD, h1]
theorem eq_mkM {L : Mat} {r c : Nat} (hr : L.length = r) (hc : ∀ i, i < r → (L.getD i []).length = c) : L = mkM r c (ent L) := by
  apply List.ext_getElem (by simp [hr])
  intro n h1 h2
  have hn : n < r := by omega
  have h3 := hc n hn
  have e : (mkM r c (ent L))[n] = mkRow c (ent L n) := by simp [mkM]
  have e2 : L.getD n [] = L[n] := by simp [List.getD, h1]
  rw [e]
  unfold ent
  rw [e2] at h3 ⊢
  rw [← h3]
  exact eq_mkRow _
theorem goodM_iff (L : Mat) : goodM L = true ↔ 1 ≤ L.length ∧ L.length ≤ 16 ∧ 1 ≤ wid L ∧ wid L ≤ 16 ∧ ∀ i, i < L.length → (L.getD i []).length = wid L := by simp only [goodM, decide_eq_true_eq]
theorem good_eq {L : Mat} (h : goodM L = true) : L = mkM L.length (wid L) (ent L) := eq_mkM rfl ((goodM_iff L).1 h).2.2.2.2
theorem good_mkM (r c : Nat) (F : Ents) (h1 : 1 ≤ r) (h2 : r ≤ 16) (h3 : 1 ≤ c) (h4 : c ≤ 16) : goodM (mkM r c F) = true := by
  rw [goodM_iff, wid_mkM _ _ _ (by omega), mkM_length]
  exact ⟨h1, h2, h3, h4, fun i hi => by rw [mkM_getD _ _ _ _ hi]; simp⟩

/-- sums -/
def sumK : Nat → (Nat → UInt8) → UInt8
  | 0, _ => 0
  | n + 1, f => sumK n f ^^^ f n
theorem sumK_congr {n : Nat} {f g : Nat → UInt8} (h : ∀ l, l < n → f l = g l) : sumK n f = sumK n g := by
  induction n with
  | zero => rfl
  | succ n ih => rw [sumK, sumK, ih (fun l hl => h l (by omega)), h n (by omega)]
theorem sumK_zero (n : Nat) : sumK n (fun _ => 0) = 0 := by
  induction n with
  | zero => rfl
  | succ n ih => rw [sumK, ih]; rfl
theorem x4 (a b c d : UInt8) : a ^^^ b ^^^ (c ^^^ d) = a ^^^ c ^^^ (b ^^^ d) := by
  rw [UInt8.xor_assoc, UInt8.xor_assoc, ← UInt8.xor_assoc b c d, UInt8.xor_comm b c, UInt8.xor_assoc c b d]
theorem sumK_xor (n : Nat) (f g : Nat → UInt8) : sumK n (fun l => f l ^^^ g l) = sumK n f ^^^ sumK n g := by
  induction n with
  | zero => simp [sumK]
  | succ n ih => simp only [sumK]; rw [ih, x4]
theorem sumK_mul (n : Nat) (a : UInt8) (f : Nat → UInt8) : sumK n (fun l => gmul a (f l)) = gmul a (sumK n f) := by
  induction n with
  | zero => exact (gmul_zero a).symm
  | succ n ih => simp only [sumK]; rw [ih, gmul_xor]
theorem sumK_mulr (n : Nat) (a : UInt8) (f : Nat → UInt8) : sumK n (fun l => gmul (f l) a) = gmul (sumK n f) a := by
  rw [gmul_comm, ← sumK_mul]; exact sumK_congr fun l _ => gmul_comm _ _
theorem sumK_one {n k : Nat} (f : Nat → UInt8) (hk : k < n) (h : ∀ l, l < n → l ≠ k → f l = 0) : sumK n f = f k := by
  induction n with
  | zero => omega
  | succ n ih =>
    rw [sumK]
    by_cases e : k = n
    · subst e
      rw [sumK_congr (g := fun _ => 0) (fun l hl => h l (by omega) (by omega)), sumK_zero]; simp
    · rw [ih (by omega) (fun l hl hn => h l (by omega) hn), h n (by omega) (by omega)]; simp
theorem sumK_swap (n m : Nat) (f : Nat → Nat → UInt8) : sumK n (fun i => sumK m (fun j => f i j)) = sumK m (fun j => sumK n (fun i => f i j)) := by
  induction n with
  | zero => simp only [sumK]; exact (sumK_zero m).symm
  | succ n ih => simp only [sumK]; rw [ih, sumK_xor]
theorem dotK_sum (l m : List UInt8) (k : Nat) : dotK l m k = sumK k (fun i => gmul (l.getD i 0) (m.getD i 0)) := by
  induction k with
  | zero => rfl
  | succ k ih => rw [dotK, sumK, ih]

/-- inverses of bytes -/
def ginv (a : UInt8) : UInt8 := UInt8.ofNat (gi a.toNat)
theorem gi_lt {a : Nat} (ha : a < 256) : gi a < 256 := gp_lt ha 254
theorem ginv_toNat (a : UInt8) : (ginv a).toNat = gi a.toNat := by
  unfold ginv; rw [UInt8.toNat_ofNat']; exact Nat.mod_eq_of_lt (gi_lt a.toNat_lt)
theorem gmul_ginv {a : UInt8} (h : a ≠ 0) : gmul a (ginv a) = 1 := by
  apply u8_ext
  rw [gmul_toNat, ginv_toNat, gm_gi a.toNat_lt (fun e => h (u8_ext e))]; rfl
theorem ginv_gmul {a : UInt8} (h : a ≠ 0) : gmul (ginv a) a = 1 := by rw [gmul_comm, gmul_ginv h]

/-- the first row from a on, of r rows, whose entry in column j is not 0 -/
def piv (F : Ents) (r a j : Nat) : Option Nat := (List.range' a (r - a)).find? fun i => F i j != 0
theorem piv_some {F : Ents} {r a j k : Nat} (h1 : a ≤ k) (h2 : k < r) (h3 : F k j ≠ 0) (h4 : ∀ i, a ≤ i → i < k → F i j = 0) : piv F r a j = some k := by
  unfold piv
  rw [List.find?_range'_eq_some]
  refine ⟨by simpa using h3, by simp; omega, fun i h5 h6 => by simp [h4 i h5 h6]⟩
theorem piv_none {F : Ents} {r a j : Nat} (h : ∀ i, a ≤ i → i < r → F i j = 0) : piv F r a j = none := by
  unfold piv
  rw [List.find?_range'_eq_none]
  intro i h1 h2
  simp [h i h1 (by omega)]
theorem piv_cases (F : Ents) (r a j : Nat) : (piv F r a j = none ∧ ∀ i, a ≤ i → i < r → F i j = 0) ∨
    ∃ k, piv F r a j = some k ∧ a ≤ k ∧ k < r ∧ F k j ≠ 0 ∧ ∀ i, a ≤ i → i < k → F i j = 0 := by
  cases h : piv F r a j with
  | none =>
    refine .inl ⟨rfl, fun i h1 h2 => ?_⟩
    unfold piv at h
    rw [List.find?_range'_eq_none] at h
    simpa using h i h1 (by omega)
  | some k =>
    unfold piv at h
    rw [List.find?_range'_eq_some] at h
    obtain ⟨h1, h2, h3⟩ := h
    simp at h2
    exact .inr ⟨k, rfl, by omega, by omega, by simpa using h1, fun i h5 h6 => by simpa using h3 i h5 h6⟩
theorem piv_congr {F G : Ents} {r a j : Nat} (h : ∀ i, a ≤ i → i < r → F i j = G i j) : piv F r a j = piv G r a j := by
  rcases piv_cases G r a j with ⟨e, h1⟩ | ⟨k, e, h1, h2, h3, h4⟩
  · rw [e]; exact piv_none fun i a1 a2 => by rw [h i a1 a2, h1 i a1 a2]
  · rw [e]; exact piv_some h1 h2 (by rw [h k h1 h2]; exact h3) fun i a1 a2 => by rw [h i a1 (by omega), h4 i a1 a2]

/-- one step of elimination, as an operation on rows -/
def sw (a p i : Nat) : Nat := if i = a then p else if i = p then a else i
def swF (a p : Nat) (F : Ents) : Ents := fun i => F (sw a p i)
def scF (a : Nat) (s : UInt8) (F : Ents) : Ents := fun i j => if i = a then gmul s (F a j) else F i j
def clF (a : Nat) (fs : Nat → UInt8) (F : Ents) : Ents := fun i j => if i = a then F a j else F i j ^^^ gmul (fs i) (F a j)
structure Op where
  a : Nat
  p : Nat
  s : UInt8
  fs : Nat → UInt8
def opF (o : Op) (F : Ents) : Ents := clF o.a o.fs (scF o.a o.s (swF o.a o.p F))
def opAt (F : Ents) (a j p : Nat) : Op := ⟨a, p, ginv (F p j), fun i => swF a p F i j⟩
def opOf (F : Ents) (r a j : Nat) : Option Op := (piv F r a j).map (opAt F a j)
/-- the matrix and the number of pivots after k columns -/
def est (F : Ents) (r : Nat) : Nat → Ents × Nat
  | 0 => (F, 0)
  | k + 1 => match opOf (est F r k).1 r (est F r k).2 k with
    | none => est F r k
    | some o => (opF o (est F r k).1, (est F r k).2 + 1)
/-- another matrix with the same operations -/
def bst (F B : Ents) (r : Nat) : Nat → Ents
  | 0 => B
  | k + 1 => match opOf (est F r k).1 r (est F r k).2 k with
    | none => bst F B r k
    | some o => opF o (bst F B r k)
theorem est_none {F : Ents} {r k : Nat} (h : piv (est F r k).1 r (est F r k).2 k = none) : est F r (k + 1) = est F r k := by
  rw [est, opOf, h]; rfl
theorem est_some {F : Ents} {r k p : Nat} (h : piv (est F r k).1 r (est F r k).2 k = some p) : est F r (k + 1) = (opF (opAt (est F r k).1 (est F r k).2 k p) (est F r k).1, (est F r k).2 + 1) := by
  rw [est, opOf, h]; rfl
theorem bst_none {F B : Ents} {r k : Nat} (h : piv (est F r k).1 r (est F r k).2 k = none) : bst F B r (k + 1) = bst F B r k := by
  rw [bst, opOf, h]; rfl
theorem bst_some {F B : Ents} {r k p : Nat} (h : piv (est F r k).1 r (est F r k).2 k = some p) : bst F B r (k + 1) = opF (opAt (est F r k).1 (est F r k).2 k p) (bst F B r k) := by
  rw [bst, opOf, h]; rfl
theorem est_le (F : Ents) (r k : Nat) : (est F r k).2 ≤ r ∧ (est F r k).2 ≤ k := by
  induction k with
  | zero => simp [est]
  | succ k ih =>
    rcases piv_cases (est F r k).1 r (est F r k).2 k with ⟨e, _⟩ | ⟨p, e, h1, h2, _⟩
    · rw [est_none e]; omega
    · rw [est_some e]; simp; omega
/-- where all rows have a pivot nothing more happens -/
theorem est_full {F : Ents} {r k : Nat} (h : (est F r k).2 = r) : ∀ d, est F r (k + d) = est F r k := by
  intro d
  induction d with
  | zero => rfl
  | succ d ih =>
    rw [← Nat.add_assoc, est_none, ih]
    rw [ih]
    exact piv_none fun i h1 h2 => by omega
theorem bst_full {F B : Ents} {r k : Nat} (h : (est F r k).2 = r) : ∀ d, bst F B r (k + d) = bst F B r k := by
  intro d
  induction d with
  | zero => rfl
  | succ d ih =>
    rw [← Nat.add_assoc, bst_none, ih]
    rw [est_full h d]
    exact piv_none fun i h1 h2 => by omega
theorem bst_self (F : Ents) (r k : Nat) : bst F F r k = (est F r k).1 := by
  induction k with
  | zero => rfl
  | succ k ih =>
    rcases piv_cases (est F r k).1 r (est F r k).2 k with ⟨e, _⟩ | ⟨p, e, _⟩
    · rw [est_none e, bst_none e, ih]
    · rw [est_some e, bst_some e, ih]

/-- two matrices side by side -/
def hcF (n : Nat) (A B : Ents) : Ents := fun i j => if j < n then A i j else B i (j - n)
theorem opF_hc (o : Op) (n : Nat) (A B : Ents) : opF o (hcF n A B) = hcF n (opF o A) (opF o B) := by
  funext i j
  unfold opF clF scF swF hcF
  by_cases h : j < n <;> simp [h]
theorem est_hc (A B : Ents) (r n : Nat) : ∀ k, k ≤ n → est (hcF n A B) r k = (hcF n (est A r k).1 (bst A B r k), (est A r k).2) := by
  intro k
  induction k with
  | zero => intro _; rfl
  | succ k ih =>
    intro hk
    have ih := ih (by omega)
    have hp : piv (est (hcF n A B) r k).1 r (est (hcF n A B) r k).2 k = piv (est A r k).1 r (est A r k).2 k := by
      rw [ih]
      exact piv_congr fun i _ _ => by simp [hcF, show k < n by omega]
    rcases piv_cases (est A r k).1 r (est A r k).2 k with ⟨e, _⟩ | ⟨p, e, _⟩
    · rw [est_none (hp.trans e), est_none e, bst_none e, ih]
    · rw [est_some (hp.trans e), est_some e, bst_some e, ih]
      have ho : opAt (hcF n (est A r k).1 (bst A B r k)) (est A r k).2 k p = opAt (est A r k).1 (est A r k).2 k p := by
        unfold opAt
        simp only [hcF, swF, show k < n by omega, if_true]
      simp only
      rw [ho, opF_hc]

/-- the operations are linear -/
def idF : Ents := fun i j => if i = j then 1 else 0
theorem sw_lt {a p r i : Nat} (ha : a < r) (hp : p < r) (hi : i < r) : sw a p i < r := by unfold sw; split <;> (try split) <;> omega
theorem opF_congr {o : Op} {r j : Nat} {X Y : Ents} (ha : o.a < r) (hp : o.p < r) (h : ∀ i, i < r → X i j = Y i j) : ∀ i, i < r → opF o X i j = opF o Y i j := by
  intro i hi
  unfold opF clF scF swF
  simp only [h _ (sw_lt ha hp ha), h _ (sw_lt ha hp hi)]
theorem opF_sum (o : Op) (r : Nat) (T B : Ents) (i j : Nat) : opF o (fun i j => sumK r fun l => gmul (T i l) (B l j)) i j = sumK r fun l => gmul (opF o T i l) (B l j) := by
  unfold opF clF scF swF
  by_cases h : i = o.a
  · simp only [h, if_true]
    rw [← sumK_mul]
    exact sumK_congr fun l _ => by rw [gmul_assoc]
  · simp only [h, if_false, if_true]
    rw [← sumK_mul, ← sumK_mul, ← sumK_xor]
    exact sumK_congr fun l _ => by rw [xor_gmul, gmul_assoc, gmul_assoc]
theorem bst_lin (F B : Ents) (r : Nat) (k : Nat) : ∀ i j, i < r → bst F B r k i j = sumK r fun l => gmul (bst F idF r k i l) (B l j) := by
  induction k with
  | zero =>
    intro i j hi
    show B i j = sumK r fun l => gmul (idF i l) (B l j)
    rw [sumK_one _ hi (fun l _ hn => by
      have hn' : ¬ i = l := fun e => hn e.symm
      simp [idF, hn', zero_gmul])]
    simp [idF, one_gmul]
  | succ k ih =>
    intro i j hi
    have hl := est_le F r k
    rcases piv_cases (est F r k).1 r (est F r k).2 k with ⟨e, _⟩ | ⟨p, e, h1, h2, _⟩
    · rw [bst_none e, bst_none e, ih i j hi]
    · rw [bst_some e, bst_some e]
      have := opF_congr (o := opAt (est F r k).1 (est F r k).2 k p) (j := j) (r := r) (X := bst F B r k) (Y := fun i j => sumK r fun l => gmul (bst F idF r k i l) (B l j)) (show (est F r k).2 < r by omega) (show p < r from h2) (fun i hi => ih i j hi) i hi
      rw [this, opF_sum]

/-- what the functions of chapter 2 answer -/
def goodI (n : Int) : Bool := decide (1 ≤ n ∧ n ≤ 16)
def prodOk (a b : Mat) : Bool := goodM a && goodM b && decide (wid a = b.length)
def prodF (n : Nat) (A B : Ents) : Ents := fun i j => sumK n fun k => gmul (A i k) (B k j)
def prodR (a b : Mat) : Mat := if prodOk a b = true then mkM a.length (wid b) (prodF (wid a) (ent a) (ent b)) else []
def idOk (n : Int) : Bool := goodI n
def idR (n : Int) : Mat := if goodI n = true then mkM n.toNat n.toNat idF else []
def rankN (m : Mat) : Nat := (est (ent m) m.length (wid m)).2
def rankR (m : Mat) : Nat := if goodM m = true then rankN m else 0
def squareM (m : Mat) : Bool := goodM m && decide (m.length = wid m)
def invOk (m : Mat) : Bool := squareM m && decide (rankN m = m.length)
def invF (m : Mat) : Ents := bst (ent m) idF m.length m.length
def invR (m : Mat) : Mat := if invOk m = true then mkM m.length m.length (invF m) else []
def transR (m : Mat) : Mat := if goodM m = true then mkM (wid m) m.length (fun i j => ent m j i) else []
/-- an increasing, nonempty list of indexes below size -/
def incr (size : Nat) : Int → List Int → Bool
  | _, [] => true
  | last, x :: l => decide (last < x) && decide (x < size) && incr size x l
def choice (l : List Int) (size : Nat) : Bool := incr size (-1) l && !l.isEmpty
def partOk (m : Mat) (l c : List Int) : Bool := goodM m && choice l m.length && choice c (wid m)
def partR (m : Mat) (l c : List Int) : Mat := if partOk m l c = true then mkM l.length c.length (fun i j => ent m (l.getD i 0).toNat (c.getD j 0).toNat) else []
def sidesOk (r c : Int) : Bool := goodI r && goodI c
def vandF : Ents := fun i j => UInt8.ofNat (gp i j)
def vandR (r c : Int) : Mat := if sidesOk r c = true then mkM r.toNat c.toNat vandF else []
def cauF (c : Nat) : Ents := fun i j => UInt8.ofNat (gi ((c + i) ^^^ j))
def cauR (r c : Int) : Mat := if sidesOk r c = true then mkM r.toNat c.toNat (cauF c.toNat) else []
def solveOk (m : Mat) (v : List UInt8) : Bool := invOk m && decide (v.length = m.length)
def colF (v : List UInt8) : Ents := fun i _ => v.getD i 0
def solveR (m : Mat) (v : List UInt8) : List UInt8 := if solveOk m v = true then mkRow m.length (fun i => bst (ent m) (colF v) m.length m.length i 0) else []
theorem solve_dot (m : Mat) (v : List UInt8) (i : Nat) (hi : i < m.length) : bst (ent m) (colF v) m.length m.length i 0 = dotK (mkRow m.length (invF m i)) v m.length := by
  rw [bst_lin _ _ _ _ i 0 hi, dotK_sum]
  exact sumK_congr fun l hl => by rw [mkRow_getD _ _ _ hl]; rfl
theorem piv_col (m : Mat) (k : Nat) (h : squareM m = true) : True := trivial
end G294

/- Elimination's mathematics: a full rank leaves the identity, the inverse on the left, kernels; Cauchy's matrix has no kernel. -/
namespace G294
theorem g_cancel {a b : UInt8} (ha : a ≠ 0) (h : gmul a b = 0) : b = 0 := by
  have := congrArg (gmul (ginv a)) h
  rwa [← gmul_assoc, ginv_gmul ha, one_gmul, gmul_zero] at this
theorem g_ne {a b : UInt8} (ha : a ≠ 0) (hb : b ≠ 0) : gmul a b ≠ 0 := fun h => hb (g_cancel ha h)
theorem ginv_ne {a : UInt8} (ha : a ≠ 0) : ginv a ≠ 0 := fun h => by
  have := gmul_ginv ha
  rw [h, gmul_zero] at this
  exact absurd this (by decide)
theorem x_self (a : UInt8) : a ^^^ a = 0 := by simp
theorem x_eq {a b : UInt8} (h : a ^^^ b = 0) : a = b := by
  have := congrArg (· ^^^ b) h
  simpa [UInt8.xor_assoc] using this
theorem x_ne {a b : UInt8} (h : a ≠ b) : a ^^^ b ≠ 0 := fun e => h (x_eq e)
/-- full rank at column k: the first k columns are those of the identity -/
theorem est_unit {F : Ents} {r : Nat} : ∀ k, (est F r k).2 = k → ∀ j, j < k → ∀ i, i < r → (est F r k).1 i j = idF i j := by
  intro k
  induction k with
  | zero => intro _ j hj; omega
  | succ k ih =>
    intro hk j hj i hi
    have hle := est_le F r k
    rcases piv_cases (est F r k).1 r (est F r k).2 k with ⟨e, _⟩ | ⟨p, e, h1, h2, h3, _⟩
    · rw [est_none e] at hk; omega
    · rw [est_some e] at hk ⊢
      simp only at hk ⊢
      have hk' : (est F r k).2 = k := by omega
      have ih := ih hk'
      rw [hk'] at h1 ⊢
      have hkr : k < r := by omega
      unfold opF opAt clF scF swF
      simp only
      have s1 : sw k p k = p := by simp [sw]
      by_cases hjk : j = k
      · subst hjk
        by_cases hij : i = j
        · subst hij
          simp only [if_true, s1, idF, ginv_gmul h3]
        · simp only [hij, if_false, if_true, s1, idF, ginv_gmul h3, gmul_one, x_self]
      · have hj' : j < k := by omega
        have z1 : (est F r k).1 p j = 0 := by rw [ih j hj' p (by omega)]; simp [idF, show ¬ p = j by omega]
        by_cases hik : i = k
        · subst hik
          simp only [if_true, s1, z1, gmul_zero, idF, show ¬ i = j by omega, if_false]
        · simp only [hik, if_false, if_true, s1, z1, gmul_zero, UInt8.xor_zero]
          have hsw : sw k p i < r := sw_lt hkr h2 hi
          rw [ih j hj' _ hsw]
          unfold idF sw
          rw [if_neg hik]
          by_cases hip : i = p
          · subst hip; simp [show ¬ k = j by omega, show ¬ i = j by omega]
          · simp [hip]
/-- the inverse on the left -/
theorem inv_left {F : Ents} {k : Nat} (h : (est F k k).2 = k) {i j : Nat} (hi : i < k) (hj : j < k) : sumK k (fun l => gmul (bst F idF k k i l) (F l j)) = idF i j := by
  rw [← bst_lin F F k k i j hi, bst_self]
  exact est_unit k h j hj i hi
/-- an operation takes no kernel away and adds none -/
def kerAt (F : Ents) (r c : Nat) (v : Nat → UInt8) : Prop := ∀ i, i < r → sumK c (fun j => gmul (F i j) (v j)) = 0
theorem op_ker {o : Op} {F : Ents} {r c : Nat} {v : Nat → UInt8} (ha : o.a < r) (hp : o.p < r) (hs : o.s ≠ 0) (h : kerAt (opF o F) r c v) : kerAt F r c v := by
  have row : ∀ i, i < r → sumK c (fun j => gmul (F (sw o.a o.p i) j) (v j)) = 0 := by
    have ra : sumK c (fun j => gmul (F (sw o.a o.p o.a) j) (v j)) = 0 := by
      have := h o.a ha
      have e : (fun j => gmul (opF o F o.a j) (v j)) = fun j => gmul o.s (gmul (F (sw o.a o.p o.a) j) (v j)) := by
        funext j; simp [opF, clF, scF, swF, gmul_assoc]
      rw [e, sumK_mul] at this
      exact g_cancel hs this
    intro i hi
    by_cases hia : i = o.a
    · rw [hia]; exact ra
    · have := h i hi
      have e : (fun j => gmul (opF o F i j) (v j)) = fun j => gmul (F (sw o.a o.p i) j) (v j) ^^^ gmul (gmul (o.fs i) o.s) (gmul (F (sw o.a o.p o.a) j) (v j)) := by
        funext j; simp [opF, clF, scF, swF, hia, gmul_assoc, xor_gmul]
      rw [e, sumK_xor, sumK_mul, ra, gmul_zero, UInt8.xor_zero] at this
      exact this
  intro i hi
  have e : sw o.a o.p (sw o.a o.p i) = i := by
    unfold sw
    by_cases h1 : i = o.a
    · by_cases h2 : o.p = o.a <;> simp [h1, h2]
    · by_cases h2 : i = o.p
      · simp [h2]
      · simp [h1, h2]
  have := row (sw o.a o.p i) (sw_lt ha hp hi)
  rwa [e] at this
theorem est_ker {F : Ents} {r c : Nat} {v : Nat → UInt8} : ∀ k, kerAt (est F r k).1 r c v → kerAt F r c v := by
  intro k
  induction k with
  | zero => exact id
  | succ k ih =>
    intro h
    rcases piv_cases (est F r k).1 r (est F r k).2 k with ⟨e, _⟩ | ⟨p, e, h1, h2, h3, _⟩
    · rw [est_none e] at h; exact ih h
    · rw [est_some e] at h
      exact ih (op_ker (o := opAt (est F r k).1 (est F r k).2 k p) (by show (est F r k).2 < r; omega) h2 (ginv_ne h3) h)
/-- the rank falls short somewhere: the first column without a pivot -/
theorem est_short {F : Ents} {r : Nat} : ∀ k, (est F r k).2 ≠ k → ∃ c, c < k ∧ (est F r c).2 = c ∧ piv (est F r c).1 r c c = none := by
  intro k
  induction k with
  | zero => intro h; exact absurd rfl h
  | succ k ih =>
    intro h
    by_cases hk : (est F r k).2 = k
    · rcases piv_cases (est F r k).1 r (est F r k).2 k with ⟨e, _⟩ | ⟨p, e, _⟩
      · exact ⟨k, by omega, hk, by rw [hk] at e; exact e⟩
      · rw [est_some e] at h; simp only at h; omega
    · obtain ⟨c, h1, h2⟩ := ih hk
      exact ⟨c, by omega, h2⟩
theorem piv_none_at {F : Ents} {r a j : Nat} (h : piv F r a j = none) : ∀ i, a ≤ i → i < r → F i j = 0 := by
  rcases piv_cases F r a j with ⟨_, h'⟩ | ⟨p, e, _⟩
  · exact h'
  · rw [h] at e; cases e
theorem sumK_split {n c : Nat} (f : Nat → UInt8) (hc : c < n) (h : ∀ l, c < l → l < n → f l = 0) : sumK n f = sumK c f ^^^ f c := by
  induction n with
  | zero => omega
  | succ n ih =>
    show sumK n f ^^^ f n = _
    by_cases e : n = c
    · subst e; rfl
    · rw [ih (by omega) (fun l h1 h2 => h l h1 (by omega)), h n (by omega) (by omega), UInt8.xor_zero]
/-- no kernel: full rank -/
theorem rank_full {F : Ents} {r n : Nat} (hn : n ≤ r) (h : ∀ v, kerAt F r n v → ∀ j, j < n → v j = 0) : (est F r n).2 = n := by
  by_cases hk : (est F r n).2 = n
  · exact hk
  · exfalso
    obtain ⟨c, hc, hcc, hp⟩ := est_short n hk
    have hz := piv_none_at hp
    have hu := est_unit c hcc
    have hv := h (fun j => if j < c then (est F r c).1 j c else if j = c then 1 else 0) (est_ker c fun i hi => by
      rw [sumK_split _ hc (fun l h1 h2 => by simp [show ¬ l < c by omega, show ¬ l = c by omega, gmul_zero])]
      simp only [Nat.lt_irrefl, if_false, if_true, gmul_one]
      have e : sumK c (fun j => gmul ((est F r c).1 i j) (if j < c then (est F r c).1 j c else if j = c then 1 else 0)) = sumK c (fun j => gmul (idF i j) ((est F r c).1 j c)) := sumK_congr fun l hl => by
        rw [if_pos hl, hu l hl i hi]
      rw [e]
      by_cases hic : i < c
      · rw [sumK_one _ hic (fun l _ hne => by simp [idF, show ¬ i = l from fun e => hne e.symm, zero_gmul])]
        simp [idF, one_gmul]
      · rw [sumK_congr (g := fun _ => 0) (fun l hl => by simp [idF, show ¬ i = l by omega, zero_gmul]), sumK_zero, hz i (by omega) hi]
        rfl) c hc
    simp at hv
end G294

/- The row of a node of a regenerating code. -/
namespace G294
def powB (x : UInt8) (e : Nat) : UInt8 := UInt8.ofNat (gp x.toNat e)
theorem powB_toNat (x : UInt8) (e : Nat) : (powB x e).toNat = gp x.toNat e := by
  unfold powB; rw [UInt8.toNat_ofNat']; exact Nat.mod_eq_of_lt (gp_lt x.toNat_lt e)
theorem gmul_one_left (x : UInt8) : gmul 1 x = x := by
  apply UInt8.toNat_inj.1
  rw [gmul_toNat]
  exact gm_one_left x.toNat_lt
/-- a factor times the first powers of x -/
def pRow (x : UInt8) (a : Nat) (f : UInt8) : List UInt8 := mkRow a fun e => gmul f (powB x e)
def pRows (x : UInt8) (a : Nat) (fs : List UInt8) : List UInt8 := (fs.map (pRow x a)).flatten
/-- the number of a node and its factor -/
def nodX (i : Nat) : UInt8 := powB 3 (i + 1)
def nodF (i a : Nat) : UInt8 := powB (nodX i) a
def shortL (a i : Nat) : List UInt8 := mkRow a (powB (nodX i))
def rowL (a i : Nat) : List UInt8 := shortL a i ++ scaleL (nodF i a) (shortL a i)
@[simp] theorem shortL_length (a i : Nat) : (shortL a i).length = a := by simp [shortL]
@[simp] theorem rowL_length (a i : Nat) : (rowL a i).length = a + a := by simp [rowL, scaleL]
theorem pRow_one (x : UInt8) (a : Nat) : pRow x a 1 = mkRow a (powB x) := mkRow_congr fun j _ => gmul_one_left _
theorem pRow_scale (x : UInt8) (a : Nat) (f : UInt8) : pRow x a f = scaleL f (mkRow a (powB x)) := by simp [pRow, scaleL, mkRow]
theorem pRows_one (a i : Nat) : pRows (nodX i) a [1] = shortL a i := by simp [pRows, pRow_one, shortL]
theorem pRows_two (a i : Nat) : pRows (nodX i) a [1, nodF i a] = rowL a i := by
  have e : pRows (nodX i) a [1, nodF i a] = pRow (nodX i) a 1 ++ pRow (nodX i) a (nodF i a) := by simp [pRows]
  rw [e, pRow_one, pRow_scale]; rfl
theorem pRows_take (x : UInt8) (a : Nat) (fs : List UInt8) (k : Nat) (hk : k < fs.length) : pRows x a (fs.take (k + 1)) = pRows x a (fs.take k) ++ pRow x a fs[k] := by
  rw [List.take_succ_eq_append_getElem hk]; simp only [pRows, List.map_append, List.flatten_append]; simp
theorem pRows_length (x : UInt8) (a : Nat) (fs : List UInt8) : (pRows x a fs).length = fs.length * a := by
  induction fs with
  | nil => simp [pRows]
  | cons f fs ih =>
    have e : pRows x a (f :: fs) = pRow x a f ++ pRows x a fs := by simp [pRows]
    rw [e, List.length_append, ih, List.length_cons, Nat.succ_mul]
    simp [pRow]; omega
theorem mkRow_succ (n : Nat) (f : Nat → UInt8) : mkRow (n + 1) f = mkRow n f ++ [f n] := by simp [mkRow, List.range_succ]
end G294

/- Polynomials over GF(256): Horner, roots, Newton and Lagrange. -/
namespace G294
abbrev Sr := UInt8 × UInt8
theorem xx_back (a b : UInt8) : a ^^^ (a ^^^ b) = b := by rw [← UInt8.xor_assoc, UInt8.xor_self, UInt8.zero_xor]
theorem x_mid (p q r d : UInt8) : p ^^^ q ^^^ d = p ^^^ (q ^^^ r) ^^^ (r ^^^ d) := by
  rw [UInt8.xor_assoc p (q ^^^ r), UInt8.xor_assoc q r, xx_back, UInt8.xor_assoc]
/-- the value of a polynomial -/
def hor (x : UInt8) : List UInt8 → UInt8
  | [] => 0
  | c :: l => gmul (hor x l) x ^^^ c
theorem hor_zeros (x : UInt8) (n : Nat) : hor x (List.replicate n 0) = 0 := by
  induction n with
  | zero => rfl
  | succ n ih => rw [List.replicate_succ, hor, ih, zero_gmul]; rfl
theorem hor_pad (x : UInt8) (n : Nat) (l : List UInt8) : hor x (l ++ List.replicate n 0) = hor x l := by
  induction l with
  | nil => exact hor_zeros x n
  | cons c l ih => rw [List.cons_append, hor, hor, ih]
theorem hor_at0 (c : UInt8) (l : List UInt8) : hor 0 (c :: l) = c := by rw [hor, gmul_zero, UInt8.zero_xor]
theorem hor_drop (x : UInt8) (l : List UInt8) (k : Nat) (h : k < l.length) : hor x (l.drop k) = gmul (hor x (l.drop (k + 1))) x ^^^ l[k] := by
  rw [List.drop_eq_getElem_cons h, hor]
/-- synthetic division -/
def syn (a : UInt8) : List UInt8 → List UInt8
  | [] => []
  | [_] => []
  | _ :: c :: l => hor a (c :: l) :: syn a (c :: l)
theorem syn_length (a : UInt8) : ∀ l : List UInt8, (syn a l).length = l.length - 1
  | [] => rfl
  | [_] => rfl
  | _ :: c :: l => by
    have := syn_length a (c :: l)
    simp only [syn, List.length_cons] at this ⊢
    omega
theorem syn_hor (a x : UInt8) : ∀ l : List UInt8, hor x l = gmul (hor x (syn a l)) (x ^^^ a) ^^^ hor a l
  | [] => by simp [hor, syn, zero_gmul]
  | [c] => by simp [hor, syn, zero_gmul]
  | d :: c :: l => by
    have ih := syn_hor a x (c :: l)
    have e1 : hor x (d :: c :: l) = gmul (hor x (c :: l)) x ^^^ d := rfl
    have e2 : hor a (d :: c :: l) = gmul (hor a (c :: l)) a ^^^ d := rfl
    have e3 : syn a (d :: c :: l) = hor a (c :: l) :: syn a (c :: l) := rfl
    have e4 : hor x (hor a (c :: l) :: syn a (c :: l)) = gmul (hor x (syn a (c :: l))) x ^^^ hor a (c :: l) := rfl
    rw [e1, e2, e3, e4, ih]
    generalize hor x (syn a (c :: l)) = A
    generalize hor a (c :: l) = B
    rw [xor_gmul, xor_gmul, gmul_xor B, gmul_assoc A, gmul_assoc A, gmul_comm x (x ^^^ a)]
    exact x_mid _ _ _ _
theorem syn_zero (a : UInt8) : ∀ l : List UInt8, (∀ c ∈ syn a l, c = 0) → hor a l = 0 → ∀ c ∈ l, c = 0
  | [], _, _ => by simp
  | [c], _, h => by
    have : hor a [c] = c := by simp [hor, zero_gmul]
    intro d hd
    simp only [List.mem_singleton] at hd
    rw [hd, ← this, h]
  | d :: c :: l, h, h0 => by
    have e3 : syn a (d :: c :: l) = hor a (c :: l) :: syn a (c :: l) := rfl
    rw [e3] at h
    have hB := h _ (List.mem_cons_self ..)
    have ih := syn_zero a (c :: l) (fun y hy => h y (List.mem_cons_of_mem _ hy)) hB
    have e2 : hor a (d :: c :: l) = gmul (hor a (c :: l)) a ^^^ d := rfl
    rw [e2, hB, zero_gmul, UInt8.zero_xor] at h0
    intro y hy
    rcases List.mem_cons.1 hy with rfl | hy
    · exact h0
    · exact ih y hy
/-- a polynomial with no more coefficients than roots is 0 -/
theorem hor_root : ∀ (xs l : List UInt8), l.length ≤ xs.length → xs.Nodup → (∀ x ∈ xs, hor x l = 0) → ∀ c ∈ l, c = 0
  | [], l, h, _, _ => by
    have : l = [] := List.eq_nil_of_length_eq_zero (by simpa using h)
    subst this
    simp
  | a :: xs, l, h, hn, hx => by
    have h0 := hx a (List.mem_cons_self ..)
    rw [List.nodup_cons] at hn
    refine syn_zero a l (hor_root xs (syn a l) (by rw [syn_length]; simp only [List.length_cons] at h; omega) hn.2 fun x hxm => ?_) h0
    have e := syn_hor a x l
    rw [hx x (List.mem_cons_of_mem _ hxm), h0, UInt8.xor_zero, gmul_comm] at e
    refine g_cancel (x_ne (fun e' => hn.1 ?_)) e.symm
    rw [← e']; exact hxm
theorem addL_lenS (l m : List UInt8) (h : l.length = m.length) : (addL l m).length = l.length := by simp [addL, h]
theorem scaleL_lenS (a : UInt8) (l : List UInt8) : (scaleL a l).length = l.length := by simp [scaleL]
theorem hor_addL (x : UInt8) : ∀ l m : List UInt8, l.length = m.length → hor x (addL l m) = hor x l ^^^ hor x m
  | [], [], _ => by simp [addL, hor]
  | [], _ :: _, h => by simp at h
  | _ :: _, [], h => by simp at h
  | c :: l, d :: m, h => by
    have ih := hor_addL x l m (by simpa using h)
    have e : addL (c :: l) (d :: m) = (c ^^^ d) :: addL l m := rfl
    rw [e, hor, hor, hor, ih, xor_gmul, x4]
theorem hor_scaleL (x a : UInt8) : ∀ l : List UInt8, hor x (scaleL a l) = gmul a (hor x l)
  | [] => by simp [scaleL, hor, gmul_zero]
  | c :: l => by
    have ih := hor_scaleL x a l
    have e : scaleL a (c :: l) = gmul a c :: scaleL a l := rfl
    rw [e, hor, hor, ih, gmul_xor, gmul_assoc]
theorem addL_getD (l m : List UInt8) (h : l.length = m.length) (j : Nat) : (addL l m).getD j 0 = l.getD j 0 ^^^ m.getD j 0 := by
  by_cases hj : j < l.length
  · simp [addL, List.getD, List.getElem?_zipWith, hj, h ▸ hj]
  · have h1 : l[j]? = none := List.getElem?_eq_none (by omega)
    have h2 : m[j]? = none := List.getElem?_eq_none (by omega)
    simp [addL, List.getD, List.getElem?_zipWith, h1, h2]
theorem hor_inj {l m xs : List UInt8} (h : l.length = m.length) (h2 : l.length ≤ xs.length) (hn : xs.Nodup) (hx : ∀ x ∈ xs, hor x l = hor x m) : l = m := by
  have hz := hor_root xs (addL l m) (by rw [addL_lenS _ _ h]; exact h2) hn (fun x hxm => by rw [hor_addL x l m h, hx x hxm, UInt8.xor_self])
  apply List.ext_getElem h
  intro i h1 h3
  have := addL_getD l m h i
  rw [show (addL l m).getD i 0 = 0 from ?_] at this
  · simp only [List.getD, List.getElem?_eq_getElem h1, List.getElem?_eq_getElem h3, Option.getD_some] at this
    exact x_eq this.symm
  · have hl : i < (addL l m).length := by rw [addL_lenS _ _ h]; exact h1
    simp only [List.getD, List.getElem?_eq_getElem hl, Option.getD_some]
    exact hz _ (List.getElem_mem hl)
/-- the values of a polynomial with n coefficients -/
def polyF (n : Nat) (f : UInt8 → UInt8) : Prop := ∃ l : List UInt8, l.length = n ∧ ∀ x, f x = hor x l
theorem polyF.const (c : UInt8) : polyF 1 (fun _ => c) := ⟨[c], rfl, fun x => by simp [hor, zero_gmul]⟩
theorem polyF.xor {n : Nat} {f g : UInt8 → UInt8} (h : polyF n f) (k : polyF n g) : polyF n (fun x => f x ^^^ g x) := by
  obtain ⟨l, hl, hf⟩ := h
  obtain ⟨m, hm, hg⟩ := k
  exact ⟨addL l m, by rw [addL_lenS _ _ (by omega), hl], fun x => by rw [hor_addL x l m (by omega), ← hf, ← hg]⟩
theorem polyF.mulc {n : Nat} {f : UInt8 → UInt8} (a : UInt8) (h : polyF n f) : polyF n (fun x => gmul a (f x)) := by
  obtain ⟨l, hl, hf⟩ := h
  exact ⟨scaleL a l, by rw [scaleL_lenS, hl], fun x => by rw [hor_scaleL, ← hf]⟩
theorem polyF.up {n : Nat} {f : UInt8 → UInt8} (h : polyF n f) : polyF (n + 1) f := by
  obtain ⟨l, hl, hf⟩ := h
  exact ⟨l ++ List.replicate 1 0, by simp [hl], fun x => by rw [hor_pad, hf]⟩
theorem hor_cons0 (x : UInt8) (l : List UInt8) : hor x (0 :: l) = gmul (hor x l) x := by rw [hor, UInt8.xor_zero]
theorem polyF.root {n : Nat} {f : UInt8 → UInt8} (a : UInt8) (h : polyF n f) : polyF (n + 1) (fun x => gmul (f x) (x ^^^ a)) := by
  obtain ⟨l, hl, hf⟩ := h
  refine ⟨addL (0 :: l) (scaleL a l ++ List.replicate 1 0), by rw [addL_lenS _ _ (by simp [scaleL_lenS])]; simp [hl], fun x => ?_⟩
  rw [hor_addL x _ _ (by simp [scaleL_lenS]), hor_cons0, hor_pad, hor_scaleL, gmul_comm a, ← gmul_xor, ← hf]
theorem polyF.zero (n : Nat) : polyF n (fun _ => 0) := ⟨List.replicate n 0, by simp, fun x => (hor_zeros x n).symm⟩
theorem polyF.sum {n : Nat} {f : Nat → UInt8 → UInt8} : ∀ m, (∀ i, i < m → polyF n (f i)) → polyF n (fun x => sumK m fun i => f i x)
  | 0, _ => polyF.zero n
  | m + 1, h => (polyF.sum m fun i hi => h i (by omega)).xor (h m (by omega))
theorem polyF.eq {n : Nat} {f g : UInt8 → UInt8} {xs : List UInt8} (h : polyF n f) (k : polyF n g) (hn : xs.Nodup) (hl : n ≤ xs.length) (hx : ∀ x ∈ xs, f x = g x) (x : UInt8) : f x = g x := by
  obtain ⟨l, hl1, hf⟩ := h
  obtain ⟨m, hm, hg⟩ := k
  have e : l = m := hor_inj (by omega) (by omega) hn fun y hy => by rw [← hf, ← hg, hx y hy]
  rw [hf, hg, e]
theorem polyF.upto {n m : Nat} {f : UInt8 → UInt8} (h : polyF n f) (hm : n ≤ m) : polyF m f := by
  induction hm with
  | refl => exact h
  | step _ ih => exact ih.up
/-- points -/
def apartX (X : Nat → UInt8) (n : Nat) : Prop := ∀ i j, i < j → j < n → X i ≠ X j
theorem apart_ne {X : Nat → UInt8} {n i j : Nat} (h : apartX X n) (hi : i < n) (hj : j < n) (hne : i ≠ j) : X i ≠ X j := by
  rcases Nat.lt_or_gt_of_ne hne with h1 | h1
  · exact h i j h1 hj
  · exact fun e => h j i h1 hi e.symm
theorem apart_nodup {X : Nat → UInt8} {n : Nat} (h : apartX X n) : ((List.range n).map X).Nodup := by
  unfold List.Nodup
  rw [List.pairwise_map]
  exact List.Pairwise.imp_of_mem (fun {a b} ha hb hab => h a b hab (List.mem_range.1 hb)) List.pairwise_lt_range
theorem polyF.eqX {n : Nat} {f g : UInt8 → UInt8} {X : Nat → UInt8} (h : polyF n f) (k : polyF n g) (ha : apartX X n) (hx : ∀ i, i < n → f (X i) = g (X i)) (x : UInt8) : f x = g x :=
  h.eq k (apart_nodup ha) (by simp) (fun y hy => by
    obtain ⟨i, hi, rfl⟩ := List.mem_map.1 hy
    exact hx i (List.mem_range.1 hi)) x
/-- the product over all points but one -/
def upK (X : Nat → UInt8) (i : Nat) (x : UInt8) : Nat → UInt8
  | 0 => 1
  | k + 1 => if k = i then upK X i x k else gmul (upK X i x k) (x ^^^ X k)
def lagK (X Y : Nat → UInt8) (x : UInt8) (n m : Nat) : UInt8 := sumK m fun i => gmul (Y i) (gmul (upK X i x n) (ginv (upK X i (X i) n)))
/-- Lagrange's interpolation -/
def lag (X Y : Nat → UInt8) (x : UInt8) (n : Nat) : UInt8 := lagK X Y x n n
theorem upK_poly (X : Nat → UInt8) (i : Nat) : ∀ k, (k ≤ i → polyF (k + 1) (fun x => upK X i x k)) ∧ (i < k → polyF k (fun x => upK X i x k)) := by
  intro k
  induction k with
  | zero => exact ⟨fun _ => polyF.const 1, fun h => by omega⟩
  | succ k ih =>
    by_cases e : k = i
    · have : (fun x => upK X i x (k + 1)) = fun x => upK X i x k := by funext x; simp [upK, e]
      rw [this]
      exact ⟨fun h => by omega, fun _ => ih.1 (by omega)⟩
    · have : (fun x => upK X i x (k + 1)) = fun x => gmul (upK X i x k) (x ^^^ X k) := by funext x; simp [upK, e]
      rw [this]
      exact ⟨fun h => (ih.1 (by omega)).root _, fun h => (ih.2 (by omega)).root _⟩
theorem upK_zero {X : Nat → UInt8} {i j : Nat} (hne : j ≠ i) : ∀ k, j < k → upK X i (X j) k = 0 := by
  intro k
  induction k with
  | zero => intro h; omega
  | succ k ih =>
    intro h
    rw [upK]
    split
    · exact ih (by omega)
    · by_cases e : j = k
      · rw [e, UInt8.xor_self, gmul_zero]
      · rw [ih (by omega), zero_gmul]
theorem upK_ne {X : Nat → UInt8} {i : Nat} {x : UInt8} : ∀ k, (∀ j, j < k → j ≠ i → x ≠ X j) → upK X i x k ≠ 0 := by
  intro k
  induction k with
  | zero => intro _; exact (by decide : (1 : UInt8) ≠ 0)
  | succ k ih =>
    intro h
    rw [upK]
    split
    · exact ih fun j hj => h j (by omega)
    · exact g_ne (ih fun j hj => h j (by omega)) (x_ne (h k (by omega) ‹_›))
theorem lag_poly (X Y : Nat → UInt8) (n : Nat) : polyF n (fun x => lag X Y x n) := by
  refine polyF.sum n fun i hi => ?_
  have h := ((upK_poly X i n).2 hi).mulc (ginv (upK X i (X i) n))
  have h2 := h.mulc (Y i)
  have e : (fun x => gmul (Y i) (gmul (upK X i x n) (ginv (upK X i (X i) n)))) = fun x => gmul (Y i) (gmul (ginv (upK X i (X i) n)) (upK X i x n)) := by
    funext x; rw [gmul_comm (upK X i x n)]
  rw [e]
  exact h2
theorem lag_at {X Y : Nat → UInt8} {n : Nat} (ha : apartX X n) {i : Nat} (hi : i < n) : lag X Y (X i) n = Y i := by
  unfold lag lagK
  rw [sumK_one _ hi fun l hl hne => by rw [upK_zero (Ne.symm hne) n hi, zero_gmul, gmul_zero]]
  rw [gmul_ginv (upK_ne n fun j hj hne => apart_ne ha hi hj (Ne.symm hne)), gmul_one]
theorem lag_eq {X Y : Nat → UInt8} {n : Nat} {f : UInt8 → UInt8} (ha : apartX X n) (hf : polyF n f) (h : ∀ i, i < n → f (X i) = Y i) (x : UInt8) : lag X Y x n = f x :=
  (lag_poly X Y n).eqX hf ha (fun i hi => by rw [lag_at ha hi, h i hi]) x
theorem lag_xor (X Y Z : Nat → UInt8) (x : UInt8) (n : Nat) : lag X (fun i => Y i ^^^ Z i) x n = lag X Y x n ^^^ lag X Z x n := by
  unfold lag lagK
  rw [← sumK_xor]
  exact sumK_congr fun l _ => xor_gmul _ _ _
theorem upK_congr {X X' : Nat → UInt8} {i : Nat} {x : UInt8} : ∀ k, (∀ j, j < k → X j = X' j) → upK X i x k = upK X' i x k := by
  intro k
  induction k with
  | zero => intro _; rfl
  | succ k ih => intro h; rw [upK, upK, ih fun j hj => h j (by omega), h k (by omega)]
theorem lag_congr {X X' Y Y' : Nat → UInt8} {x : UInt8} {n : Nat} (h : ∀ j, j < n → X j = X' j) (h' : ∀ j, j < n → Y j = Y' j) : lag X Y x n = lag X' Y' x n := by
  unfold lag lagK
  exact sumK_congr fun l hl => by rw [upK_congr n h, upK_congr n h, h l hl, h' l hl]
/-- a polynomial's first coefficients -/
theorem hor_take (x : UInt8) : ∀ (l : List UInt8) (n : Nat), (∀ j, n ≤ j → l.getD j 0 = 0) → hor x (l.take n) = hor x l
  | [], n, _ => by simp
  | c :: l, 0, h => by
    have h0 : c = 0 := h 0 (by omega)
    have ih := hor_take x l 0 (fun j _ => h (j + 1) (by omega))
    rw [List.take_zero] at ih ⊢
    have e : hor x (c :: l) = gmul (hor x l) x ^^^ c := rfl
    rw [e, ← ih, h0]
    simp [hor, zero_gmul]
  | c :: l, n + 1, h => by
    have ih := hor_take x l n (fun j hj => h (j + 1) (by omega))
    rw [List.take_succ_cons, hor, hor, ih]
theorem hor_short {l : List UInt8} {n : Nat} (hl : n ≤ l.length) (h : ∀ j, n ≤ j → l.getD j 0 = 0) : polyF n (fun x => hor x l) :=
  ⟨l.take n, by simp; omega, fun x => (hor_take x l n h).symm⟩
/-- Newton's interpolation, as arrays of 20 coefficients -/
def addC (f : UInt8) (P V : List UInt8) : List UInt8 := addL P (scaleL f V)
def wrC (r : UInt8) (V : List UInt8) : List UInt8 := addL (0 :: V.take 19) (scaleL r V)
def xF (l : List Sr) (i : Nat) : UInt8 := (l.getD i (0, 0)).1
def yF (l : List Sr) (i : Nat) : UInt8 := (l.getD i (0, 0)).2
def nwK (l : List Sr) : Nat → List UInt8 × List UInt8
  | 0 => (List.replicate 20 0, 1 :: List.replicate 19 0)
  | k + 1 => (addC (gmul (yF l k ^^^ hor (xF l k) (nwK l k).1) (ginv (hor (xF l k) (nwK l k).2))) (nwK l k).1 (nwK l k).2, wrC (xF l k) (nwK l k).2)
def thr (l : List Sr) : List UInt8 := (nwK l l.length).1
def prK (X : Nat → UInt8) (x : UInt8) : Nat → UInt8
  | 0 => 1
  | k + 1 => gmul (prK X x k) (x ^^^ X k)
theorem prK_zero {X : Nat → UInt8} {j : Nat} : ∀ k, j < k → prK X (X j) k = 0 := by
  intro k
  induction k with
  | zero => intro h; omega
  | succ k ih =>
    intro h
    rw [prK]
    by_cases e : j = k
    · rw [e, UInt8.xor_self, gmul_zero]
    · rw [ih (by omega), zero_gmul]
theorem prK_ne {X : Nat → UInt8} {x : UInt8} : ∀ k, (∀ j, j < k → x ≠ X j) → prK X x k ≠ 0 := by
  intro k
  induction k with
  | zero => intro _; exact (by decide : (1 : UInt8) ≠ 0)
  | succ k ih => intro h; rw [prK]; exact g_ne (ih fun j hj => h j (by omega)) (x_ne (h k (by omega)))
theorem rep_getD (n j : Nat) : (List.replicate n (0 : UInt8)).getD j 0 = 0 := by
  by_cases h : j < n <;> simp [List.getD, h]
theorem nw_len (l : List Sr) : ∀ k, (nwK l k).1.length = 20 ∧ (nwK l k).2.length = 20 := by
  intro k
  induction k with
  | zero => simp [nwK]
  | succ k ih =>
    refine ⟨?_, ?_⟩
    · show (addL _ (scaleL _ _)).length = 20
      rw [addL_lenS _ _ (by rw [scaleL_lenS, ih.1, ih.2]), ih.1]
    · show (addL (0 :: (nwK l k).2.take 19) (scaleL _ _)).length = 20
      rw [addL_lenS _ _ (by rw [scaleL_lenS]; simp [ih.2])]; simp [ih.2]
theorem wr_getD {V : List UInt8} (hV : V.length = 20) (r : UInt8) (j : Nat) (h1 : ∀ i, j ≤ i + 1 → V.getD i 0 = 0) (hj : 0 < j) : (wrC r V).getD j 0 = 0 := by
  unfold wrC
  rw [addL_getD _ _ (by rw [scaleL_lenS]; simp [hV]), getD_scale, h1 j (by omega), gmul_zero, UInt8.xor_zero]
  obtain ⟨i, rfl⟩ : ∃ i, j = i + 1 := ⟨j - 1, by omega⟩
  show (V.take 19).getD i 0 = 0
  have := h1 i (by omega)
  by_cases hi : i < 19
  · simp only [List.getD, List.getElem?_take, hi, if_true] at this ⊢
    exact this
  · simp [List.getD, List.getElem?_take, hi]
theorem hor_wr {V : List UInt8} (hV : V.length = 20) (h0 : V.getD 19 0 = 0) (r x : UInt8) : hor x (wrC r V) = gmul (hor x V) (x ^^^ r) := by
  unfold wrC
  have hz : ∀ j, 19 ≤ j → V.getD j 0 = 0 := fun j hj => by
    by_cases e : j = 19
    · rw [e, h0]
    · simp [List.getD, List.getElem?_eq_none (show V.length ≤ j by omega)]
  rw [hor_addL x _ _ (by rw [scaleL_lenS]; simp [hV]), hor_cons0, hor_take x V 19 hz, hor_scaleL, gmul_xor, gmul_comm r]
theorem nw_ok {l : List Sr} (h20 : l.length ≤ 20) (ha : apartX (xF l) l.length) : ∀ k, k ≤ l.length →
    (∀ j, k ≤ j → (nwK l k).1.getD j 0 = 0) ∧ (∀ j, k < j → (nwK l k).2.getD j 0 = 0) ∧ (k ≤ 19 → ∀ x, hor x (nwK l k).2 = prK (xF l) x k) ∧ (∀ i, i < k → hor (xF l i) (nwK l k).1 = yF l i) := by
  intro k
  induction k with
  | zero =>
    intro _
    refine ⟨fun j _ => rep_getD 20 j, fun j hj => ?_, fun _ x => ?_, fun i hi => by omega⟩
    · obtain ⟨i, rfl⟩ : ∃ i, j = i + 1 := ⟨j - 1, by omega⟩
      exact rep_getD 19 i
    · show hor x (1 :: List.replicate 19 0) = 1
      rw [hor, hor_zeros, zero_gmul]; rfl
  | succ k ih =>
    intro hk
    obtain ⟨i1, i2, i3, i4⟩ := ih (by omega)
    obtain ⟨l1, l2⟩ := nw_len l k
    have hP : ∀ x, hor x (nwK l (k + 1)).1 = hor x (nwK l k).1 ^^^ gmul (gmul (yF l k ^^^ hor (xF l k) (nwK l k).1) (ginv (hor (xF l k) (nwK l k).2))) (hor x (nwK l k).2) := fun x => by
      show hor x (addL _ (scaleL _ _)) = _
      rw [hor_addL x _ _ (by rw [scaleL_lenS, l1, l2]), hor_scaleL]
    have hv := i3 (by omega)
    have hne : prK (xF l) (xF l k) k ≠ 0 := prK_ne k fun j hj => Ne.symm (ha j k hj (by omega))
    refine ⟨fun j hj => ?_, fun j hj => ?_, fun h19 x => ?_, fun i hi => ?_⟩
    · show (addL _ (scaleL _ _)).getD j 0 = 0
      rw [addL_getD _ _ (by rw [scaleL_lenS, l1, l2]), getD_scale, i1 j (by omega), i2 j (by omega), gmul_zero]; rfl
    · exact wr_getD l2 _ j (fun i hi => i2 i (by omega)) (by omega)
    · show hor x (wrC _ _) = _
      rw [hor_wr l2 (i2 19 (by omega)), prK, hv]
    · rw [hP]
      by_cases e : i = k
      · rw [e, hv, gmul_assoc, ginv_gmul hne, gmul_one, UInt8.xor_comm (yF l k), xx_back]
      · rw [hv (xF l i), prK_zero k (by omega), gmul_zero, UInt8.xor_zero, i4 i (by omega)]
theorem thr_len (l : List Sr) : (thr l).length = 20 := (nw_len l _).1
theorem thr_at {l : List Sr} (h20 : l.length ≤ 20) (ha : apartX (xF l) l.length) {i : Nat} (hi : i < l.length) : hor (xF l i) (thr l) = yF l i := (nw_ok h20 ha _ (Nat.le_refl _)).2.2.2 i hi
theorem thr_high {l : List Sr} (h20 : l.length ≤ 20) (ha : apartX (xF l) l.length) {j : Nat} (hj : l.length ≤ j) : (thr l).getD j 0 = 0 := (nw_ok h20 ha _ (Nat.le_refl _)).1 j hj
/-- Newton's is Lagrange's -/
theorem thr_lag {l : List Sr} (h20 : l.length ≤ 20) (ha : apartX (xF l) l.length) (x : UInt8) : hor x (thr l) = lag (xF l) (yF l) x l.length :=
  (lag_eq ha (hor_short (by rw [thr_len]; exact h20) fun j hj => thr_high h20 ha hj) (fun i hi => thr_at h20 ha hi) x).symm
theorem xF_take (l : List Sr) (m i : Nat) (h : i < m) : xF (l.take m) i = xF l i := by simp [xF, List.getD, List.getElem?_take, h]
theorem yF_take (l : List Sr) (m i : Nat) (h : i < m) : yF (l.take m) i = yF l i := by simp [yF, List.getD, List.getElem?_take, h]
theorem nw_take (l : List Sr) (m : Nat) : ∀ k, k ≤ m → nwK (l.take m) k = nwK l k := by
  intro k
  induction k with
  | zero => intro _; rfl
  | succ k ih => intro h; rw [nwK, nwK, ih (by omega), xF_take l m k (by omega), yF_take l m k (by omega)]
theorem addC_zero (P V : List UInt8) (h : P.length = V.length) : addC 0 P V = P := by
  apply List.ext_getElem (by unfold addC; rw [addL_lenS _ _ (by rw [scaleL_lenS, h])])
  intro i h1 h2
  have hV : i < V.length := by omega
  simp [addC, addL, scaleL, zero_gmul]
/-- shares lie on the polynomial of the first m exactly if they don't change it -/
theorem thr_same {l : List Sr} (h20 : l.length ≤ 20) (ha : apartX (xF l) l.length) {m : Nat} (hm : m ≤ l.length) : thr (l.take m) = thr l ↔ ∀ i, m ≤ i → i < l.length → lag (xF l) (yF l) (xF l i) m = yF l i := by
  have hlm : (l.take m).length = m := by simp; omega
  have e1 : thr (l.take m) = (nwK l m).1 := by unfold thr; rw [hlm, nw_take l m m (Nat.le_refl _)]
  have ha' : apartX (xF (l.take m)) (l.take m).length := fun i j hij hj => by
    rw [hlm] at hj
    rw [xF_take l m i (by omega), xF_take l m j hj]
    exact ha i j hij (by omega)
  have e2 : ∀ x, hor x (thr (l.take m)) = lag (xF l) (yF l) x m := fun x => by
    rw [thr_lag (by omega) ha', hlm]
    exact lag_congr (fun j hj => xF_take l m j hj) (fun j hj => yF_take l m j hj)
  constructor
  · intro h i _ hi
    rw [← e2, h]
    exact thr_at h20 ha hi
  · intro h
    rw [e1]
    have : ∀ d, m + d ≤ l.length → (nwK l (m + d)).1 = (nwK l m).1 := by
      intro d
      induction d with
      | zero => intro _; rfl
      | succ d ih =>
        intro hd
        have i0 := ih (by omega)
        have es : (nwK l (m + (d + 1))).1 = addC (gmul (yF l (m + d) ^^^ hor (xF l (m + d)) (nwK l (m + d)).1) (ginv (hor (xF l (m + d)) (nwK l (m + d)).2))) (nwK l (m + d)).1 (nwK l (m + d)).2 := rfl
        rw [es, i0, ← e1, e2, h (m + d) (by omega) (by omega), UInt8.xor_self, zero_gmul, e1]
        exact addC_zero _ _ (by rw [(nw_len l m).1, (nw_len l (m + d)).2])
    have := this (l.length - m) (by omega)
    rw [Nat.add_sub_cancel' hm] at this
    exact this.symm
/-- valid shares -/
def prX (l : List Sr) (i : Nat) : UInt8 := if i = 0 then 0 else xF l (i - 1)
def shrOk (l : List Sr) : Bool := decide (l.length ≤ 20 ∧ ∀ i, i < l.length → prX l i < xF l i)
theorem shrOk_iff (l : List Sr) : shrOk l = true ↔ l.length ≤ 20 ∧ ∀ i, i < l.length → prX l i < xF l i := by simp only [shrOk, decide_eq_true_eq]
theorem shr_lt {l : List Sr} (h : shrOk l = true) : ∀ j i, i < j → j < l.length → xF l i < xF l j := by
  obtain ⟨_, h2⟩ := (shrOk_iff l).1 h
  intro j
  induction j with
  | zero => intro i hi; omega
  | succ j ih =>
    intro i hi hj
    have := h2 (j + 1) hj
    simp only [prX, Nat.add_sub_cancel, if_neg (show ¬ j + 1 = 0 by omega)] at this
    by_cases e : i = j
    · rw [e]; exact this
    · exact UInt8.lt_trans (ih i (by omega) (by omega)) this
theorem shr_apart {l : List Sr} (h : shrOk l = true) : apartX (xF l) l.length := fun i j hij hj e => by
  have := shr_lt h j i hij hj
  rw [e] at this
  exact absurd this (UInt8.lt_irrefl _)
theorem shr_pos {l : List Sr} (h : shrOk l = true) (i : Nat) (hi : i < l.length) : xF l i ≠ 0 := fun e => by
  have := ((shrOk_iff l).1 h).2 i hi
  rw [e] at this
  exact absurd this (by simp [UInt8.lt_iff_toNat_lt])
theorem shr_20 {l : List Sr} (h : shrOk l = true) : l.length ≤ 20 := ((shrOk_iff l).1 h).1
end G294

/- The random bytes that fit to shares: one solution of equations of powers. -/
namespace G294
theorem powB_zero (x : UInt8) : powB x 0 = 1 := by
  apply UInt8.toNat_inj.1; rw [powB_toNat]; rfl
theorem powB_succ (x : UInt8) (n : Nat) : powB x (n + 1) = gmul (powB x n) x := by
  apply UInt8.toNat_inj.1
  rw [gmul_toNat, powB_toNat, powB_toNat]; rfl
theorem hor_snoc (x c : UInt8) (l : List UInt8) : hor x (l ++ [c]) = hor x l ^^^ gmul (powB x l.length) c := by
  induction l with
  | nil => simp [hor, zero_gmul, powB_zero, one_gmul]
  | cons d l ih =>
    rw [List.cons_append, hor, ih, hor, List.length_cons, powB_succ, xor_gmul, gmul_assoc, gmul_assoc, gmul_comm c x]
    rw [UInt8.xor_assoc, UInt8.xor_assoc, UInt8.xor_comm d]
theorem hor_mk (x : UInt8) (f : Nat → UInt8) (n : Nat) : hor x (mkRow n f) = sumK n fun j => gmul (powB x j) (f j) := by
  induction n with
  | zero => rfl
  | succ n ih => rw [mkRow_succ, hor_snoc, ih, sumK]; simp
theorem hor_up (x : UInt8) (f : Nat → UInt8) (n : Nat) : gmul (hor x (mkRow n f)) x = sumK n fun j => gmul (powB x (j + 1)) (f j) := by
  rw [hor_mk, ← sumK_mulr]
  exact sumK_congr fun j _ => by rw [powB_succ, gmul_assoc, gmul_assoc, gmul_comm x]
def rndF (l : List Sr) : Ents := fun i j => powB (xF l i) (j + 1)
theorem rnd_full {l : List Sr} (h : shrOk l = true) : (est (rndF l) l.length l.length).2 = l.length := by
  refine rank_full (Nat.le_refl _) fun v hv j hj => ?_
  have hz := hor_root ((List.range l.length).map (xF l)) (mkRow l.length v) (by simp) (apart_nodup (shr_apart h)) (fun x hx => by
    obtain ⟨i, hi, rfl⟩ := List.mem_map.1 hx
    have hi := List.mem_range.1 hi
    have := hv i hi
    simp only [rndF] at this
    rw [← hor_up, gmul_comm] at this
    exact g_cancel (shr_pos h i hi) this)
  have hl : j < (mkRow l.length v).length := by simpa using hj
  have := hz _ (List.getElem_mem hl)
  rwa [mkRow_get] at this
def rndP (l : List Sr) (s : UInt8) : List UInt8 := thr ((0, s) :: l)
theorem rnd_apart {l : List Sr} (h : shrOk l = true) (s : UInt8) : apartX (xF ((0, s) :: l)) ((0, s) :: l).length := by
  intro i j hij hj
  obtain ⟨j, rfl⟩ : ∃ j', j = j' + 1 := ⟨j - 1, by omega⟩
  have hj' : j < l.length := by simpa using hj
  cases i with
  | zero => exact fun e => shr_pos h j hj' e.symm
  | succ i => exact shr_apart h i j (by omega) hj'
theorem rnd_len (l : List Sr) (s : UInt8) : (rndP l s).length = 20 := thr_len _
theorem rnd_cons {l : List Sr} (h : shrOk l = true) (h19 : l.length ≤ 19) (s : UInt8) : ∃ T, rndP l s = s :: T ∧ T.length = 19 ∧ ∀ j, l.length ≤ j → T.getD j 0 = 0 := by
  have hl := rnd_len l s
  have h0 := thr_at (l := (0, s) :: l) (by simp; omega) (rnd_apart h s) (i := 0) (by simp)
  have hh := fun j (hj : l.length ≤ j) => thr_high (l := (0, s) :: l) (by simp; omega) (rnd_apart h s) (j := j + 1) (by simp; omega)
  change hor 0 (rndP l s) = s at h0
  change ∀ j, l.length ≤ j → (rndP l s).getD (j + 1) 0 = 0 at hh
  generalize rndP l s = P at *
  cases P with
  | nil => simp at hl
  | cons p T =>
    rw [hor_at0] at h0
    exact ⟨T, by rw [h0], by simpa using hl, hh⟩
theorem take_mkRow (T : List UInt8) (n : Nat) (h : n ≤ T.length) : T.take n = mkRow n (fun j => T.getD j 0) := by
  apply List.ext_getElem
  · simp; omega
  · intro i h1 h2
    have hi : i < T.length := by simp at h1; omega
    rw [mkRow_get, List.getElem_take]
    simp [List.getD, hi]
theorem rnd_val {l : List Sr} (h : shrOk l = true) (h19 : l.length ≤ 19) (s x : UInt8) : hor x (rndP l s) = gmul (hor x (mkRow l.length fun j => (rndP l s).getD (j + 1) 0)) x ^^^ s := by
  obtain ⟨T, hT, hl, hz⟩ := rnd_cons h h19 s
  rw [hT, hor, ← hor_take x T l.length hz, take_mkRow T _ (by omega)]
  rfl
theorem rnd_at {l : List Sr} (h : shrOk l = true) (h19 : l.length ≤ 19) (s : UInt8) {i : Nat} (hi : i < l.length) : hor (xF l i) (rndP l s) = yF l i :=
  thr_at (l := (0, s) :: l) (by simp; omega) (rnd_apart h s) (i := i + 1) (by simpa using hi)
theorem rnd_left {l : List Sr} (h : shrOk l = true) (h19 : l.length ≤ 19) (s : UInt8) {i : Nat} (hi : i < l.length) : sumK l.length (fun j => gmul (rndF l i j) ((rndP l s).getD (j + 1) 0)) = yF l i ^^^ s := by
  have h1 := rnd_at h h19 s hi
  rw [rnd_val h h19, hor_up] at h1
  rw [← h1, UInt8.xor_assoc, UInt8.xor_self, UInt8.xor_zero]
  rfl
theorem rnd_sol {l : List Sr} (h : shrOk l = true) (h19 : l.length ≤ 19) (s : UInt8) {i : Nat} (hi : i < l.length) :
    sumK l.length (fun k => gmul (bst (rndF l) idF l.length l.length i k) (yF l k ^^^ s)) = (rndP l s).getD (i + 1) 0 := by
  have e : sumK l.length (fun k => gmul (bst (rndF l) idF l.length l.length i k) (yF l k ^^^ s)) = sumK l.length (fun k => sumK l.length fun j => gmul (gmul (bst (rndF l) idF l.length l.length i k) (rndF l k j)) ((rndP l s).getD (j + 1) 0)) :=
    sumK_congr fun k hk => by
      rw [← rnd_left h h19 s hk, ← sumK_mul]
      exact sumK_congr fun j _ => by rw [gmul_assoc]
  rw [e, sumK_swap]
  rw [sumK_congr (g := fun j => gmul (idF i j) ((rndP l s).getD (j + 1) 0)) (fun j hj => by rw [sumK_mulr, inv_left (rnd_full h) hi hj])]
  rw [sumK_one _ hi fun j _ hne => by rw [show idF i j = 0 from if_neg (Ne.symm hne), zero_gmul]]
  rw [show idF i i = 1 from if_pos rfl, one_gmul]
end G294

/- What chapter 7's functions answer. -/
namespace G294
def polOk (l : List UInt8) : Bool := decide (l.length ≤ 20)
def polR (l : List UInt8) (x : UInt8) : UInt8 := if l.length ≤ 20 then hor x l else 0
def shaL (s : UInt8) (l : List UInt8) (n : Nat) : List Sr := (List.range n).map fun i => (UInt8.ofNat (i + 1), hor (UInt8.ofNat (i + 1)) (s :: l))
@[simp] theorem shaL_length (s : UInt8) (l : List UInt8) (n : Nat) : (shaL s l n).length = n := by simp [shaL]
theorem shaL_get (s : UInt8) (l : List UInt8) (n k : Nat) (h : k < n) : (shaL s l n)[k]? = some (UInt8.ofNat (k + 1), hor (UInt8.ofNat (k + 1)) (s :: l)) := by simp [shaL, h]
def shaOk (l : List UInt8) (n : Int) : Bool := decide (l.length ≤ 8) && decide (1 ≤ n ∧ n ≤ 20)
def shaR (s : UInt8) (l : List UInt8) (n : Int) : List Sr := if shaOk l n = true then shaL s l n.toNat else []
theorem shaR_yes {s : UInt8} {l : List UInt8} {n : Int} (h : shaOk l n = true) : shaR s l n = shaL s l n.toNat := if_pos h
theorem shaR_no {s : UInt8} {l : List UInt8} {n : Int} (h : shaOk l n = false) : shaR s l n = [] := if_neg (by rw [h]; simp)
theorem shaR_len (s : UInt8) (l : List UInt8) (n : Int) : (shaR s l n).length ≤ 20 := by
  unfold shaR; split
  · rename_i h
    simp only [shaOk, Bool.and_eq_true, decide_eq_true_eq] at h
    simp; omega
  · simp
def intOk (l : List Sr) : Bool := shrOk l && decide (0 < l.length)
def intR (l : List Sr) (x : UInt8) : UInt8 := if intOk l = true then lag (xF l) (yF l) x l.length else 0
def opnOk (l : List Sr) (k : Int) : Bool := shrOk l && decide (1 ≤ k ∧ k ≤ l.length)
def opnR (l : List Sr) (k : Int) : UInt8 := if opnOk l k = true then lag (xF l) (yF l) 0 k.toNat else 0
def onAll (l : List Sr) (k : Nat) : Bool := decide (∀ i, i < l.length → k ≤ i → lag (xF l) (yF l) (xF l i) k = yF l i)
def isSOk (l : List Sr) (k : Int) : Bool := shrOk l && decide (1 ≤ k ∧ k ≤ 20)
def isSR (l : List Sr) (k : Int) : Bool := isSOk l k && onAll l k.toNat
def sameX (a b : List Sr) : Bool := decide (a.length = b.length ∧ ∀ i, i < a.length → xF a i = xF b i)
def adsOk (a b : List Sr) : Bool := shrOk a && shrOk b && sameX a b
def adsL (a b : List Sr) : List Sr := (List.range a.length).map fun i => (xF a i, yF a i ^^^ yF b i)
@[simp] theorem adsL_length (a b : List Sr) : (adsL a b).length = a.length := by simp [adsL]
theorem adsL_get (a b : List Sr) (k : Nat) (h : k < a.length) : (adsL a b)[k]? = some (xF a k, yF a k ^^^ yF b k) := by simp [adsL, h]
def adsR (a b : List Sr) : List Sr := if adsOk a b = true then adsL a b else []
theorem adsR_len (a b : List Sr) : (adsR a b).length ≤ 20 := by
  unfold adsR; split
  · rename_i h
    simp only [adsOk, Bool.and_eq_true] at h
    have := shr_20 h.1.1
    simpa using this
  · simp
def refOk (l : List Sr) (r : List UInt8) : Bool := shrOk l && decide (r.length ≤ 8)
def refL (l : List Sr) (r : List UInt8) : List Sr := (List.range l.length).map fun i => (xF l i, yF l i ^^^ hor (xF l i) (0 :: r))
@[simp] theorem refL_length (l : List Sr) (r : List UInt8) : (refL l r).length = l.length := by simp [refL]
theorem refL_get (l : List Sr) (r : List UInt8) (k : Nat) (h : k < l.length) : (refL l r)[k]? = some (xF l k, yF l k ^^^ hor (xF l k) (0 :: r)) := by simp [refL, h]
def refR (l : List Sr) (r : List UInt8) : List Sr := if refOk l r = true then refL l r else []
theorem refR_len (l : List Sr) (r : List UInt8) : (refR l r).length ≤ 20 := by
  unfold refR; split
  · rename_i h
    simp only [refOk, Bool.and_eq_true] at h
    have := shr_20 h.1
    simpa using this
  · simp
def rndOk (l : List Sr) : Bool := shrOk l && decide (l.length ≤ 8)
def rndL (l : List Sr) (s : UInt8) : List UInt8 := mkRow l.length fun j => (rndP l s).getD (j + 1) 0
def rndR (l : List Sr) (s : UInt8) : List UInt8 := if rndOk l = true then rndL l s else []
theorem rndR_len (l : List Sr) (s : UInt8) : (rndR l s).length ≤ 8 := by
  unfold rndR; split
  · rename_i h
    simp only [rndOk, Bool.and_eq_true, decide_eq_true_eq] at h
    simpa [rndL] using h.2
  · simp
theorem at_xy {l : List Sr} {k : Nat} {s : Sr} (h : l[k]? = some s) : s.1 = xF l k ∧ s.2 = yF l k := by simp [xF, yF, List.getD, h]
/-- a list padded to 20 -/
def pad20 (l : List UInt8) : List UInt8 := l ++ List.replicate (20 - l.length) 0
theorem pad20_length {l : List UInt8} (h : l.length ≤ 20) : (pad20 l).length = 20 := by simp [pad20]; omega
theorem hor_pad20 (x : UInt8) (l : List UInt8) : hor x (pad20 l) = hor x l := hor_pad x _ l
def xsL (l : List Sr) : List UInt8 := l.map (·.1)
theorem pad20_getD (l : List UInt8) (j : Nat) : (pad20 l).getD j 0 = l.getD j 0 := by
  unfold pad20
  simp only [List.getD]
  by_cases h : j < l.length
  · rw [List.getElem?_append_left h]
  · rw [List.getElem?_append_right (by omega), List.getElem?_eq_none (show l.length ≤ j by omega), List.getElem?_replicate]
    split <;> simp
theorem xsL_getD (l : List Sr) (j : Nat) : (xsL l).getD j 0 = xF l j := by
  simp only [xsL, xF, List.getD, List.getElem?_map]
  cases l[j]? <;> simp
theorem places_iff {a b : List Sr} (ha : shrOk a = true) (hb : shrOk b = true) : pad20 (xsL a) = pad20 (xsL b) ↔ sameX a b = true := by
  have key : ∀ j, (pad20 (xsL a)).getD j 0 = xF a j := fun j => by rw [pad20_getD, xsL_getD]
  have key' : ∀ j, (pad20 (xsL b)).getD j 0 = xF b j := fun j => by rw [pad20_getD, xsL_getD]
  have za : ∀ j, a.length ≤ j → xF a j = 0 := fun j h => by simp [xF, List.getD, List.getElem?_eq_none h]
  have zb : ∀ j, b.length ≤ j → xF b j = 0 := fun j h => by simp [xF, List.getD, List.getElem?_eq_none h]
  simp only [sameX, decide_eq_true_eq]
  constructor
  · intro e
    have hx : ∀ j, xF a j = xF b j := fun j => by rw [← key, ← key', e]
    refine ⟨?_, fun j _ => hx j⟩
    rcases Nat.lt_trichotomy a.length b.length with h | h | h
    · exact absurd (by rw [← hx]; exact za _ (Nat.le_refl _)) (shr_pos hb a.length h)
    · exact h
    · exact absurd (by rw [hx]; exact zb _ (Nat.le_refl _)) (shr_pos ha b.length h)
  · rintro ⟨hl, hx⟩
    have : xsL a = xsL b := by
      apply List.ext_getElem (by simpa [xsL] using hl)
      intro i h1 h2
      have hi : i < a.length := by simpa [xsL] using h1
      have hi' : i < b.length := by omega
      have := hx i hi
      simp [xF, List.getD, hi, hi'] at this
      simpa [xsL] using this
    rw [this]
end G294

/- Chapter 8: what the functions answer: generators, remainders, syndromes, words. -/
namespace G294
def mulF (r : UInt8) (a : List UInt8) (i : Nat) (p : Nat) : UInt8 := (if p = 0 then 0 else if p - 1 < i then a.getD (p - 1) 0 else 0) ^^^ (if p < i then gmul (a.getD p 0) r else 0)
/-- a polynomial times x + r -/
def mulR (r : UInt8) (a : List UInt8) : List UInt8 := mkRow (a.length + 1) (mulF r a a.length)
@[simp] theorem mulR_length (r : UInt8) (a : List UInt8) : (mulR r a).length = a.length + 1 := by simp [mulR]
theorem mulF_zero (r : UInt8) (a : List UInt8) (p : Nat) : mulF r a 0 p = 0 := by
  unfold mulF; simp
theorem mulF_step (r : UInt8) (a : List UInt8) (i : Nat) (p : Nat) :
    (if p = i + 1 then mulF r a i (i + 1) ^^^ gmul (a.getD i 0) 1 else if p = i then mulF r a i i ^^^ gmul (a.getD i 0) r else mulF r a i p) = mulF r a (i + 1) p := by
  unfold mulF
  rw [gmul_one]
  by_cases h1 : p = i + 1
  · subst h1; simp [show ¬ i + 1 < i by omega]
  · by_cases h2 : p = i
    · subst h2
      by_cases h3 : p = 0
      · subst h3; simp
      · simp [h3, show p - 1 < p by omega, show p - 1 < p + 1 by omega]
    · rw [if_neg h1, if_neg h2]
      by_cases h3 : p = 0
      · subst h3; simp [show 0 < i by omega]
      · by_cases h4 : p < i
        · simp [h3, h4, show p - 1 < i by omega, show p - 1 < i + 1 by omega, show p < i + 1 by omega]
        · simp [h3, h4, show ¬ p - 1 < i by omega, show ¬ p - 1 < i + 1 by omega, show ¬ p < i + 1 by omega]
theorem mulF_end (r : UInt8) (a : List UInt8) (p : Nat) : mulF r a a.length p = (if p = 0 then 0 else a.getD (p - 1) 0) ^^^ gmul (a.getD p 0) r := by
  unfold mulF
  have e1 : (if p - 1 < a.length then a.getD (p - 1) 0 else 0) = a.getD (p - 1) 0 := by
    split
    · rfl
    · rename_i h; simp [List.getD, List.getElem?_eq_none (Nat.not_lt.1 h)]
  have e2 : (if p < a.length then gmul (a.getD p 0) r else 0) = gmul (a.getD p 0) r := by
    split
    · rfl
    · rename_i h; simp [List.getD, List.getElem?_eq_none (Nat.not_lt.1 h), zero_gmul]
  rw [e1, e2]
theorem mulR_getD (r : UInt8) (a : List UInt8) (p : Nat) (hp : p < a.length + 1) : (mulR r a).getD p 0 = (if p = 0 then 0 else a.getD (p - 1) 0) ^^^ gmul (a.getD p 0) r := by
  unfold mulR; rw [mkRow_getD _ _ _ hp, mulF_end]
/-- the generator: a factor for each of the first n powers of 3 -/
def genL : Nat → List UInt8
  | 0 => [1]
  | n + 1 => mulR (powB 3 (n + 1)) (genL n)
@[simp] theorem genL_length : ∀ n, (genL n).length = n + 1
  | 0 => rfl
  | n + 1 => by rw [genL, mulR_length, genL_length n]
theorem ext_getD {l m : List UInt8} (hl : l.length = m.length) (h : ∀ j, j < l.length → l.getD j 0 = m.getD j 0) : l = m := by
  refine List.ext_getElem hl fun j h1 h2 => ?_
  have := h j h1
  simpa [List.getD, h1, h2] using this
theorem wr_pad (r : UInt8) (a : List UInt8) (h : a.length ≤ 19) : wrC r (pad20 a) = pad20 (mulR r a) := by
  have hp : (pad20 a).length = 20 := pad20_length (by omega)
  have hw : (0 :: (pad20 a).take 19).length = (pad20 a).length := by simp [hp]
  have hwl : (wrC r (pad20 a)).length = 20 := by
    unfold wrC; rw [addL_lenS _ _ (by rw [scaleL_lenS]; exact hw), hw, hp]
  refine ext_getD (by rw [hwl, pad20_length (by simp; omega)]) fun j hj => ?_
  rw [hwl] at hj
  rw [pad20_getD]
  unfold wrC
  rw [addL_getD _ _ (by rw [scaleL_lenS]; exact hw), getD_scale, pad20_getD, gmul_comm r]
  have e1 : (0 :: (pad20 a).take 19).getD j 0 = if j = 0 then 0 else a.getD (j - 1) 0 := by
    cases j with
    | zero => rfl
    | succ j =>
      rw [if_neg (by omega), Nat.add_sub_cancel, ← pad20_getD a j]
      simp [List.getD, List.getElem?_take, show j < 19 by omega]
  rw [e1]
  rcases Nat.lt_or_ge j (a.length + 1) with h1 | h1
  · rw [mulR_getD r a j h1]
  · have e2 : (mulR r a).getD j 0 = 0 := by simp [List.getD, List.getElem?_eq_none (show (mulR r a).length ≤ j by simpa using h1)]
    have e3 : ∀ q, a.length ≤ q → a.getD q 0 = 0 := fun q hq => by simp [List.getD, List.getElem?_eq_none hq]
    rw [e2, e3 j (by omega), if_neg (by omega), e3 (j - 1) (by omega), zero_gmul]; rfl
theorem pad_take (a : List UInt8) : (pad20 a).take a.length = a := by simp [pad20]
/-- t wrong bytes -/
def errT (t : Int) : Bool := decide (1 ≤ t ∧ t ≤ 4)
def genR (t : Int) : List UInt8 := if errT t = true then genL (2 * t.toNat) else []
theorem genR_len (t : Int) : (genR t).length ≤ 9 := by
  unfold genR; split
  · rename_i h
    simp only [errT, decide_eq_true_eq] at h
    simp; omega
  · simp
def rootsL (n : Nat) : List UInt8 := mkRow n fun i => powB 3 (i + 1)
def synL (w : List UInt8) (n : Nat) : List UInt8 := mkRow n fun i => hor (powB 3 (i + 1)) w
def fitW (w : List UInt8) (t : Int) : Bool := errT t && decide (2 * t + 1 ≤ w.length ∧ w.length ≤ 24)
def synR (w : List UInt8) (t : Int) : List UInt8 := if fitW w t = true then synL w (2 * t.toNat) else []
theorem synR_yes {w : List UInt8} {t : Int} (h : fitW w t = true) : synR w t = synL w (2 * t.toNat) := if_pos h
theorem synR_no {w : List UInt8} {t : Int} (h : fitW w t = false) : synR w t = [] := if_neg (by rw [h]; simp)
theorem synR_len (w : List UInt8) (t : Int) : (synR w t).length ≤ 8 := by
  unfold synR; split
  · rename_i h
    simp only [fitW, errT, Bool.and_eq_true, decide_eq_true_eq] at h
    simp [synL]; omega
  · simp
def zeroL (l : List UInt8) : Bool := decide (∀ i, i < l.length → l.getD i 0 = 0)
def isWR (w : List UInt8) (t : Int) : Bool := fitW w t && zeroL (synL w (2 * t.toNat))
def dataR (w : List UInt8) (t : Int) : List UInt8 := if isWR w t = true then w.drop (2 * t.toNat) else []
theorem dataR_len (w : List UInt8) (t : Int) : (dataR w t).length ≤ 24 := by
  unfold dataR; split
  · rename_i h
    simp only [isWR, fitW, Bool.and_eq_true, decide_eq_true_eq] at h
    simp; omega
  · simp
def distN (a b : List UInt8) : Nat → Nat
  | 0 => 0
  | k + 1 => if a.getD k 0 = b.getD k 0 then distN a b k else distN a b k + 1
theorem distN_le (a b : List UInt8) : ∀ k, distN a b k ≤ k
  | 0 => Nat.le_refl _
  | k + 1 => by unfold distN; have := distN_le a b k; split <;> omega
def distOk (a b : List UInt8) : Bool := decide (a.length = b.length ∧ a.length ≤ 24)
def distR (a b : List UInt8) : Int := if distOk a b = true then (distN a b a.length : Int) else 0
/-- one step of a division: f times the divisor g, added from a on; the first j elements of it -/
def remI (g : List UInt8) (a : Nat) (f : UInt8) (F : Nat → UInt8) (j : Nat) (p : Nat) : UInt8 := if a ≤ p ∧ p < a + j then F p ^^^ gmul f (g.getD (p - a) 0) else F p
theorem remI_zero (g : List UInt8) (a : Nat) (f : UInt8) (F : Nat → UInt8) (p : Nat) : remI g a f F 0 p = F p := by
  unfold remI; rw [if_neg (by omega)]
theorem remI_at (g : List UInt8) (a : Nat) (f : UInt8) (F : Nat → UInt8) (j : Nat) : remI g a f F j (a + j) = F (a + j) := by
  unfold remI; rw [if_neg (by omega)]
theorem remI_step (g : List UInt8) (a : Nat) (f : UInt8) (F : Nat → UInt8) (j p : Nat) : (if p = a + j then F (a + j) ^^^ gmul f (g.getD j 0) else remI g a f F j p) = remI g a f F (j + 1) p := by
  unfold remI
  by_cases h : p = a + j
  · subst h; rw [if_pos rfl, if_pos (by omega)]; simp
  · rw [if_neg h]
    by_cases h2 : a ≤ p ∧ p < a + j
    · rw [if_pos h2, if_pos (by omega)]
    · rw [if_neg h2, if_neg (by omega)]
/-- n elements F0, behind m steps of the division by g -/
def remF (g : List UInt8) (n : Nat) (F0 : Nat → UInt8) : Nat → Nat → UInt8
  | 0 => F0
  | m + 1 => remI g (n - m - g.length) (remF g n F0 m (n - 1 - m)) (remF g n F0 m) g.length
/-- what is left of l by g -/
def leftL (l g : List UInt8) : List UInt8 := mkRow (g.length - 1) (remF g l.length (fun i => l.getD i 0) (l.length + 1 - g.length))
@[simp] theorem leftL_length (l g : List UInt8) : (leftL l g).length = g.length - 1 := by simp [leftL]
def zerosN (n : Nat) : List UInt8 := List.replicate n 0
def encOk8 (d : List UInt8) (t : Int) : Bool := errT t && decide (1 ≤ d.length ∧ d.length + 2 * t ≤ 24)
def encL8 (d : List UInt8) (n : Nat) : List UInt8 := leftL (zerosN n ++ d) (genL n) ++ d
def encR8 (d : List UInt8) (t : Int) : List UInt8 := if encOk8 d t = true then encL8 d (2 * t.toNat) else []
theorem encR8_len (d : List UInt8) (t : Int) : (encR8 d t).length ≤ 24 := by
  unfold encR8; split
  · rename_i h
    simp only [encOk8, errT, Bool.and_eq_true, decide_eq_true_eq] at h
    simp [encL8]; omega
  · simp
end G294
