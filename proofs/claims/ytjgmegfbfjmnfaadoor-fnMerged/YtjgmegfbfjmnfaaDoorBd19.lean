/- Joined texts: ShaMath, RndMath, ShaDef, Poly1, Poly2, ArrMem, Arr1. -/
import Derived.Test.YtjgmegfbfjmnfaaDoorBd04
import Derived.Test.YtjgmegfbfjmnfaaDoorBd12
import Derived.Test.YtjgmegfbfjmnfaaDoorBd08
import Derived.Test.YtjgmegfbfjmnfaaDoorBd01
import Derived.Test.YtjgmegfbfjmnfaaDoorBd09
import Derived.Test.YtjgmegfbfjmnfaaDoorBd00
import Derived.Laws.Rows
import Derived.Laws.Tables
import Derived.Laws.CopyOwn
import Derived.Stop.BytesEq
import Derived.Deep.RegionLaw
import Derived.Test.YtjgmegfbfjmnfaaDoorBd03
set_option linter.unusedSimpArgs false
set_option linter.unusedVariables false
/- Polynomials over GF(256): Horner, roots, Newton and Lagrange. -/
namespace G294
abbrev Sr := UInt8 × UInt8
theorem xx_back (a b : UInt8) : a ^^^ (a ^^^ b) = b := by rw [← UInt8.xor_assoc, UInt8.xor_self, UInt8.zero_xor]
theorem x_mid (p q r d : UInt8) : p ^^^ q ^^^ d = p ^^^ (q ^^^ r) ^^^ (r ^^^ d) := by
  rw [UInt8.xor_assoc p (q ^^^ r), UInt8.xor_assoc q r, xx_back, UInt8.xor_assoc]
/-- the value of a polynomial -/
def hor (x : UInt8) : List UInt8 → UInt8
  | [] => 0
  | c :: l => gmul (hor x l) x ^^^ c
theorem hor_zeros (x : UInt8) (n : Nat) : hor x (List.replicate n 0) = 0 := by
  induction n with
  | zero => rfl
  | succ n ih => rw [List.replicate_succ, hor, ih, zero_gmul]; rfl
theorem hor_pad (x : UInt8) (n : Nat) (l : List UInt8) : hor x (l ++ List.replicate n 0) = hor x l := by
  induction l with
  | nil => exact hor_zeros x n
  | cons c l ih => rw [List.cons_append, hor, hor, ih]
theorem hor_at0 (c : UInt8) (l : List UInt8) : hor 0 (c :: l) = c := by rw [hor, gmul_zero, UInt8.zero_xor]
theorem hor_drop (x : UInt8) (l : List UInt8) (k : Nat) (h : k < l.length) : hor x (l.drop k) = gmul (hor x (l.drop (k + 1))) x ^^^ l[k] := by
  rw [List.drop_eq_getElem_cons h, hor]
/-- synthetic division -/
def syn (a : UInt8) : List UInt8 → List UInt8
  | [] => []
  | [_] => []
  | _ :: c :: l => hor a (c :: l) :: syn a (c :: l)
theorem syn_length (a : UInt8) : ∀ l : List UInt8, (syn a l).length = l.length - 1
  | [] => rfl
  | [_] => rfl
  | _ :: c :: l => by
    have := syn_length a (c :: l)
    simp only [syn, List.length_cons] at this ⊢
    omega
theorem syn_hor (a x : UInt8) : ∀ l : List UInt8, hor x l = gmul (hor x (syn a l)) (x ^^^ a) ^^^ hor a l
  | [] => by simp [hor, syn, zero_gmul]
  | [c] => by simp [hor, syn, zero_gmul]
  | d :: c :: l => by
    have ih := syn_hor a x (c :: l)
    have e1 : hor x (d :: c :: l) = gmul (hor x (c :: l)) x ^^^ d := rfl
    have e2 : hor a (d :: c :: l) = gmul (hor a (c :: l)) a ^^^ d := rfl
    have e3 : syn a (d :: c :: l) = hor a (c :: l) :: syn a (c :: l) := rfl
    have e4 : hor x (hor a (c :: l) :: syn a (c :: l)) = gmul (hor x (syn a (c :: l))) x ^^^ hor a (c :: l) := rfl
    rw [e1, e2, e3, e4, ih]
    generalize hor x (syn a (c :: l)) = A
    generalize hor a (c :: l) = B
    rw [xor_gmul, xor_gmul, gmul_xor B, gmul_assoc A, gmul_assoc A, gmul_comm x (x ^^^ a)]
    exact x_mid _ _ _ _
theorem syn_zero (a : UInt8) : ∀ l : List UInt8, (∀ c ∈ syn a l, c = 0) → hor a l = 0 → ∀ c ∈ l, c = 0
  | [], _, _ => by simp
  | [c], _, h => by
    have : hor a [c] = c := by simp [hor, zero_gmul]
    intro d hd
    simp only [List.mem_singleton] at hd
    rw [hd, ← this, h]
  | d :: c :: l, h, h0 => by
    have e3 : syn a (d :: c :: l) = hor a (c :: l) :: syn a (c :: l) := rfl
    rw [e3] at h
    have hB := h _ (List.mem_cons_self ..)
    have ih := syn_zero a (c :: l) (fun y hy => h y (List.mem_cons_of_mem _ hy)) hB
    have e2 : hor a (d :: c :: l) = gmul (hor a (c :: l)) a ^^^ d := rfl
    rw [e2, hB, zero_gmul, UInt8.zero_xor] at h0
    intro y hy
    rcases List.mem_cons.1 hy with rfl | hy
    · exact h0
    · exact ih y hy
/-- a polynomial with no more coefficients than roots is 0 -/
theorem hor_root : ∀ (xs l : List UInt8), l.length ≤ xs.length → xs.Nodup → (∀ x ∈ xs, hor x l = 0) → ∀ c ∈ l, c = 0
  | [], l, h, _, _ => by
    have : l = [] := List.eq_nil_of_length_eq_zero (by simpa using h)
    subst this
    simp
  | a :: xs, l, h, hn, hx => by
    have h0 := hx a (List.mem_cons_self ..)
    rw [List.nodup_cons] at hn
    refine syn_zero a l (hor_root xs (syn a l) (by rw [syn_length]; simp only [List.length_cons] at h; omega) hn.2 fun x hxm => ?_) h0
    have e := syn_hor a x l
    rw [hx x (List.mem_cons_of_mem _ hxm), h0, UInt8.xor_zero, gmul_comm] at e
    refine g_cancel (x_ne (fun e' => hn.1 ?_)) e.symm
    rw [← e']; exact hxm
theorem addL_lenS (l m : List UInt8) (h : l.length = m.length) : (addL l m).length = l.length := by simp [addL, h]
theorem scaleL_lenS (a : UInt8) (l : List UInt8) : (scaleL a l).length = l.length := by simp [scaleL]
theorem hor_addL (x : UInt8) : ∀ l m : List UInt8, l.length = m.length → hor x (addL l m) = hor x l ^^^ hor x m
  | [], [], _ => by simp [addL, hor]
  | [], _ :: _, h => by simp at h
  | _ :: _, [], h => by simp at h
  | c :: l, d :: m, h => by
    have ih := hor_addL x l m (by simpa using h)
    have e : addL (c :: l) (d :: m) = (c ^^^ d) :: addL l m := rfl
    rw [e, hor, hor, hor, ih, xor_gmul, x4]
theorem hor_scaleL (x a : UInt8) : ∀ l : List UInt8, hor x (scaleL a l) = gmul a (hor x l)
  | [] => by simp [scaleL, hor, gmul_zero]
  | c :: l => by
    have ih := hor_scaleL x a l
    have e : scaleL a (c :: l) = gmul a c :: scaleL a l := rfl
    rw [e, hor, hor, ih, gmul_xor, gmul_assoc]
theorem addL_getD (l m : List UInt8) (h : l.length = m.length) (j : Nat) : (addL l m).getD j 0 = l.getD j 0 ^^^ m.getD j 0 := by
  by_cases hj : j < l.length
  · simp [addL, List.getD, List.getElem?_zipWith, hj, h ▸ hj]
  · have h1 : l[j]? = none := List.getElem?_eq_none (by omega)
    have h2 : m[j]? = none := List.getElem?_eq_none (by omega)
    simp [addL, List.getD, List.getElem?_zipWith, h1, h2]
theorem hor_inj {l m xs : List UInt8} (h : l.length = m.length) (h2 : l.length ≤ xs.length) (hn : xs.Nodup) (hx : ∀ x ∈ xs, hor x l = hor x m) : l = m := by
  have hz := hor_root xs (addL l m) (by rw [addL_lenS _ _ h]; exact h2) hn (fun x hxm => by rw [hor_addL x l m h, hx x hxm, UInt8.xor_self])
  apply List.ext_getElem h
  intro i h1 h3
  have := addL_getD l m h i
  rw [show (addL l m).getD i 0 = 0 from ?_] at this
  · simp only [List.getD, List.getElem?_eq_getElem h1, List.getElem?_eq_getElem h3, Option.getD_some] at this
    exact x_eq this.symm
  · have hl : i < (addL l m).length := by rw [addL_lenS _ _ h]; exact h1
    simp only [List.getD, List.getElem?_eq_getElem hl, Option.getD_some]
    exact hz _ (List.getElem_mem hl)
/-- the values of a polynomial with n coefficients -/
def polyF (n : Nat) (f : UInt8 → UInt8) : Prop := ∃ l : List UInt8, l.length = n ∧ ∀ x, f x = hor x l
theorem polyF.const (c : UInt8) : polyF 1 (fun _ => c) := ⟨[c], rfl, fun x => by simp [hor, zero_gmul]⟩
theorem polyF.xor {n : Nat} {f g : UInt8 → UInt8} (h : polyF n f) (k : polyF n g) : polyF n (fun x => f x ^^^ g x) := by
  obtain ⟨l, hl, hf⟩ := h
  obtain ⟨m, hm, hg⟩ := k
  exact ⟨addL l m, by rw [addL_lenS _ _ (by omega), hl], fun x => by rw [hor_addL x l m (by omega), ← hf, ← hg]⟩
theorem polyF.mulc {n : Nat} {f : UInt8 → UInt8} (a : UInt8) (h : polyF n f) : polyF n (fun x => gmul a (f x)) := by
  obtain ⟨l, hl, hf⟩ := h
  exact ⟨scaleL a l, by rw [scaleL_lenS, hl], fun x => by rw [hor_scaleL, ← hf]⟩
theorem polyF.up {n : Nat} {f : UInt8 → UInt8} (h : polyF n f) : polyF (n + 1) f := by
  obtain ⟨l, hl, hf⟩ := h
  exact ⟨l ++ List.replicate 1 0, by simp [hl], fun x => by rw [hor_pad, hf]⟩
theorem hor_cons0 (x : UInt8) (l : List UInt8) : hor x (0 :: l) = gmul (hor x l) x := by rw [hor, UInt8.xor_zero]
theorem polyF.root {n : Nat} {f : UInt8 → UInt8} (a : UInt8) (h : polyF n f) : polyF (n + 1) (fun x => gmul (f x) (x ^^^ a)) := by
  obtain ⟨l, hl, hf⟩ := h
  refine ⟨addL (0 :: l) (scaleL a l ++ List.replicate 1 0), by rw [addL_lenS _ _ (by simp [scaleL_lenS])]; simp [hl], fun x => ?_⟩
  rw [hor_addL x _ _ (by simp [scaleL_lenS]), hor_cons0, hor_pad, hor_scaleL, gmul_comm a, ← gmul_xor, ← hf]
theorem polyF.zero (n : Nat) : polyF n (fun _ => 0) := ⟨List.replicate n 0, by simp, fun x => (hor_zeros x n).symm⟩
theorem polyF.sum {n : Nat} {f : Nat → UInt8 → UInt8} : ∀ m, (∀ i, i < m → polyF n (f i)) → polyF n (fun x => sumK m fun i => f i x)
  | 0, _ => polyF.zero n
  | m + 1, h => (polyF.sum m fun i hi => h i (by omega)).xor (h m (by omega))
theorem polyF.eq {n : Nat} {f g : UInt8 → UInt8} {xs : List UInt8} (h : polyF n f) (k : polyF n g) (hn : xs.Nodup) (hl : n ≤ xs.length) (hx : ∀ x ∈ xs, f x = g x) (x : UInt8) : f x = g x := by
  obtain ⟨l, hl1, hf⟩ := h
  obtain ⟨m, hm, hg⟩ := k
  have e : l = m := hor_inj (by omega) (by omega) hn fun y hy => by rw [← hf, ← hg, hx y hy]
  rw [hf, hg, e]
theorem polyF.upto {n m : Nat} {f : UInt8 → UInt8} (h : polyF n f) (hm : n ≤ m) : polyF m f := by
  induction hm with
  | refl => exact h
  | step _ ih => exact ih.up
/-- points -/
def apartX (X : Nat → UInt8) (n : Nat) : Prop := ∀ i j, i < j → j < n → X i ≠ X j
theorem apart_ne {X : Nat → UInt8} {n i j : Nat} (h : apartX X n) (hi : i < n) (hj : j < n) (hne : i ≠ j) : X i ≠ X j := by
  rcases Nat.lt_or_gt_of_ne hne with h1 | h1
  · exact h i j h1 hj
  · exact fun e => h j i h1 hi e.symm
theorem apart_nodup {X : Nat → UInt8} {n : Nat} (h : apartX X n) : ((List.range n).map X).Nodup := by
  unfold List.Nodup
  rw [List.pairwise_map]
  exact List.Pairwise.imp_of_mem (fun {a b} ha hb hab => h a b hab (List.mem_range.1 hb)) List.pairwise_lt_range
theorem polyF.eqX {n : Nat} {f g : UInt8 → UInt8} {X : Nat → UInt8} (h : polyF n f) (k : polyF n g) (ha : apartX X n) (hx : ∀ i, i < n → f (X i) = g (X i)) (x : UInt8) : f x = g x :=
  h.eq k (apart_nodup ha) (by simp) (fun y hy => by
    obtain ⟨i, hi, rfl⟩ := List.mem_map.1 hy
    exact hx i (List.mem_range.1 hi)) x
/-- the product over all points but one -/
def upK (X : Nat → UInt8) (i : Nat) (x : UInt8) : Nat → UInt8
  | 0 => 1
  | k + 1 => if k = i then upK X i x k else gmul (upK X i x k) (x ^^^ X k)
def lagK (X Y : Nat → UInt8) (x : UInt8) (n m : Nat) : UInt8 := sumK m fun i => gmul (Y i) (gmul (upK X i x n) (ginv (upK X i (X i) n)))
/-- Lagrange's interpolation -/
def lag (X Y : Nat → UInt8) (x : UInt8) (n : Nat) : UInt8 := lagK X Y x n n
theorem upK_poly (X : Nat → UInt8) (i : Nat) : ∀ k, (k ≤ i → polyF (k + 1) (fun x => upK X i x k)) ∧ (i < k → polyF k (fun x => upK X i x k)) := by
  intro k
  induction k with
  | zero => exact ⟨fun _ => polyF.const 1, fun h => by omega⟩
  | succ k ih =>
    by_cases e : k = i
    · have : (fun x => upK X i x (k + 1)) = fun x => upK X i x k := by funext x; simp [upK, e]
      rw [this]
      exact ⟨fun h => by omega, fun _ => ih.1 (by omega)⟩
    · have : (fun x => upK X i x (k + 1)) = fun x => gmul (upK X i x k) (x ^^^ X k) := by funext x; simp [upK, e]
      rw [this]
      exact ⟨fun h => (ih.1 (by omega)).root _, fun h => (ih.2 (by omega)).root _⟩
theorem upK_zero {X : Nat → UInt8} {i j : Nat} (hne : j ≠ i) : ∀ k, j < k → upK X i (X j) k = 0 := by
  intro k
  induction k with
  | zero => intro h; omega
  | succ k ih =>
    intro h
    rw [upK]
    split
    · exact ih (by omega)
    · by_cases e : j = k
      · rw [e, UInt8.xor_self, gmul_zero]
      · rw [ih (by omega), zero_gmul]
theorem upK_ne {X : Nat → UInt8} {i : Nat} {x : UInt8} : ∀ k, (∀ j, j < k → j ≠ i → x ≠ X j) → upK X i x k ≠ 0 := by
  intro k
  induction k with
  | zero => intro _; exact (by decide : (1 : UInt8) ≠ 0)
  | succ k ih =>
    intro h
    rw [upK]
    split
    · exact ih fun j hj => h j (by omega)
    · exact g_ne (ih fun j hj => h j (by omega)) (x_ne (h k (by omega) ‹_›))
theorem lag_poly (X Y : Nat → UInt8) (n : Nat) : polyF n (fun x => lag X Y x n) := by
  refine polyF.sum n fun i hi => ?_
  have h := ((upK_poly X i n).2 hi).mulc (ginv (upK X i (X i) n))
  have h2 := h.mulc (Y i)
  have e : (fun x => gmul (Y i) (gmul (upK X i x n) (ginv (upK X i (X i) n)))) = fun x => gmul (Y i) (gmul (ginv (upK X i (X i) n)) (upK X i x n)) := by
    funext x; rw [gmul_comm (upK X i x n)]
  rw [e]
  exact h2
theorem lag_at {X Y : Nat → UInt8} {n : Nat} (ha : apartX X n) {i : Nat} (hi : i < n) : lag X Y (X i) n = Y i := by
  unfold lag lagK
  rw [sumK_one _ hi fun l hl hne => by rw [upK_zero (Ne.symm hne) n hi, zero_gmul, gmul_zero]]
  rw [gmul_ginv (upK_ne n fun j hj hne => apart_ne ha hi hj (Ne.symm hne)), gmul_one]
theorem lag_eq {X Y : Nat → UInt8} {n : Nat} {f : UInt8 → UInt8} (ha : apartX X n) (hf : polyF n f) (h : ∀ i, i < n → f (X i) = Y i) (x : UInt8) : lag X Y x n = f x :=
  (lag_poly X Y n).eqX hf ha (fun i hi => by rw [lag_at ha hi, h i hi]) x
theorem lag_xor (X Y Z : Nat → UInt8) (x : UInt8) (n : Nat) : lag X (fun i => Y i ^^^ Z i) x n = lag X Y x n ^^^ lag X Z x n := by
  unfold lag lagK
  rw [← sumK_xor]
  exact sumK_congr fun l _ => xor_gmul _ _ _
theorem upK_congr {X X' : Nat → UInt8} {i : Nat} {x : UInt8} : ∀ k, (∀ j, j < k → X j = X' j) → upK X i x k = upK X' i x k := by
  intro k
  induction k with
  | zero => intro _; rfl
  | succ k ih => intro h; rw [upK, upK, ih fun j hj => h j (by omega), h k (by omega)]
theorem lag_congr {X X' Y Y' : Nat → UInt8} {x : UInt8} {n : Nat} (h : ∀ j, j < n → X j = X' j) (h' : ∀ j, j < n → Y j = Y' j) : lag X Y x n = lag X' Y' x n := by
  unfold lag lagK
  exact sumK_congr fun l hl => by rw [upK_congr n h, upK_congr n h, h l hl, h' l hl]
/-- a polynomial's first coefficients -/
theorem hor_take (x : UInt8) : ∀ (l : List UInt8) (n : Nat), (∀ j, n ≤ j → l.getD j 0 = 0) → hor x (l.take n) = hor x l
  | [], n, _ => by simp
  | c :: l, 0, h => by
    have h0 : c = 0 := h 0 (by omega)
    have ih := hor_take x l 0 (fun j _ => h (j + 1) (by omega))
    rw [List.take_zero] at ih ⊢
    have e : hor x (c :: l) = gmul (hor x l) x ^^^ c := rfl
    rw [e, ← ih, h0]
    simp [hor, zero_gmul]
  | c :: l, n + 1, h => by
    have ih := hor_take x l n (fun j hj => h (j + 1) (by omega))
    rw [List.take_succ_cons, hor, hor, ih]
theorem hor_short {l : List UInt8} {n : Nat} (hl : n ≤ l.length) (h : ∀ j, n ≤ j → l.getD j 0 = 0) : polyF n (fun x => hor x l) :=
  ⟨l.take n, by simp; omega, fun x => (hor_take x l n h).symm⟩
/-- Newton's interpolation, as arrays of 20 coefficients -/
def addC (f : UInt8) (P V : List UInt8) : List UInt8 := addL P (scaleL f V)
def wrC (r : UInt8) (V : List UInt8) : List UInt8 := addL (0 :: V.take 19) (scaleL r V)
def xF (l : List Sr) (i : Nat) : UInt8 := (l.getD i (0, 0)).1
def yF (l : List Sr) (i : Nat) : UInt8 := (l.getD i (0, 0)).2
def nwK (l : List Sr) : Nat → List UInt8 × List UInt8
  | 0 => (List.replicate 20 0, 1 :: List.replicate 19 0)
  | k + 1 => (addC (gmul (yF l k ^^^ hor (xF l k) (nwK l k).1) (ginv (hor (xF l k) (nwK l k).2))) (nwK l k).1 (nwK l k).2, wrC (xF l k) (nwK l k).2)
def thr (l : List Sr) : List UInt8 := (nwK l l.length).1
def prK (X : Nat → UInt8) (x : UInt8) : Nat → UInt8
  | 0 => 1
  | k + 1 => gmul (prK X x k) (x ^^^ X k)
theorem prK_zero {X : Nat → UInt8} {j : Nat} : ∀ k, j < k → prK X (X j) k = 0 := by
  intro k
  induction k with
  | zero => intro h; omega
  | succ k ih =>
    intro h
    rw [prK]
    by_cases e : j = k
    · rw [e, UInt8.xor_self, gmul_zero]
    · rw [ih (by omega), zero_gmul]
theorem prK_ne {X : Nat → UInt8} {x : UInt8} : ∀ k, (∀ j, j < k → x ≠ X j) → prK X x k ≠ 0 := by
  intro k
  induction k with
  | zero => intro _; exact (by decide : (1 : UInt8) ≠ 0)
  | succ k ih => intro h; rw [prK]; exact g_ne (ih fun j hj => h j (by omega)) (x_ne (h k (by omega)))
theorem rep_getD (n j : Nat) : (List.replicate n (0 : UInt8)).getD j 0 = 0 := by
  by_cases h : j < n <;> simp [List.getD, h]
theorem nw_len (l : List Sr) : ∀ k, (nwK l k).1.length = 20 ∧ (nwK l k).2.length = 20 := by
  intro k
  induction k with
  | zero => simp [nwK]
  | succ k ih =>
    refine ⟨?_, ?_⟩
    · show (addL _ (scaleL _ _)).length = 20
      rw [addL_lenS _ _ (by rw [scaleL_lenS, ih.1, ih.2]), ih.1]
    · show (addL (0 :: (nwK l k).2.take 19) (scaleL _ _)).length = 20
      rw [addL_lenS _ _ (by rw [scaleL_lenS]; simp [ih.2])]; simp [ih.2]
theorem wr_getD {V : List UInt8} (hV : V.length = 20) (r : UInt8) (j : Nat) (h1 : ∀ i, j ≤ i + 1 → V.getD i 0 = 0) (hj : 0 < j) : (wrC r V).getD j 0 = 0 := by
  unfold wrC
  rw [addL_getD _ _ (by rw [scaleL_lenS]; simp [hV]), getD_scale, h1 j (by omega), gmul_zero, UInt8.xor_zero]
  obtain ⟨i, rfl⟩ : ∃ i, j = i + 1 := ⟨j - 1, by omega⟩
  show (V.take 19).getD i 0 = 0
  have := h1 i (by omega)
  by_cases hi : i < 19
  · simp only [List.getD, List.getElem?_take, hi, if_true] at this ⊢
    exact this
  · simp [List.getD, List.getElem?_take, hi]
theorem hor_wr {V : List UInt8} (hV : V.length = 20) (h0 : V.getD 19 0 = 0) (r x : UInt8) : hor x (wrC r V) = gmul (hor x V) (x ^^^ r) := by
  unfold wrC
  have hz : ∀ j, 19 ≤ j → V.getD j 0 = 0 := fun j hj => by
    by_cases e : j = 19
    · rw [e, h0]
    · simp [List.getD, List.getElem?_eq_none (show V.length ≤ j by omega)]
  rw [hor_addL x _ _ (by rw [scaleL_lenS]; simp [hV]), hor_cons0, hor_take x V 19 hz, hor_scaleL, gmul_xor, gmul_comm r]
theorem nw_ok {l : List Sr} (h20 : l.length ≤ 20) (ha : apartX (xF l) l.length) : ∀ k, k ≤ l.length →
    (∀ j, k ≤ j → (nwK l k).1.getD j 0 = 0) ∧ (∀ j, k < j → (nwK l k).2.getD j 0 = 0) ∧ (k ≤ 19 → ∀ x, hor x (nwK l k).2 = prK (xF l) x k) ∧ (∀ i, i < k → hor (xF l i) (nwK l k).1 = yF l i) := by
  intro k
  induction k with
  | zero =>
    intro _
    refine ⟨fun j _ => rep_getD 20 j, fun j hj => ?_, fun _ x => ?_, fun i hi => by omega⟩
    · obtain ⟨i, rfl⟩ : ∃ i, j = i + 1 := ⟨j - 1, by omega⟩
      exact rep_getD 19 i
    · show hor x (1 :: List.replicate 19 0) = 1
      rw [hor, hor_zeros, zero_gmul]; rfl
  | succ k ih =>
    intro hk
    obtain ⟨i1, i2, i3, i4⟩ := ih (by omega)
    obtain ⟨l1, l2⟩ := nw_len l k
    have hP : ∀ x, hor x (nwK l (k + 1)).1 = hor x (nwK l k).1 ^^^ gmul (gmul (yF l k ^^^ hor (xF l k) (nwK l k).1) (ginv (hor (xF l k) (nwK l k).2))) (hor x (nwK l k).2) := fun x => by
      show hor x (addL _ (scaleL _ _)) = _
      rw [hor_addL x _ _ (by rw [scaleL_lenS, l1, l2]), hor_scaleL]
    have hv := i3 (by omega)
    have hne : prK (xF l) (xF l k) k ≠ 0 := prK_ne k fun j hj => Ne.symm (ha j k hj (by omega))
    refine ⟨fun j hj => ?_, fun j hj => ?_, fun h19 x => ?_, fun i hi => ?_⟩
    · show (addL _ (scaleL _ _)).getD j 0 = 0
      rw [addL_getD _ _ (by rw [scaleL_lenS, l1, l2]), getD_scale, i1 j (by omega), i2 j (by omega), gmul_zero]; rfl
    · exact wr_getD l2 _ j (fun i hi => i2 i (by omega)) (by omega)
    · show hor x (wrC _ _) = _
      rw [hor_wr l2 (i2 19 (by omega)), prK, hv]
    · rw [hP]
      by_cases e : i = k
      · rw [e, hv, gmul_assoc, ginv_gmul hne, gmul_one, UInt8.xor_comm (yF l k), xx_back]
      · rw [hv (xF l i), prK_zero k (by omega), gmul_zero, UInt8.xor_zero, i4 i (by omega)]
theorem thr_len (l : List Sr) : (thr l).length = 20 := (nw_len l _).1
theorem thr_at {l : List Sr} (h20 : l.length ≤ 20) (ha : apartX (xF l) l.length) {i : Nat} (hi : i < l.length) : hor (xF l i) (thr l) = yF l i := (nw_ok h20 ha _ (Nat.le_refl _)).2.2.2 i hi
theorem thr_high {l : List Sr} (h20 : l.length ≤ 20) (ha : apartX (xF l) l.length) {j : Nat} (hj : l.length ≤ j) : (thr l).getD j 0 = 0 := (nw_ok h20 ha _ (Nat.le_refl _)).1 j hj
/-- Newton's is Lagrange's -/
theorem thr_lag {l : List Sr} (h20 : l.length ≤ 20) (ha : apartX (xF l) l.length) (x : UInt8) : hor x (thr l) = lag (xF l) (yF l) x l.length :=
  (lag_eq ha (hor_short (by rw [thr_len]; exact h20) fun j hj => thr_high h20 ha hj) (fun i hi => thr_at h20 ha hi) x).symm
theorem xF_take (l : List Sr) (m i : Nat) (h : i < m) : xF (l.take m) i = xF l i := by simp [xF, List.getD, List.getElem?_take, h]
theorem yF_take (l : List Sr) (m i : Nat) (h : i < m) : yF (l.take m) i = yF l i := by simp [yF, List.getD, List.getElem?_take, h]
theorem nw_take (l : List Sr) (m : Nat) : ∀ k, k ≤ m → nwK (l.take m) k = nwK l k := by
  intro k
  induction k with
  | zero => intro _; rfl
  | succ k ih => intro h; rw [nwK, nwK, ih (by omega), xF_take l m k (by omega), yF_take l m k (by omega)]
theorem addC_zero (P V : List UInt8) (h : P.length = V.length) : addC 0 P V = P := by
  apply List.ext_getElem (by unfold addC; rw [addL_lenS _ _ (by rw [scaleL_lenS, h])])
  intro i h1 h2
  have hV : i < V.length := by omega
  simp [addC, addL, scaleL, zero_gmul]
/-- shares lie on the polynomial of the first m exactly if they don't change it -/
theorem thr_same {l : List Sr} (h20 : l.length ≤ 20) (ha : apartX (xF l) l.length) {m : Nat} (hm : m ≤ l.length) : thr (l.take m) = thr l ↔ ∀ i, m ≤ i → i < l.length → lag (xF l) (yF l) (xF l i) m = yF l i := by
  have hlm : (l.take m).length = m := by simp; omega
  have e1 : thr (l.take m) = (nwK l m).1 := by unfold thr; rw [hlm, nw_take l m m (Nat.le_refl _)]
  have ha' : apartX (xF (l.take m)) (l.take m).length := fun i j hij hj => by
    rw [hlm] at hj
    rw [xF_take l m i (by omega), xF_take l m j hj]
    exact ha i j hij (by omega)
  have e2 : ∀ x, hor x (thr (l.take m)) = lag (xF l) (yF l) x m := fun x => by
    rw [thr_lag (by omega) ha', hlm]
    exact lag_congr (fun j hj => xF_take l m j hj) (fun j hj => yF_take l m j hj)
  constructor
  · intro h i _ hi
    rw [← e2, h]
    exact thr_at h20 ha hi
  · intro h
    rw [e1]
    have : ∀ d, m + d ≤ l.length → (nwK l (m + d)).1 = (nwK l m).1 := by
      intro d
      induction d with
      | zero => intro _; rfl
      | succ d ih =>
        intro hd
        have i0 := ih (by omega)
        have es : (nwK l (m + (d + 1))).1 = addC (gmul (yF l (m + d) ^^^ hor (xF l (m + d)) (nwK l (m + d)).1) (ginv (hor (xF l (m + d)) (nwK l (m + d)).2))) (nwK l (m + d)).1 (nwK l (m + d)).2 := rfl
        rw [es, i0, ← e1, e2, h (m + d) (by omega) (by omega), UInt8.xor_self, zero_gmul, e1]
        exact addC_zero _ _ (by rw [(nw_len l m).1, (nw_len l (m + d)).2])
    have := this (l.length - m) (by omega)
    rw [Nat.add_sub_cancel' hm] at this
    exact this.symm
/-- valid shares -/
def prX (l : List Sr) (i : Nat) : UInt8 := if i = 0 then 0 else xF l (i - 1)
def shrOk (l : List Sr) : Bool := decide (l.length ≤ 20 ∧ ∀ i, i < l.length → prX l i < xF l i)
theorem shrOk_iff (l : List Sr) : shrOk l = true ↔ l.length ≤ 20 ∧ ∀ i, i < l.length → prX l i < xF l i := by simp only [shrOk, decide_eq_true_eq]
theorem shr_lt {l : List Sr} (h : shrOk l = true) : ∀ j i, i < j → j < l.length → xF l i < xF l j := by
  obtain ⟨_, h2⟩ := (shrOk_iff l).1 h
  intro j
  induction j with
  | zero => intro i hi; omega
  | succ j ih =>
    intro i hi hj
    have := h2 (j + 1) hj
    simp only [prX, Nat.add_sub_cancel, if_neg (show ¬ j + 1 = 0 by omega)] at this
    by_cases e : i = j
    · rw [e]; exact this
    · exact UInt8.lt_trans (ih i (by omega) (by omega)) this
theorem shr_apart {l : List Sr} (h : shrOk l = true) : apartX (xF l) l.length := fun i j hij hj e => by
  have := shr_lt h j i hij hj
  rw [e] at this
  exact absurd this (UInt8.lt_irrefl _)
theorem shr_pos {l : List Sr} (h : shrOk l = true) (i : Nat) (hi : i < l.length) : xF l i ≠ 0 := fun e => by
  have := ((shrOk_iff l).1 h).2 i hi
  rw [e] at this
  exact absurd this (by simp [UInt8.lt_iff_toNat_lt])
theorem shr_20 {l : List Sr} (h : shrOk l = true) : l.length ≤ 20 := ((shrOk_iff l).1 h).1
end G294

/- The random bytes that fit to shares: one solution of equations of powers. -/
namespace G294
theorem powB_zero (x : UInt8) : powB x 0 = 1 := by
  apply UInt8.toNat_inj.1; rw [powB_toNat]; rfl
theorem powB_succ (x : UInt8) (n : Nat) : powB x (n + 1) = gmul (powB x n) x := by
  apply UInt8.toNat_inj.1
  rw [gmul_toNat, powB_toNat, powB_toNat]; rfl
theorem hor_snoc (x c : UInt8) (l : List UInt8) : hor x (l ++ [c]) = hor x l ^^^ gmul (powB x l.length) c := by
  induction l with
  | nil => simp [hor, zero_gmul, powB_zero, one_gmul]
  | cons d l ih =>
    rw [List.cons_append, hor, ih, hor, List.length_cons, powB_succ, xor_gmul, gmul_assoc, gmul_assoc, gmul_comm c x]
    rw [UInt8.xor_assoc, UInt8.xor_assoc, UInt8.xor_comm d]
theorem hor_mk (x : UInt8) (f : Nat → UInt8) (n : Nat) : hor x (mkRow n f) = sumK n fun j => gmul (powB x j) (f j) := by
  induction n with
  | zero => rfl
  | succ n ih => rw [mkRow_succ, hor_snoc, ih, sumK]; simp
theorem hor_up (x : UInt8) (f : Nat → UInt8) (n : Nat) : gmul (hor x (mkRow n f)) x = sumK n fun j => gmul (powB x (j + 1)) (f j) := by
  rw [hor_mk, ← sumK_mulr]
  exact sumK_congr fun j _ => by rw [powB_succ, gmul_assoc, gmul_assoc, gmul_comm x]
def rndF (l : List Sr) : Ents := fun i j => powB (xF l i) (j + 1)
theorem rnd_full {l : List Sr} (h : shrOk l = true) : (est (rndF l) l.length l.length).2 = l.length := by
  refine rank_full (Nat.le_refl _) fun v hv j hj => ?_
  have hz := hor_root ((List.range l.length).map (xF l)) (mkRow l.length v) (by simp) (apart_nodup (shr_apart h)) (fun x hx => by
    obtain ⟨i, hi, rfl⟩ := List.mem_map.1 hx
    have hi := List.mem_range.1 hi
    have := hv i hi
    simp only [rndF] at this
    rw [← hor_up, gmul_comm] at this
    exact g_cancel (shr_pos h i hi) this)
  have hl : j < (mkRow l.length v).length := by simpa using hj
  have := hz _ (List.getElem_mem hl)
  rwa [mkRow_get] at this
def rndP (l : List Sr) (s : UInt8) : List UInt8 := thr ((0, s) :: l)
theorem rnd_apart {l : List Sr} (h : shrOk l = true) (s : UInt8) : apartX (xF ((0, s) :: l)) ((0, s) :: l).length := by
  intro i j hij hj
  obtain ⟨j, rfl⟩ : ∃ j', j = j' + 1 := ⟨j - 1, by omega⟩
  have hj' : j < l.length := by simpa using hj
  cases i with
  | zero => exact fun e => shr_pos h j hj' e.symm
  | succ i => exact shr_apart h i j (by omega) hj'
theorem rnd_len (l : List Sr) (s : UInt8) : (rndP l s).length = 20 := thr_len _
theorem rnd_cons {l : List Sr} (h : shrOk l = true) (h19 : l.length ≤ 19) (s : UInt8) : ∃ T, rndP l s = s :: T ∧ T.length = 19 ∧ ∀ j, l.length ≤ j → T.getD j 0 = 0 := by
  have hl := rnd_len l s
  have h0 := thr_at (l := (0, s) :: l) (by simp; omega) (rnd_apart h s) (i := 0) (by simp)
  have hh := fun j (hj : l.length ≤ j) => thr_high (l := (0, s) :: l) (by simp; omega) (rnd_apart h s) (j := j + 1) (by simp; omega)
  change hor 0 (rndP l s) = s at h0
  change ∀ j, l.length ≤ j → (rndP l s).getD (j + 1) 0 = 0 at hh
  generalize rndP l s = P at *
  cases P with
  | nil => simp at hl
  | cons p T =>
    rw [hor_at0] at h0
    exact ⟨T, by rw [h0], by simpa using hl, hh⟩
theorem take_mkRow (T : List UInt8) (n : Nat) (h : n ≤ T.length) : T.take n = mkRow n (fun j => T.getD j 0) := by
  apply List.ext_getElem
  · simp; omega
  · intro i h1 h2
    have hi : i < T.length := by simp at h1; omega
    rw [mkRow_get, List.getElem_take]
    simp [List.getD, hi]
theorem rnd_val {l : List Sr} (h : shrOk l = true) (h19 : l.length ≤ 19) (s x : UInt8) : hor x (rndP l s) = gmul (hor x (mkRow l.length fun j => (rndP l s).getD (j + 1) 0)) x ^^^ s := by
  obtain ⟨T, hT, hl, hz⟩ := rnd_cons h h19 s
  rw [hT, hor, ← hor_take x T l.length hz, take_mkRow T _ (by omega)]
  rfl
theorem rnd_at {l : List Sr} (h : shrOk l = true) (h19 : l.length ≤ 19) (s : UInt8) {i : Nat} (hi : i < l.length) : hor (xF l i) (rndP l s) = yF l i :=
  thr_at (l := (0, s) :: l) (by simp; omega) (rnd_apart h s) (i := i + 1) (by simpa using hi)
theorem rnd_left {l : List Sr} (h : shrOk l = true) (h19 : l.length ≤ 19) (s : UInt8) {i : Nat} (hi : i < l.length) : sumK l.length (fun j => gmul (rndF l i j) ((rndP l s).getD (j + 1) 0)) = yF l i ^^^ s := by
  have h1 := rnd_at h h19 s hi
  rw [rnd_val h h19, hor_up] at h1
  rw [← h1, UInt8.xor_assoc, UInt8.xor_self, UInt8.xor_zero]
  rfl
theorem rnd_sol {l : List Sr} (h : shrOk l = true) (h19 : l.length ≤ 19) (s : UInt8) {i : Nat} (hi : i < l.length) :
    sumK l.length (fun k => gmul (bst (rndF l) idF l.length l.length i k) (yF l k ^^^ s)) = (rndP l s).getD (i + 1) 0 := by
  have e : sumK l.length (fun k => gmul (bst (rndF l) idF l.length l.length i k) (yF l k ^^^ s)) = sumK l.length (fun k => sumK l.length fun j => gmul (gmul (bst (rndF l) idF l.length l.length i k) (rndF l k j)) ((rndP l s).getD (j + 1) 0)) :=
    sumK_congr fun k hk => by
      rw [← rnd_left h h19 s hk, ← sumK_mul]
      exact sumK_congr fun j _ => by rw [gmul_assoc]
  rw [e, sumK_swap]
  rw [sumK_congr (g := fun j => gmul (idF i j) ((rndP l s).getD (j + 1) 0)) (fun j hj => by rw [sumK_mulr, inv_left (rnd_full h) hi hj])]
  rw [sumK_one _ hi fun j _ hne => by rw [show idF i j = 0 from if_neg (Ne.symm hne), zero_gmul]]
  rw [show idF i i = 1 from if_pos rfl, one_gmul]
end G294

/- What chapter 7's functions answer. -/
namespace G294
def polOk (l : List UInt8) : Bool := decide (l.length ≤ 20)
def polR (l : List UInt8) (x : UInt8) : UInt8 := if l.length ≤ 20 then hor x l else 0
def shaL (s : UInt8) (l : List UInt8) (n : Nat) : List Sr := (List.range n).map fun i => (UInt8.ofNat (i + 1), hor (UInt8.ofNat (i + 1)) (s :: l))
@[simp] theorem shaL_length (s : UInt8) (l : List UInt8) (n : Nat) : (shaL s l n).length = n := by simp [shaL]
theorem shaL_get (s : UInt8) (l : List UInt8) (n k : Nat) (h : k < n) : (shaL s l n)[k]? = some (UInt8.ofNat (k + 1), hor (UInt8.ofNat (k + 1)) (s :: l)) := by simp [shaL, h]
def shaOk (l : List UInt8) (n : Int) : Bool := decide (l.length ≤ 8) && decide (1 ≤ n ∧ n ≤ 20)
def shaR (s : UInt8) (l : List UInt8) (n : Int) : List Sr := if shaOk l n = true then shaL s l n.toNat else []
theorem shaR_yes {s : UInt8} {l : List UInt8} {n : Int} (h : shaOk l n = true) : shaR s l n = shaL s l n.toNat := if_pos h
theorem shaR_no {s : UInt8} {l : List UInt8} {n : Int} (h : shaOk l n = false) : shaR s l n = [] := if_neg (by rw [h]; simp)
theorem shaR_len (s : UInt8) (l : List UInt8) (n : Int) : (shaR s l n).length ≤ 20 := by
  unfold shaR; split
  · rename_i h
    simp only [shaOk, Bool.and_eq_true, decide_eq_true_eq] at h
    simp; omega
  · simp
def intOk (l : List Sr) : Bool := shrOk l && decide (0 < l.length)
def intR (l : List Sr) (x : UInt8) : UInt8 := if intOk l = true then lag (xF l) (yF l) x l.length else 0
def opnOk (l : List Sr) (k : Int) : Bool := shrOk l && decide (1 ≤ k ∧ k ≤ l.length)
def opnR (l : List Sr) (k : Int) : UInt8 := if opnOk l k = true then lag (xF l) (yF l) 0 k.toNat else 0
def onAll (l : List Sr) (k : Nat) : Bool := decide (∀ i, i < l.length → k ≤ i → lag (xF l) (yF l) (xF l i) k = yF l i)
def isSOk (l : List Sr) (k : Int) : Bool := shrOk l && decide (1 ≤ k ∧ k ≤ 20)
def isSR (l : List Sr) (k : Int) : Bool := isSOk l k && onAll l k.toNat
def sameX (a b : List Sr) : Bool := decide (a.length = b.length ∧ ∀ i, i < a.length → xF a i = xF b i)
def adsOk (a b : List Sr) : Bool := shrOk a && shrOk b && sameX a b
def adsL (a b : List Sr) : List Sr := (List.range a.length).map fun i => (xF a i, yF a i ^^^ yF b i)
@[simp] theorem adsL_length (a b : List Sr) : (adsL a b).length = a.length := by simp [adsL]
theorem adsL_get (a b : List Sr) (k : Nat) (h : k < a.length) : (adsL a b)[k]? = some (xF a k, yF a k ^^^ yF b k) := by simp [adsL, h]
def adsR (a b : List Sr) : List Sr := if adsOk a b = true then adsL a b else []
theorem adsR_len (a b : List Sr) : (adsR a b).length ≤ 20 := by
  unfold adsR; split
  · rename_i h
    simp only [adsOk, Bool.and_eq_true] at h
    have := shr_20 h.1.1
    simpa using this
  · simp
def refOk (l : List Sr) (r : List UInt8) : Bool := shrOk l && decide (r.length ≤ 8)
def refL (l : List Sr) (r : List UInt8) : List Sr := (List.range l.length).map fun i => (xF l i, yF l i ^^^ hor (xF l i) (0 :: r))
@[simp] theorem refL_length (l : List Sr) (r : List UInt8) : (refL l r).length = l.length := by simp [refL]
theorem refL_get (l : List Sr) (r : List UInt8) (k : Nat) (h : k < l.length) : (refL l r)[k]? = some (xF l k, yF l k ^^^ hor (xF l k) (0 :: r)) := by simp [refL, h]
def refR (l : List Sr) (r : List UInt8) : List Sr := if refOk l r = true then refL l r else []
theorem refR_len (l : List Sr) (r : List UInt8) : (refR l r).length ≤ 20 := by
  unfold refR; split
  · rename_i h
    simp only [refOk, Bool.and_eq_true] at h
    have := shr_20 h.1
    simpa using this
  · simp
def rndOk (l : List Sr) : Bool := shrOk l && decide (l.length ≤ 8)
def rndL (l : List Sr) (s : UInt8) : List UInt8 := mkRow l.length fun j => (rndP l s).getD (j + 1) 0
def rndR (l : List Sr) (s : UInt8) : List UInt8 := if rndOk l = true then rndL l s else []
theorem rndR_len (l : List Sr) (s : UInt8) : (rndR l s).length ≤ 8 := by
  unfold rndR; split
  · rename_i h
    simp only [rndOk, Bool.and_eq_true, decide_eq_true_eq] at h
    simpa [rndL] using h.2
  · simp
theorem at_xy {l : List Sr} {k : Nat} {s : Sr} (h : l[k]? = some s) : s.1 = xF l k ∧ s.2 = yF l k := by simp [xF, yF, List.getD, h]
/-- a list padded to 20 -/
def pad20 (l : List UInt8) : List UInt8 := l ++ List.replicate (20 - l.length) 0
theorem pad20_length {l : List UInt8} (h : l.length ≤ 20) : (pad20 l).length = 20 := by simp [pad20]; omega
theorem hor_pad20 (x : UInt8) (l : List UInt8) : hor x (pad20 l) = hor x l := hor_pad x _ l
def xsL (l : List Sr) : List UInt8 := l.map (·.1)
theorem pad20_getD (l : List UInt8) (j : Nat) : (pad20 l).getD j 0 = l.getD j 0 := by
  unfold pad20
  simp only [List.getD]
  by_cases h : j < l.length
  · rw [List.getElem?_append_left h]
  · rw [List.getElem?_append_right (by omega), List.getElem?_eq_none (show l.length ≤ j by omega), List.getElem?_replicate]
    split <;> simp
theorem xsL_getD (l : List Sr) (j : Nat) : (xsL l).getD j 0 = xF l j := by
  simp only [xsL, xF, List.getD, List.getElem?_map]
  cases l[j]? <;> simp
theorem places_iff {a b : List Sr} (ha : shrOk a = true) (hb : shrOk b = true) : pad20 (xsL a) = pad20 (xsL b) ↔ sameX a b = true := by
  have key : ∀ j, (pad20 (xsL a)).getD j 0 = xF a j := fun j => by rw [pad20_getD, xsL_getD]
  have key' : ∀ j, (pad20 (xsL b)).getD j 0 = xF b j := fun j => by rw [pad20_getD, xsL_getD]
  have za : ∀ j, a.length ≤ j → xF a j = 0 := fun j h => by simp [xF, List.getD, List.getElem?_eq_none h]
  have zb : ∀ j, b.length ≤ j → xF b j = 0 := fun j h => by simp [xF, List.getD, List.getElem?_eq_none h]
  simp only [sameX, decide_eq_true_eq]
  constructor
  · intro e
    have hx : ∀ j, xF a j = xF b j := fun j => by rw [← key, ← key', e]
    refine ⟨?_, fun j _ => hx j⟩
    rcases Nat.lt_trichotomy a.length b.length with h | h | h
    · exact absurd (by rw [← hx]; exact za _ (Nat.le_refl _)) (shr_pos hb a.length h)
    · exact h
    · exact absurd (by rw [hx]; exact zb _ (Nat.le_refl _)) (shr_pos ha b.length h)
  · rintro ⟨hl, hx⟩
    have : xsL a = xsL b := by
      apply List.ext_getElem (by simpa [xsL] using hl)
      intro i h1 h2
      have hi : i < a.length := by simpa [xsL] using h1
      have hi' : i < b.length := by omega
      have := hx i hi
      simp [xF, List.getD, hi, hi'] at this
      simpa [xsL] using this
    rw [this]
end G294

/- The value of a polynomial: the model's and the program's, which ranges over slices.Backward. -/
namespace G294
open Go Go.RowKit
/-- what slices.Backward yields -/
def revL (l : List UInt8) : List (Nat × UInt8) := (List.range l.length).map fun i => (l.length - 1 - i, l.getD (l.length - 1 - i) 0)
@[simp] theorem revL_length (l : List UInt8) : (revL l).length = l.length := by simp [revL]
theorem revL_take (l : List UInt8) (k : Nat) (h : k < l.length) : (revL l).take (k + 1) = (revL l).take k ++ [(l.length - 1 - k, l.getD (l.length - 1 - k) 0)] := by
  rw [List.take_succ_eq_append_getElem (by simpa using h)]; simp [revL]
theorem revL_next (l : List UInt8) (k j : Nat) (hj : l.length - k = j + 1) (hkl : j < l.length) : (revL l).take k ++ [(j, l[j])] = (revL l).take (k + 1) := by
  rw [revL_take l k (by omega), show l.length - 1 - k = j by omega]
  simp [List.getD, hkl]
def hacc (x : UInt8) (pre : List (Nat × UInt8)) : UInt8 := pre.foldl (fun a c => gmul a x ^^^ c.2) 0
theorem hacc_snoc (x : UInt8) (pre : List (Nat × UInt8)) (c : Nat × UInt8) : hacc x (pre ++ [c]) = gmul (hacc x pre) x ^^^ c.2 := by simp [hacc]
theorem hacc_take (x : UInt8) (l : List UInt8) : ∀ k, k ≤ l.length → hacc x ((revL l).take k) = hor x (l.drop (l.length - k)) := by
  intro k
  induction k with
  | zero => intro _; simp [hacc, hor]
  | succ k ih =>
    intro h
    rw [revL_take l k (by omega), hacc_snoc, ih (by omega), hor_drop x l (l.length - (k + 1)) (by omega), show l.length - (k + 1) + 1 = l.length - k by omega]
    show _ ^^^ l.getD (l.length - 1 - k) 0 = _
    have e : l.length - 1 - k = l.length - (k + 1) := by omega
    rw [e]
    simp [List.getD, show l.length - (k + 1) < l.length by omega]
theorem hacc_rev (x : UInt8) (l : List UInt8) : hacc x (revL l) = hor x l := by
  have := hacc_take x l l.length (Nat.le_refl _)
  rwa [List.take_of_length_le (by simp), Nat.sub_self, List.drop_zero] at this
def bkV (x : Nat × UInt8) : Array Value := #[.int .i64 (x.1 : Int), .int .u8 (x.2.toNat : Int)]
end G294
namespace Go.Proofs.YtjgmegfbfjmnfaaDoor
open Go.RowKit Go.Shelf G294

attribute [local go_sem] Oper.semAt_some

end Go.Proofs.YtjgmegfbfjmnfaaDoor

/- valueAt and PolyAt: the program's. -/
namespace Go.Proofs.YtjgmegfbfjmnfaaDoor
open Go.RowKit Go.Shelf G294

attribute [local go_sem] Oper.semAt_some

end Go.Proofs.YtjgmegfbfjmnfaaDoor

/- Arrays of bytes as variables: whole loads, stores, copies, comparisons. -/
namespace G294
open Go Go.RowKit
/-- block B is an array variable that holds the bytes l -/
def ArrAt (W : World) (B : Nat) (T : TypeId) (l : List UInt8) : Prop := W.heap[B]? = some (.cells (bys l).toArray T (0, 0))
def aggL (l : List UInt8) : Value := .agg (bys l).toArray
section
variable {P : Program} {w w' : World} {B T a b : Nat} {l m : List UInt8}
theorem ArrAt.lt (h : ArrAt w B T l) : B < w.heap.size := (Array.getElem?_eq_some_iff.1 h).1
theorem ArrAt.new (w : World) (T : TypeId) (l : List UInt8) : ArrAt (w.alloc (.cells (bys l).toArray T)) w.heap.size T l := heap_alloc_new w _
theorem ArrAt.keep (h : ArrAt w B T l) (t : TurnIn a b w w') (d : B < a ∨ b ≤ B) : ArrAt w' B T l := (t.block B h.lt d).trans h
theorem ArrAt.cell (h : ArrAt w B T l) (k : Nat) (hk : k < l.length) : w.cell? ⟨B, k, none⟩ = some (.int .u8 (l[k].toNat : Int)) := by
  rw [cell_of_row w B k _ T _ h, List.getElem?_toArray, bys_get l k hk]
theorem ArrAt.cellAt (h : ArrAt w B T l) {k : Nat} {x : UInt8} (hk : l[k]? = some x) : w.cell? ⟨B, k, none⟩ = some (.int .u8 (x.toNat : Int)) := by
  obtain ⟨hl, rfl⟩ := List.getElem?_eq_some_iff.1 hk
  exact h.cell k hl
theorem ArrAt.frozen (h : ArrAt w B T l) (k : Nat) : w.frozen? ⟨B, k, none⟩ = false := frozen_of_row w B k _ T h
theorem ArrAt.seen (h : ArrAt w B T l) {n : Nat} (hn : l.length = n) (hm : n ≤ 1000) : Seen w (.slice (some ⟨B, 0, none⟩) n n) (bys l) :=
  ⟨_, n, by simp [hn], by simp [hn], by unfold maxLen; omega, fun _ => ⟨B, 0, rfl, h.lt, fun i u hu => by
    rw [cell_of_row w B _ _ T _ h, List.getElem?_toArray, Nat.zero_add]; exact hu⟩⟩
theorem bys_set (l : List UInt8) (k : Nat) (x : UInt8) : bys (l.set k x) = (bys l).set k (.int .u8 (x.toNat : Int)) := by simp [bys, List.map_set]
theorem ArrAt.set (h : ArrAt w B T l) (k : Nat) (x : UInt8) : ArrAt (w.setCell ⟨B, k, none⟩ (.int .u8 (x.toNat : Int))) B T (l.set k x) := by
  unfold ArrAt
  rw [heap_setCell_same w B k _ T _ h, bys_set]
  simp
theorem turn_set (w : World) (B o : Nat) (x : Value) : TurnIn B (B + 1) w (w.setCell ⟨B, o, none⟩ x) :=
  ⟨rfl, rfl, rfl, by simp, fun k hk hd => heap_setCell_other w _ k x (by rcases hd with h | h <;> simp <;> omega)⟩
theorem ArrAt.row (h : ArrAt w B T l) (m : List UInt8) : ArrAt (w.setRow B (bys m).toArray) B T m := setRow_heap w B _ _ T _ h
theorem turn_row (w : World) (B : Nat) (x : Array Value) : TurnIn B (B + 1) w (w.setRow B x) :=
  ⟨rfl, rfl, rfl, by simp, fun k hk hd => setRow_other w B k x (by omega)⟩
theorem turn_drewA {a b : Nat} {w w' : World} (t : TurnIn a b w w') : TurnIn a b w w'.drew := ⟨t.os, t.tape, t.output, t.size, t.block⟩
theorem drew_turnA (w : World) : TurnIn 0 0 w w.drew := ⟨rfl, rfl, rfl, Nat.le_refl _, fun _ _ _ => rfl⟩
theorem undrewA {a b : Nat} {w w' : World} (t : TurnIn a b w.drew w') : TurnIn a b w w' := ⟨t.os, t.tape, t.output, t.size, t.block⟩
theorem cell_keepA {w w' : World} {B o a b : Nat} {x : Value} (h : w.cell? ⟨B, o, none⟩ = some x) (hl : B < w.heap.size) (t : TurnIn a b w w') (d : B < a ∨ b ≤ B) : w'.cell? ⟨B, o, none⟩ = some x := (World.cell?_of_block (t.block B hl d)).trans h
theorem turn_from {n : Nat} {a b : World} (h : Below n a b) : TurnIn n a.heap.size a b := ⟨h.os, h.tape, h.output, h.size, fun k hk hd => h.block k (by omega)⟩
theorem bys_all (l : List UInt8) : (bys l).toArray.all (·.oneCell') = true := by
  rw [Array.all_eq_true_iff_forall_mem]
  intro x hx
  exact bys_one x l (by simpa using hx)
end
section
variable {P : Program} {ops : Array Oper} {rest : List Oper} {o : Oper} {a : Act} {w : World} {Q : Exit → Act → World → Prop}
/-- a new array variable -/
theorem wpList_alloc_arr (hgd : o.guard = none) (ty : TypeId) (ho : o.op = .alloc ty) (z : List UInt8) (hz : (P.info? ty).map (·.zero) = some (some (aggL z)))
    (h : ∀ W', Hid (W' = w.alloc (.cells (bys z).toArray ty)) → wpList P ops Q rest (a.put o.dst (.pointer (some ⟨w.heap.size, 0, none⟩))) W') : wpList P ops Q (o :: rest) a w := by
  refine wpList_plain hgd fun K hK => ?_
  cases hq : P.info? ty with
  | none => simp [hq] at hz
  | some i =>
    simp [hq, aggL] at hz
    have := hK _ _ (h _ rfl)
    unfold Oper.wp execOp
    simpa [ho, Instr.alloc, zeroValue, typeInfo, hq, hz, newVar, newRow, Value.cells, Result.andThen, Oper.upon] using this
/-- an array parameter is boxed -/
theorem wpList_box_arr (hgd : o.guard = none) (ty : TypeId) (x : Operand) (ho : o.op = .box ty x) (z : List UInt8) (hx : a.eval x = aggL z)
    (h : ∀ W', Hid (W' = w.alloc (.cells (bys z).toArray ty)) → wpList P ops Q rest (a.put o.dst (.pointer (some ⟨w.heap.size, 0, none⟩))) W') : wpList P ops Q (o :: rest) a w := by
  refine wpList_plain hgd fun K hK => ?_
  have := hK _ _ (h _ rfl)
  unfold Oper.wp execOp
  simpa [ho, hx, aggL, Instr.box, newVar, newRow, Value.cells, Result.andThen, Oper.upon] using this
theorem wpList_store_arr (hgd : o.guard = none) (ty : TypeId) (x y : Operand) (ho : o.op = .store ty x y) (g n : Nat) (t : TypeId) (l0 l : List UInt8) (hx : a.eval x = .pointer (some ⟨g, 0, none⟩)) (hy : a.eval y = aggL l)
    (hg : ArrAt w g t l0) (hi : (P.info? ty).map (·.size) = some n) (h0 : l0.length = n) (hl : l.length = n)
    (h : ∀ W', Hid (W' = w.setRow g (bys l).toArray) → wpList P ops Q rest (a.put o.dst undef) W') : wpList P ops Q (o :: rest) a w :=
  wpList_store_row hgd ty x y ho g (bys l).toArray hx hy t (bys l0).toArray hg (by rw [hi]; simp [hl]) (by simp [h0, hl]) (bys_all l) (h _ rfl)
theorem wpList_load_arr (hgd : o.guard = none) (ty : TypeId) (x : Operand) (ho : o.op = .load ty x) (g n k : Nat) (e t : TypeId) (l : List UInt8) (hx : a.eval x = .pointer (some ⟨g, 0, none⟩))
    (hg : ArrAt w g t l) (hi : (P.info? ty).map (·.size) = some n) (hu : P.underlying ty = some (.array k e)) (hl : l.length = n)
    (h : ∀ u, Hid (u = aggL l) → wpList P ops Q rest (a.put o.dst u) w) : wpList P ops Q (o :: rest) a w :=
  wpList_load_row hgd ty x ho g hx t (bys l).toArray (0, 0) _ hg hu rfl (by rw [hi]; simp [hl]) (h _ rfl)
theorem wpList_index_arr (hgd : o.guard = none) (ty : TypeId) (x ix : Operand) (ho : o.op = .index ty x ix) (l : List UInt8) (k n : Nat) (e : TypeId) (hx : a.eval x = aggL l) (hix : a.eval ix = .int .i64 (k : Int)) (hu : P.underlying ty = some (.array n e))
    (he : P.underlying e = some (.int .u8)) (hs : (P.info? e).map (·.size) = some 1) (hn : l.length = n) (hk : k < l.length) (h : ∀ u, Hid (u = .int .u8 (l[k].toNat : Int)) → wpList P ops Q rest (a.put o.dst u) w) : wpList P ops Q (o :: rest) a w := by
  refine wpList_plain hgd fun K hK => ?_
  have := hK _ _ (h _ rfl)
  cases hq : P.info? e with
  | none => simp [hq] at hs
  | some i =>
    simp [hq] at hs
    have h1 : (0 : Int) ≤ (k : Int) ∧ (k : Int) < (n : Int) := by omega
    have h2 : (bys l).toArray[k]? = some (.int .u8 (l[k].toNat : Int)) := by rw [List.getElem?_toArray, bys_get l k hk]
    unfold Oper.wp execOp
    have h3 : k < n := by omega
    simpa [ho, hx, hix, aggL, Instr.index, asIntOf, run_underlying hu, h3, Go.sizeOf, typeInfo, hq, hs, part, isAgg, run_underlying he, h2, bys_get l k hk, Result.andThen, Oper.upon] using this
/-- two arrays compared -/
theorem wpList_eql_arr (hgd : o.guard = none) (ty ty2 : TypeId) (x y : Operand) (ho : o.op = .binOp .eql ty x y ty2) (u v : Value) (hx : a.eval x = u) (hy : a.eval y = v) (hq : (eqGuard .eql ty x y u v).run P w = .ok () w) {r : Bool} (hr : (binOp .eql ty u v).run P w = .ok (.bool r) w)
    (h : wpList P ops Q rest (a.put o.dst (.bool r)) w) : wpList P ops Q (o :: rest) a w := by
  refine wpList_plain hgd fun K hK => ?_
  have := hK _ _ h
  unfold Oper.wp execOp
  simpa [ho, hx, hy, hq, hr, Result.andThen, Oper.upon] using this
/-- an array result -/
theorem ret_arr {fn : Func} {p : Tmp} {ty : TypeId} (h : fn.results = #[.cell p ty]) (tmps : Array Value) (g n k : Nat) (t e : TypeId) (l : List UInt8) (hp : tmps.getD p undef = .pointer (some ⟨g, 0, none⟩)) (hg : ArrAt w g t l)
    (hu : P.underlying ty = some (.array k e)) (hi : (P.info? ty).map (·.size) = some n) (hl : l.length = n) : (results fn tmps).run P w = .ok (aggL l) w :=
  results_cell_row h tmps w g t (bys l).toArray (0, 0) _ hp hg hu rfl (by rw [hi]; simp [hl])
end
theorem stillA {P : Program} {f : FuncId} {args : Array Value} {w : World} {v : Value} (h : Calls P f args w fun e w' => e = .returned v ∧ w = w') :
    Calls P f args w fun e w' => e = .returned v ∧ w' = w := h.mono fun _ _ ⟨he, hw⟩ => ⟨he, hw.symm⟩
/-- a multiple of V added to the first k elements of M -/
def mixK (f : UInt8) (M V : List UInt8) (k : Nat) : List UInt8 := (addL M (scaleL f V)).take k ++ M.drop k
theorem mixK_zero (f : UInt8) (M V : List UInt8) : mixK f M V 0 = M := by simp [mixK]
theorem mixK_end (f : UInt8) (M V : List UInt8) (h : M.length = V.length) (k : Nat) (hk : M.length ≤ k) : mixK f M V k = addL M (scaleL f V) := by
  unfold mixK
  rw [List.take_of_length_le (by rw [addL_lenS _ _ (by rw [scaleL_lenS, h])]; exact hk), List.drop_of_length_le hk, List.append_nil]
theorem mixK_len (f : UInt8) (M V : List UInt8) (h : M.length = V.length) (k : Nat) (hk : k ≤ M.length) : (mixK f M V k).length = M.length := by
  simp [mixK, addL_lenS _ _ (show M.length = (scaleL f V).length by rw [scaleL_lenS, h])]; omega
theorem mixK_get (f : UInt8) (M V : List UInt8) (h : M.length = V.length) (k : Nat) (hk : k < M.length) : (mixK f M V k)[k]? = some M[k] := by
  have hl := addL_lenS M (scaleL f V) (by rw [scaleL_lenS, h])
  show ((addL M (scaleL f V)).take k ++ M.drop k)[k]? = _
  rw [List.getElem?_append_right (by rw [List.length_take, hl]; omega)]
  simp [List.length_take, hl, Nat.min_eq_left (Nat.le_of_lt hk)]
theorem mixK_set (f : UInt8) (M V : List UInt8) (h : M.length = V.length) (k : Nat) (hk : k < M.length) (hv : k < V.length) : (mixK f M V k).set k (M[k] ^^^ gmul f V[k]) = mixK f M V (k + 1) := by
  unfold mixK
  have hl := addL_lenS M (scaleL f V) (by rw [scaleL_lenS, h])
  refine take_set_over _ _ k _ ?_ hl
  simp [addL, scaleL, List.getElem?_zipWith, hk, hv]
end G294

/- Arrays of 20 bytes: the program's hidden. -/
namespace G294
open Go
theorem hid_splice (s : UInt8) (l : List UInt8) (h : l.length ≤ 19) : splice (bys (pad20 [s])) 1 (bys l) = bys (pad20 (s :: l)) := by
  have e1 : bys (pad20 [s]) = .int .u8 (s.toNat : Int) :: List.replicate 19 (.int .u8 0) := rfl
  have e2 : bys (pad20 (s :: l)) = .int .u8 (s.toNat : Int) :: (bys l ++ List.replicate (19 - l.length) (.int .u8 0)) := by
    simp [pad20, bys, show 20 - (l.length + 1) = 19 - l.length by omega]
  rw [e1, e2]
  unfold splice
  rw [bys_length, Nat.add_comm 1, List.drop_succ_cons, List.drop_replicate]
  rfl
end G294
namespace Go.Proofs.YtjgmegfbfjmnfaaDoor
open Go.RowKit G294

theorem sizeByteA : (Tryd.prog.info? 5).map (·.size) = some 1 := by
  have := infoByte
  cases h : Tryd.prog.info? 5 <;> simp_all

end Go.Proofs.YtjgmegfbfjmnfaaDoor
