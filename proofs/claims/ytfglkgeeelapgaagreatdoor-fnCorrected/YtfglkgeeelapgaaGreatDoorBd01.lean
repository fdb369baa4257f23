/- Joined texts: ShaMath, RndMath, ShaDef, ErrMath, FieldWalks, FieldWalksB, FieldBytes. -/
import Derived.Test.YtfglkgeeelapgaaGreatDoorBd00
import Derived.Test.YtfglkgeeelapgaaGreatDoorProg
import Derived.WalkKit
import Derived.WalkSpells
import Derived.WalkLawsBesides
import Derived.Lib.Hide
set_option linter.unusedSimpArgs false
set_option linter.unusedVariables false
/- Polynomials over GF(256): Horner, roots, Newton and Lagrange. -/
namespace G294
abbrev Sr := UInt8 × UInt8
theorem xx_back (a b : UInt8) : a ^^^ (a ^^^ b) = b := by rw [← UInt8.xor_assoc, UInt8.xor_self, UInt8.zero_xor]
theorem x_mid (p q r d : UInt8) : p ^^^ q ^^^ d = p ^^^ (q ^^^ r) ^^^ (r ^^^ d) := by
  rw [UInt8.xor_assoc p (q ^^^ r), UInt8.xor_assoc q r, xx_back, UInt8.xor_assoc]
/-- the value of a polynomial -/
def hor (x : UInt8) : List UInt8 → UInt8
  | [] => 0
  | c :: l => gmul (hor x l) x ^^^ c
theorem hor_zeros (x : UInt8) (n : Nat) : hor x (List.replicate n 0) = 0 := by
  induction n with
  | zero => rfl
  | succ n ih => rw [List.replicate_succ, hor, ih, zero_gmul]; rfl
theorem hor_pad (x : UInt8) (n : Nat) (l : List UInt8) : hor x (l ++ List.replicate n 0) = hor x l := by
  induction l with
  | nil => exact hor_zeros x n
  | cons c l ih => rw [List.cons_append, hor, hor, ih]
theorem hor_at0 (c : UInt8) (l : List UInt8) : hor 0 (c :: l) = c := by rw [hor, gmul_zero, UInt8.zero_xor]
theorem hor_drop (x : UInt8) (l : List UInt8) (k : Nat) (h : k < l.length) : hor x (l.drop k) = gmul (hor x (l.drop (k + 1))) x ^^^ l[k] := by
  rw [List.drop_eq_getElem_cons h, hor]
/-- synthetic division -/
def syn (a : UInt8) : List UInt8 → List UInt8
  | [] => []
  | [_] => []
  | _ :: c :: l => hor a (c :: l) :: syn a (c :: l)
theorem syn_length (a : UInt8) : ∀ l : List UInt8, (syn a l).length = l.length - 1
  | [] => rfl
  | [_] => rfl
  | _ :: c :: l => by
    have := syn_length a (c :: l)
    simp only [syn, List.length_cons] at this ⊢
    omega
theorem syn_hor (a x : UInt8) : ∀ l : List UInt8, hor x l = gmul (hor x (syn a l)) (x ^^^ a) ^^^ hor a l
  | [] => by simp [hor, syn, zero_gmul]
  | [c] => by simp [hor, syn, zero_gmul]
  | d :: c :: l => by
    have ih := syn_hor a x (c :: l)
    have e1 : hor x (d :: c :: l) = gmul (hor x (c :: l)) x ^^^ d := rfl
    have e2 : hor a (d :: c :: l) = gmul (hor a (c :: l)) a ^^^ d := rfl
    have e3 : syn a (d :: c :: l) = hor a (c :: l) :: syn a (c :: l) := rfl
    have e4 : hor x (hor a (c :: l) :: syn a (c :: l)) = gmul (hor x (syn a (c :: l))) x ^^^ hor a (c :: l) := rfl
    rw [e1, e2, e3, e4, ih]
    generalize hor x (syn a (c :: l)) = A
    generalize hor a (c :: l) = B
    rw [xor_gmul, xor_gmul, gmul_xor B, gmul_assoc A, gmul_assoc A, gmul_comm x (x ^^^ a)]
    exact x_mid _ _ _ _
theorem syn_zero (a : UInt8) : ∀ l : List UInt8, (∀ c ∈ syn a l, c = 0) → hor a l = 0 → ∀ c ∈ l, c = 0
  | [], _, _ => by simp
  | [c], _, h => by
    have : hor a [c] = c := by simp [hor, zero_gmul]
    intro d hd
    simp only [List.mem_singleton] at hd
    rw [hd, ← this, h]
  | d :: c :: l, h, h0 => by
    have e3 : syn a (d :: c :: l) = hor a (c :: l) :: syn a (c :: l) := rfl
    rw [e3] at h
    have hB := h _ (List.mem_cons_self ..)
    have ih := syn_zero a (c :: l) (fun y hy => h y (List.mem_cons_of_mem _ hy)) hB
    have e2 : hor a (d :: c :: l) = gmul (hor a (c :: l)) a ^^^ d := rfl
    rw [e2, hB, zero_gmul, UInt8.zero_xor] at h0
    intro y hy
    rcases List.mem_cons.1 hy with rfl | hy
    · exact h0
    · exact ih y hy
/-- a polynomial with no more coefficients than roots is 0 -/
theorem hor_root : ∀ (xs l : List UInt8), l.length ≤ xs.length → xs.Nodup → (∀ x ∈ xs, hor x l = 0) → ∀ c ∈ l, c = 0
  | [], l, h, _, _ => by
    have : l = [] := List.eq_nil_of_length_eq_zero (by simpa using h)
    subst this
    simp
  | a :: xs, l, h, hn, hx => by
    have h0 := hx a (List.mem_cons_self ..)
    rw [List.nodup_cons] at hn
    refine syn_zero a l (hor_root xs (syn a l) (by rw [syn_length]; simp only [List.length_cons] at h; omega) hn.2 fun x hxm => ?_) h0
    have e := syn_hor a x l
    rw [hx x (List.mem_cons_of_mem _ hxm), h0, UInt8.xor_zero, gmul_comm] at e
    refine g_cancel (x_ne (fun e' => hn.1 ?_)) e.symm
    rw [← e']; exact hxm
theorem addL_lenS (l m : List UInt8) (h : l.length = m.length) : (addL l m).length = l.length := by simp [addL, h]
theorem scaleL_lenS (a : UInt8) (l : List UInt8) : (scaleL a l).length = l.length := by simp [scaleL]
theorem hor_addL (x : UInt8) : ∀ l m : List UInt8, l.length = m.length → hor x (addL l m) = hor x l ^^^ hor x m
  | [], [], _ => by simp [addL, hor]
  | [], _ :: _, h => by simp at h
  | _ :: _, [], h => by simp at h
  | c :: l, d :: m, h => by
    have ih := hor_addL x l m (by simpa using h)
    have e : addL (c :: l) (d :: m) = (c ^^^ d) :: addL l m := rfl
    rw [e, hor, hor, hor, ih, xor_gmul, x4]
theorem hor_scaleL (x a : UInt8) : ∀ l : List UInt8, hor x (scaleL a l) = gmul a (hor x l)
  | [] => by simp [scaleL, hor, gmul_zero]
  | c :: l => by
    have ih := hor_scaleL x a l
    have e : scaleL a (c :: l) = gmul a c :: scaleL a l := rfl
    rw [e, hor, hor, ih, gmul_xor, gmul_assoc]
theorem addL_getD (l m : List UInt8) (h : l.length = m.length) (j : Nat) : (addL l m).getD j 0 = l.getD j 0 ^^^ m.getD j 0 := by
  by_cases hj : j < l.length
  · simp [addL, List.getD, List.getElem?_zipWith, hj, h ▸ hj]
  · have h1 : l[j]? = none := List.getElem?_eq_none (by omega)
    have h2 : m[j]? = none := List.getElem?_eq_none (by omega)
    simp [addL, List.getD, List.getElem?_zipWith, h1, h2]
theorem hor_inj {l m xs : List UInt8} (h : l.length = m.length) (h2 : l.length ≤ xs.length) (hn : xs.Nodup) (hx : ∀ x ∈ xs, hor x l = hor x m) : l = m := by
  have hz := hor_root xs (addL l m) (by rw [addL_lenS _ _ h]; exact h2) hn (fun x hxm => by rw [hor_addL x l m h, hx x hxm, UInt8.xor_self])
  apply List.ext_getElem h
  intro i h1 h3
  have := addL_getD l m h i
  rw [show (addL l m).getD i 0 = 0 from ?_] at this
  · simp only [List.getD, List.getElem?_eq_getElem h1, List.getElem?_eq_getElem h3, Option.getD_some] at this
    exact x_eq this.symm
  · have hl : i < (addL l m).length := by rw [addL_lenS _ _ h]; exact h1
    simp only [List.getD, List.getElem?_eq_getElem hl, Option.getD_some]
    exact hz _ (List.getElem_mem hl)
/-- the values of a polynomial with n coefficients -/
def polyF (n : Nat) (f : UInt8 → UInt8) : Prop := ∃ l : List UInt8, l.length = n ∧ ∀ x, f x = hor x l
theorem polyF.const (c : UInt8) : polyF 1 (fun _ => c) := ⟨[c], rfl, fun x => by simp [hor, zero_gmul]⟩
theorem polyF.xor {n : Nat} {f g : UInt8 → UInt8} (h : polyF n f) (k : polyF n g) : polyF n (fun x => f x ^^^ g x) := by
  obtain ⟨l, hl, hf⟩ := h
  obtain ⟨m, hm, hg⟩ := k
  exact ⟨addL l m, by rw [addL_lenS _ _ (by omega), hl], fun x => by rw [hor_addL x l m (by omega), ← hf, ← hg]⟩
theorem polyF.mulc {n : Nat} {f : UInt8 → UInt8} (a : UInt8) (h : polyF n f) : polyF n (fun x => gmul a (f x)) := by
  obtain ⟨l, hl, hf⟩ := h
  exact ⟨scaleL a l, by rw [scaleL_lenS, hl], fun x => by rw [hor_scaleL, ← hf]⟩
theorem polyF.up {n : Nat} {f : UInt8 → UInt8} (h : polyF n f) : polyF (n + 1) f := by
  obtain ⟨l, hl, hf⟩ := h
  exact ⟨l ++ List.replicate 1 0, by simp [hl], fun x => by rw [hor_pad, hf]⟩
theorem hor_cons0 (x : UInt8) (l : List UInt8) : hor x (0 :: l) = gmul (hor x l) x := by rw [hor, UInt8.xor_zero]
theorem polyF.root {n : Nat} {f : UInt8 → UInt8} (a : UInt8) (h : polyF n f) : polyF (n + 1) (fun x => gmul (f x) (x ^^^ a)) := by
  obtain ⟨l, hl, hf⟩ := h
  refine ⟨addL (0 :: l) (scaleL a l ++ List.replicate 1 0), by rw [addL_lenS _ _ (by simp [scaleL_lenS])]; simp [hl], fun x => ?_⟩
  rw [hor_addL x _ _ (by simp [scaleL_lenS]), hor_cons0, hor_pad, hor_scaleL, gmul_comm a, ← gmul_xor, ← hf]
theorem polyF.zero (n : Nat) : polyF n (fun _ => 0) := ⟨List.replicate n 0, by simp, fun x => (hor_zeros x n).symm⟩
theorem polyF.sum {n : Nat} {f : Nat → UInt8 → UInt8} : ∀ m, (∀ i, i < m → polyF n (f i)) → polyF n (fun x => sumK m fun i => f i x)
  | 0, _ => polyF.zero n
  | m + 1, h => (polyF.sum m fun i hi => h i (by omega)).xor (h m (by omega))
theorem polyF.eq {n : Nat} {f g : UInt8 → UInt8} {xs : List UInt8} (h : polyF n f) (k : polyF n g) (hn : xs.Nodup) (hl : n ≤ xs.length) (hx : ∀ x ∈ xs, f x = g x) (x : UInt8) : f x = g x := by
  obtain ⟨l, hl1, hf⟩ := h
  obtain ⟨m, hm, hg⟩ := k
  have e : l = m := hor_inj (by omega) (by omega) hn fun y hy => by rw [← hf, ← hg, hx y hy]
  rw [hf, hg, e]
theorem polyF.upto {n m : Nat} {f : UInt8 → UInt8} (h : polyF n f) (hm : n ≤ m) : polyF m f := by
  induction hm with
  | refl => exact h
  | step _ ih => exact ih.up
/-- points -/
def apartX (X : Nat → UInt8) (n : Nat) : Prop := ∀ i j, i < j → j < n → X i ≠ X j
theorem apart_ne {X : Nat → UInt8} {n i j : Nat} (h : apartX X n) (hi : i < n) (hj : j < n) (hne : i ≠ j) : X i ≠ X j := by
  rcases Nat.lt_or_gt_of_ne hne with h1 | h1
  · exact h i j h1 hj
  · exact fun e => h j i h1 hi e.symm
theorem apart_nodup {X : Nat → UInt8} {n : Nat} (h : apartX X n) : ((List.range n).map X).Nodup := by
  unfold List.Nodup
  rw [List.pairwise_map]
  exact List.Pairwise.imp_of_mem (fun {a b} ha hb hab => h a b hab (List.mem_range.1 hb)) List.pairwise_lt_range
theorem polyF.eqX {n : Nat} {f g : UInt8 → UInt8} {X : Nat → UInt8} (h : polyF n f) (k : polyF n g) (ha : apartX X n) (hx : ∀ i, i < n → f (X i) = g (X i)) (x : UInt8) : f x = g x :=
  h.eq k (apart_nodup ha) (by simp) (fun y hy => by
    obtain ⟨i, hi, rfl⟩ := List.mem_map.1 hy
    exact hx i (List.mem_range.1 hi)) x
/-- the product over all points but one -/
def upK (X : Nat → UInt8) (i : Nat) (x : UInt8) : Nat → UInt8
  | 0 => 1
  | k + 1 => if k = i then upK X i x k else gmul (upK X i x k) (x ^^^ X k)
def lagK (X Y : Nat → UInt8) (x : UInt8) (n m : Nat) : UInt8 := sumK m fun i => gmul (Y i) (gmul (upK X i x n) (ginv (upK X i (X i) n)))
/-- Lagrange's interpolation -/
def lag (X Y : Nat → UInt8) (x : UInt8) (n : Nat) : UInt8 := lagK X Y x n n
theorem upK_poly (X : Nat → UInt8) (i : Nat) : ∀ k, (k ≤ i → polyF (k + 1) (fun x => upK X i x k)) ∧ (i < k → polyF k (fun x => upK X i x k)) := by
  intro k
  induction k with
  | zero => exact ⟨fun _ => polyF.const 1, fun h => by omega⟩
  | succ k ih =>
    by_cases e : k = i
    · have : (fun x => upK X i x (k + 1)) = fun x => upK X i x k := by funext x; simp [upK, e]
      rw [this]
      exact ⟨fun h => by omega, fun _ => ih.1 (by omega)⟩
    · have : (fun x => upK X i x (k + 1)) = fun x => gmul (upK X i x k) (x ^^^ X k) := by funext x; simp [upK, e]
      rw [this]
      exact ⟨fun h => (ih.1 (by omega)).root _, fun h => (ih.2 (by omega)).root _⟩
theorem upK_zero {X : Nat → UInt8} {i j : Nat} (hne : j ≠ i) : ∀ k, j < k → upK X i (X j) k = 0 := by
  intro k
  induction k with
  | zero => intro h; omega
  | succ k ih =>
    intro h
    rw [upK]
    split
    · exact ih (by omega)
    · by_cases e : j = k
      · rw [e, UInt8.xor_self, gmul_zero]
      · rw [ih (by omega), zero_gmul]
theorem upK_ne {X : Nat → UInt8} {i : Nat} {x : UInt8} : ∀ k, (∀ j, j < k → j ≠ i → x ≠ X j) → upK X i x k ≠ 0 := by
  intro k
  induction k with
  | zero => intro _; exact (by decide : (1 : UInt8) ≠ 0)
  | succ k ih =>
    intro h
    rw [upK]
    split
    · exact ih fun j hj => h j (by omega)
    · exact g_ne (ih fun j hj => h j (by omega)) (x_ne (h k (by omega) ‹_›))
theorem lag_poly (X Y : Nat → UInt8) (n : Nat) : polyF n (fun x => lag X Y x n) := by
  refine polyF.sum n fun i hi => ?_
  have h := ((upK_poly X i n).2 hi).mulc (ginv (upK X i (X i) n))
  have h2 := h.mulc (Y i)
  have e : (fun x => gmul (Y i) (gmul (upK X i x n) (ginv (upK X i (X i) n)))) = fun x => gmul (Y i) (gmul (ginv (upK X i (X i) n)) (upK X i x n)) := by
    funext x; rw [gmul_comm (upK X i x n)]
  rw [e]
  exact h2
theorem lag_at {X Y : Nat → UInt8} {n : Nat} (ha : apartX X n) {i : Nat} (hi : i < n) : lag X Y (X i) n = Y i := by
  unfold lag lagK
  rw [sumK_one _ hi fun l hl hne => by rw [upK_zero (Ne.symm hne) n hi, zero_gmul, gmul_zero]]
  rw [gmul_ginv (upK_ne n fun j hj hne => apart_ne ha hi hj (Ne.symm hne)), gmul_one]
theorem lag_eq {X Y : Nat → UInt8} {n : Nat} {f : UInt8 → UInt8} (ha : apartX X n) (hf : polyF n f) (h : ∀ i, i < n → f (X i) = Y i) (x : UInt8) : lag X Y x n = f x :=
  (lag_poly X Y n).eqX hf ha (fun i hi => by rw [lag_at ha hi, h i hi]) x
theorem lag_xor (X Y Z : Nat → UInt8) (x : UInt8) (n : Nat) : lag X (fun i => Y i ^^^ Z i) x n = lag X Y x n ^^^ lag X Z x n := by
  unfold lag lagK
  rw [← sumK_xor]
  exact sumK_congr fun l _ => xor_gmul _ _ _
theorem upK_congr {X X' : Nat → UInt8} {i : Nat} {x : UInt8} : ∀ k, (∀ j, j < k → X j = X' j) → upK X i x k = upK X' i x k := by
  intro k
  induction k with
  | zero => intro _; rfl
  | succ k ih => intro h; rw [upK, upK, ih fun j hj => h j (by omega), h k (by omega)]
theorem lag_congr {X X' Y Y' : Nat → UInt8} {x : UInt8} {n : Nat} (h : ∀ j, j < n → X j = X' j) (h' : ∀ j, j < n → Y j = Y' j) : lag X Y x n = lag X' Y' x n := by
  unfold lag lagK
  exact sumK_congr fun l hl => by rw [upK_congr n h, upK_congr n h, h l hl, h' l hl]
/-- a polynomial's first coefficients -/
theorem hor_take (x : UInt8) : ∀ (l : List UInt8) (n : Nat), (∀ j, n ≤ j → l.getD j 0 = 0) → hor x (l.take n) = hor x l
  | [], n, _ => by simp
  | c :: l, 0, h => by
    have h0 : c = 0 := h 0 (by omega)
    have ih := hor_take x l 0 (fun j _ => h (j + 1) (by omega))
    rw [List.take_zero] at ih ⊢
    have e : hor x (c :: l) = gmul (hor x l) x ^^^ c := rfl
    rw [e, ← ih, h0]
    simp [hor, zero_gmul]
  | c :: l, n + 1, h => by
    have ih := hor_take x l n (fun j hj => h (j + 1) (by omega))
    rw [List.take_succ_cons, hor, hor, ih]
theorem hor_short {l : List UInt8} {n : Nat} (hl : n ≤ l.length) (h : ∀ j, n ≤ j → l.getD j 0 = 0) : polyF n (fun x => hor x l) :=
  ⟨l.take n, by simp; omega, fun x => (hor_take x l n h).symm⟩
/-- Newton's interpolation, as arrays of 20 coefficients -/
def addC (f : UInt8) (P V : List UInt8) : List UInt8 := addL P (scaleL f V)
def wrC (r : UInt8) (V : List UInt8) : List UInt8 := addL (0 :: V.take 19) (scaleL r V)
def xF (l : List Sr) (i : Nat) : UInt8 := (l.getD i (0, 0)).1
def yF (l : List Sr) (i : Nat) : UInt8 := (l.getD i (0, 0)).2
def nwK (l : List Sr) : Nat → List UInt8 × List UInt8
  | 0 => (List.replicate 20 0, 1 :: List.replicate 19 0)
  | k + 1 => (addC (gmul (yF l k ^^^ hor (xF l k) (nwK l k).1) (ginv (hor (xF l k) (nwK l k).2))) (nwK l k).1 (nwK l k).2, wrC (xF l k) (nwK l k).2)
def thr (l : List Sr) : List UInt8 := (nwK l l.length).1
def prK (X : Nat → UInt8) (x : UInt8) : Nat → UInt8
  | 0 => 1
  | k + 1 => gmul (prK X x k) (x ^^^ X k)
theorem prK_zero {X : Nat → UInt8} {j : Nat} : ∀ k, j < k → prK X (X j) k = 0 := by
  intro k
  induction k with
  | zero => intro h; omega
  | succ k ih =>
    intro h
    rw [prK]
    by_cases e : j = k
    · rw [e, UInt8.xor_self, gmul_zero]
    · rw [ih (by omega), zero_gmul]
theorem prK_ne {X : Nat → UInt8} {x : UInt8} : ∀ k, (∀ j, j < k → x ≠ X j) → prK X x k ≠ 0 := by
  intro k
  induction k with
  | zero => intro _; exact (by decide : (1 : UInt8) ≠ 0)
  | succ k ih => intro h; rw [prK]; exact g_ne (ih fun j hj => h j (by omega)) (x_ne (h k (by omega)))
theorem rep_getD (n j : Nat) : (List.replicate n (0 : UInt8)).getD j 0 = 0 := by
  by_cases h : j < n <;> simp [List.getD, h]
theorem nw_len (l : List Sr) : ∀ k, (nwK l k).1.length = 20 ∧ (nwK l k).2.length = 20 := by
  intro k
  induction k with
  | zero => simp [nwK]
  | succ k ih =>
    refine ⟨?_, ?_⟩
    · show (addL _ (scaleL _ _)).length = 20
      rw [addL_lenS _ _ (by rw [scaleL_lenS, ih.1, ih.2]), ih.1]
    · show (addL (0 :: (nwK l k).2.take 19) (scaleL _ _)).length = 20
      rw [addL_lenS _ _ (by rw [scaleL_lenS]; simp [ih.2])]; simp [ih.2]
theorem wr_getD {V : List UInt8} (hV : V.length = 20) (r : UInt8) (j : Nat) (h1 : ∀ i, j ≤ i + 1 → V.getD i 0 = 0) (hj : 0 < j) : (wrC r V).getD j 0 = 0 := by
  unfold wrC
  rw [addL_getD _ _ (by rw [scaleL_lenS]; simp [hV]), getD_scale, h1 j (by omega), gmul_zero, UInt8.xor_zero]
  obtain ⟨i, rfl⟩ : ∃ i, j = i + 1 := ⟨j - 1, by omega⟩
  show (V.take 19).getD i 0 = 0
  have := h1 i (by omega)
  by_cases hi : i < 19
  · simp only [List.getD, List.getElem?_take, hi, if_true] at this ⊢
    exact this
  · simp [List.getD, List.getElem?_take, hi]
theorem hor_wr {V : List UInt8} (hV : V.length = 20) (h0 : V.getD 19 0 = 0) (r x : UInt8) : hor x (wrC r V) = gmul (hor x V) (x ^^^ r) := by
  unfold wrC
  have hz : ∀ j, 19 ≤ j → V.getD j 0 = 0 := fun j hj => by
    by_cases e : j = 19
    · rw [e, h0]
    · simp [List.getD, List.getElem?_eq_none (show V.length ≤ j by omega)]
  rw [hor_addL x _ _ (by rw [scaleL_lenS]; simp [hV]), hor_cons0, hor_take x V 19 hz, hor_scaleL, gmul_xor, gmul_comm r]
theorem nw_ok {l : List Sr} (h20 : l.length ≤ 20) (ha : apartX (xF l) l.length) : ∀ k, k ≤ l.length →
    (∀ j, k ≤ j → (nwK l k).1.getD j 0 = 0) ∧ (∀ j, k < j → (nwK l k).2.getD j 0 = 0) ∧ (k ≤ 19 → ∀ x, hor x (nwK l k).2 = prK (xF l) x k) ∧ (∀ i, i < k → hor (xF l i) (nwK l k).1 = yF l i) := by
  intro k
  induction k with
  | zero =>
    intro _
    refine ⟨fun j _ => rep_getD 20 j, fun j hj => ?_, fun _ x => ?_, fun i hi => by omega⟩
    · obtain ⟨i, rfl⟩ : ∃ i, j = i + 1 := ⟨j - 1, by omega⟩
      exact rep_getD 19 i
    · show hor x (1 :: List.replicate 19 0) = 1
      rw [hor, hor_zeros, zero_gmul]; rfl
  | succ k ih =>
    intro hk
    obtain ⟨i1, i2, i3, i4⟩ := ih (by omega)
    obtain ⟨l1, l2⟩ := nw_len l k
    have hP : ∀ x, hor x (nwK l (k + 1)).1 = hor x (nwK l k).1 ^^^ gmul (gmul (yF l k ^^^ hor (xF l k) (nwK l k).1) (ginv (hor (xF l k) (nwK l k).2))) (hor x (nwK l k).2) := fun x => by
      show hor x (addL _ (scaleL _ _)) = _
      rw [hor_addL x _ _ (by rw [scaleL_lenS, l1, l2]), hor_scaleL]
    have hv := i3 (by omega)
    have hne : prK (xF l) (xF l k) k ≠ 0 := prK_ne k fun j hj => Ne.symm (ha j k hj (by omega))
    refine ⟨fun j hj => ?_, fun j hj => ?_, fun h19 x => ?_, fun i hi => ?_⟩
    · show (addL _ (scaleL _ _)).getD j 0 = 0
      rw [addL_getD _ _ (by rw [scaleL_lenS, l1, l2]), getD_scale, i1 j (by omega), i2 j (by omega), gmul_zero]; rfl
    · exact wr_getD l2 _ j (fun i hi => i2 i (by omega)) (by omega)
    · show hor x (wrC _ _) = _
      rw [hor_wr l2 (i2 19 (by omega)), prK, hv]
    · rw [hP]
      by_cases e : i = k
      · rw [e, hv, gmul_assoc, ginv_gmul hne, gmul_one, UInt8.xor_comm (yF l k), xx_back]
      · rw [hv (xF l i), prK_zero k (by omega), gmul_zero, UInt8.xor_zero, i4 i (by omega)]
theorem thr_len (l : List Sr) : (thr l).length = 20 := (nw_len l _).1
theorem thr_at {l : List Sr} (h20 : l.length ≤ 20) (ha : apartX (xF l) l.length) {i : Nat} (hi : i < l.length) : hor (xF l i) (thr l) = yF l i := (nw_ok h20 ha _ (Nat.le_refl _)).2.2.2 i hi
theorem thr_high {l : List Sr} (h20 : l.length ≤ 20) (ha : apartX (xF l) l.length) {j : Nat} (hj : l.length ≤ j) : (thr l).getD j 0 = 0 := (nw_ok h20 ha _ (Nat.le_refl _)).1 j hj
/-- Newton's is Lagrange's -/
theorem thr_lag {l : List Sr} (h20 : l.length ≤ 20) (ha : apartX (xF l) l.length) (x : UInt8) : hor x (thr l) = lag (xF l) (yF l) x l.length :=
  (lag_eq ha (hor_short (by rw [thr_len]; exact h20) fun j hj => thr_high h20 ha hj) (fun i hi => thr_at h20 ha hi) x).symm
theorem xF_take (l : List Sr) (m i : Nat) (h : i < m) : xF (l.take m) i = xF l i := by simp [xF, List.getD, List.getElem?_take, h]
theorem yF_take (l : List Sr) (m i : Nat) (h : i < m) : yF (l.take m) i = yF l i := by simp [yF, List.getD, List.getElem?_take, h]
theorem nw_take (l : List Sr) (m : Nat) : ∀ k, k ≤ m → nwK (l.take m) k = nwK l k := by
  intro k
  induction k with
  | zero => intro _; rfl
  | succ k ih => intro h; rw [nwK, nwK, ih (by omega), xF_take l m k (by omega), yF_take l m k (by omega)]
theorem addC_zero (P V : List UInt8) (h : P.length = V.length) : addC 0 P V = P := by
  apply List.ext_getElem (by unfold addC; rw [addL_lenS _ _ (by rw [scaleL_lenS, h])])
  intro i h1 h2
  have hV : i < V.length := by omega
  simp [addC, addL, scaleL, zero_gmul]
/-- shares lie on the polynomial of the first m exactly if they don't change it -/
theorem thr_same {l : List Sr} (h20 : l.length ≤ 20) (ha : apartX (xF l) l.length) {m : Nat} (hm : m ≤ l.length) : thr (l.take m) = thr l ↔ ∀ i, m ≤ i → i < l.length → lag (xF l) (yF l) (xF l i) m = yF l i := by
  have hlm : (l.take m).length = m := by simp; omega
  have e1 : thr (l.take m) = (nwK l m).1 := by unfold thr; rw [hlm, nw_take l m m (Nat.le_refl _)]
  have ha' : apartX (xF (l.take m)) (l.take m).length := fun i j hij hj => by
    rw [hlm] at hj
    rw [xF_take l m i (by omega), xF_take l m j hj]
    exact ha i j hij (by omega)
  have e2 : ∀ x, hor x (thr (l.take m)) = lag (xF l) (yF l) x m := fun x => by
    rw [thr_lag (by omega) ha', hlm]
    exact lag_congr (fun j hj => xF_take l m j hj) (fun j hj => yF_take l m j hj)
  constructor
  · intro h i _ hi
    rw [← e2, h]
    exact thr_at h20 ha hi
  · intro h
    rw [e1]
    have : ∀ d, m + d ≤ l.length → (nwK l (m + d)).1 = (nwK l m).1 := by
      intro d
      induction d with
      | zero => intro _; rfl
      | succ d ih =>
        intro hd
        have i0 := ih (by omega)
        have es : (nwK l (m + (d + 1))).1 = addC (gmul (yF l (m + d) ^^^ hor (xF l (m + d)) (nwK l (m + d)).1) (ginv (hor (xF l (m + d)) (nwK l (m + d)).2))) (nwK l (m + d)).1 (nwK l (m + d)).2 := rfl
        rw [es, i0, ← e1, e2, h (m + d) (by omega) (by omega), UInt8.xor_self, zero_gmul, e1]
        exact addC_zero _ _ (by rw [(nw_len l m).1, (nw_len l (m + d)).2])
    have := this (l.length - m) (by omega)
    rw [Nat.add_sub_cancel' hm] at this
    exact this.symm
/-- valid shares -/
def prX (l : List Sr) (i : Nat) : UInt8 := if i = 0 then 0 else xF l (i - 1)
def shrOk (l : List Sr) : Bool := decide (l.length ≤ 20 ∧ ∀ i, i < l.length → prX l i < xF l i)
theorem shrOk_iff (l : List Sr) : shrOk l = true ↔ l.length ≤ 20 ∧ ∀ i, i < l.length → prX l i < xF l i := by simp only [shrOk, decide_eq_true_eq]
theorem shr_lt {l : List Sr} (h : shrOk l = true) : ∀ j i, i < j → j < l.length → xF l i < xF l j := by
  obtain ⟨_, h2⟩ := (shrOk_iff l).1 h
  intro j
  induction j with
  | zero => intro i hi; omega
  | succ j ih =>
    intro i hi hj
    have := h2 (j + 1) hj
    simp only [prX, Nat.add_sub_cancel, if_neg (show ¬ j + 1 = 0 by omega)] at this
    by_cases e : i = j
    · rw [e]; exact this
    · exact UInt8.lt_trans (ih i (by omega) (by omega)) this
theorem shr_apart {l : List Sr} (h : shrOk l = true) : apartX (xF l) l.length := fun i j hij hj e => by
  have := shr_lt h j i hij hj
  rw [e] at this
  exact absurd this (UInt8.lt_irrefl _)
theorem shr_pos {l : List Sr} (h : shrOk l = true) (i : Nat) (hi : i < l.length) : xF l i ≠ 0 := fun e => by
  have := ((shrOk_iff l).1 h).2 i hi
  rw [e] at this
  exact absurd this (by simp [UInt8.lt_iff_toNat_lt])
theorem shr_20 {l : List Sr} (h : shrOk l = true) : l.length ≤ 20 := ((shrOk_iff l).1 h).1
end G294

/- The random bytes that fit to shares: one solution of equations of powers. -/
namespace G294
theorem powB_zero (x : UInt8) : powB x 0 = 1 := by
  apply UInt8.toNat_inj.1; rw [powB_toNat]; rfl
theorem powB_succ (x : UInt8) (n : Nat) : powB x (n + 1) = gmul (powB x n) x := by
  apply UInt8.toNat_inj.1
  rw [gmul_toNat, powB_toNat, powB_toNat]; rfl
theorem hor_snoc (x c : UInt8) (l : List UInt8) : hor x (l ++ [c]) = hor x l ^^^ gmul (powB x l.length) c := by
  induction l with
  | nil => simp [hor, zero_gmul, powB_zero, one_gmul]
  | cons d l ih =>
    rw [List.cons_append, hor, ih, hor, List.length_cons, powB_succ, xor_gmul, gmul_assoc, gmul_assoc, gmul_comm c x]
    rw [UInt8.xor_assoc, UInt8.xor_assoc, UInt8.xor_comm d]
theorem hor_mk (x : UInt8) (f : Nat → UInt8) (n : Nat) : hor x (mkRow n f) = sumK n fun j => gmul (powB x j) (f j) := by
  induction n with
  | zero => rfl
  | succ n ih => rw [mkRow_succ, hor_snoc, ih, sumK]; simp
theorem hor_up (x : UInt8) (f : Nat → UInt8) (n : Nat) : gmul (hor x (mkRow n f)) x = sumK n fun j => gmul (powB x (j + 1)) (f j) := by
  rw [hor_mk, ← sumK_mulr]
  exact sumK_congr fun j _ => by rw [powB_succ, gmul_assoc, gmul_assoc, gmul_comm x]
def rndF (l : List Sr) : Ents := fun i j => powB (xF l i) (j + 1)
theorem rnd_full {l : List Sr} (h : shrOk l = true) : (est (rndF l) l.length l.length).2 = l.length := by
  refine rank_full (Nat.le_refl _) fun v hv j hj => ?_
  have hz := hor_root ((List.range l.length).map (xF l)) (mkRow l.length v) (by simp) (apart_nodup (shr_apart h)) (fun x hx => by
    obtain ⟨i, hi, rfl⟩ := List.mem_map.1 hx
    have hi := List.mem_range.1 hi
    have := hv i hi
    simp only [rndF] at this
    rw [← hor_up, gmul_comm] at this
    exact g_cancel (shr_pos h i hi) this)
  have hl : j < (mkRow l.length v).length := by simpa using hj
  have := hz _ (List.getElem_mem hl)
  rwa [mkRow_get] at this
def rndP (l : List Sr) (s : UInt8) : List UInt8 := thr ((0, s) :: l)
theorem rnd_apart {l : List Sr} (h : shrOk l = true) (s : UInt8) : apartX (xF ((0, s) :: l)) ((0, s) :: l).length := by
  intro i j hij hj
  obtain ⟨j, rfl⟩ : ∃ j', j = j' + 1 := ⟨j - 1, by omega⟩
  have hj' : j < l.length := by simpa using hj
  cases i with
  | zero => exact fun e => shr_pos h j hj' e.symm
  | succ i => exact shr_apart h i j (by omega) hj'
theorem rnd_len (l : List Sr) (s : UInt8) : (rndP l s).length = 20 := thr_len _
theorem rnd_cons {l : List Sr} (h : shrOk l = true) (h19 : l.length ≤ 19) (s : UInt8) : ∃ T, rndP l s = s :: T ∧ T.length = 19 ∧ ∀ j, l.length ≤ j → T.getD j 0 = 0 := by
  have hl := rnd_len l s
  have h0 := thr_at (l := (0, s) :: l) (by simp; omega) (rnd_apart h s) (i := 0) (by simp)
  have hh := fun j (hj : l.length ≤ j) => thr_high (l := (0, s) :: l) (by simp; omega) (rnd_apart h s) (j := j + 1) (by simp; omega)
  change hor 0 (rndP l s) = s at h0
  change ∀ j, l.length ≤ j → (rndP l s).getD (j + 1) 0 = 0 at hh
  generalize rndP l s = P at *
  cases P with
  | nil => simp at hl
  | cons p T =>
    rw [hor_at0] at h0
    exact ⟨T, by rw [h0], by simpa using hl, hh⟩
theorem take_mkRow (T : List UInt8) (n : Nat) (h : n ≤ T.length) : T.take n = mkRow n (fun j => T.getD j 0) := by
  apply List.ext_getElem
  · simp; omega
  · intro i h1 h2
    have hi : i < T.length := by simp at h1; omega
    rw [mkRow_get, List.getElem_take]
    simp [List.getD, hi]
theorem rnd_val {l : List Sr} (h : shrOk l = true) (h19 : l.length ≤ 19) (s x : UInt8) : hor x (rndP l s) = gmul (hor x (mkRow l.length fun j => (rndP l s).getD (j + 1) 0)) x ^^^ s := by
  obtain ⟨T, hT, hl, hz⟩ := rnd_cons h h19 s
  rw [hT, hor, ← hor_take x T l.length hz, take_mkRow T _ (by omega)]
  rfl
theorem rnd_at {l : List Sr} (h : shrOk l = true) (h19 : l.length ≤ 19) (s : UInt8) {i : Nat} (hi : i < l.length) : hor (xF l i) (rndP l s) = yF l i :=
  thr_at (l := (0, s) :: l) (by simp; omega) (rnd_apart h s) (i := i + 1) (by simpa using hi)
theorem rnd_left {l : List Sr} (h : shrOk l = true) (h19 : l.length ≤ 19) (s : UInt8) {i : Nat} (hi : i < l.length) : sumK l.length (fun j => gmul (rndF l i j) ((rndP l s).getD (j + 1) 0)) = yF l i ^^^ s := by
  have h1 := rnd_at h h19 s hi
  rw [rnd_val h h19, hor_up] at h1
  rw [← h1, UInt8.xor_assoc, UInt8.xor_self, UInt8.xor_zero]
  rfl
theorem rnd_sol {l : List Sr} (h : shrOk l = true) (h19 : l.length ≤ 19) (s : UInt8) {i : Nat} (hi : i < l.length) :
    sumK l.length (fun k => gmul (bst (rndF l) idF l.length l.length i k) (yF l k ^^^ s)) = (rndP l s).getD (i + 1) 0 := by
  have e : sumK l.length (fun k => gmul (bst (rndF l) idF l.length l.length i k) (yF l k ^^^ s)) = sumK l.length (fun k => sumK l.length fun j => gmul (gmul (bst (rndF l) idF l.length l.length i k) (rndF l k j)) ((rndP l s).getD (j + 1) 0)) :=
    sumK_congr fun k hk => by
      rw [← rnd_left h h19 s hk, ← sumK_mul]
      exact sumK_congr fun j _ => by rw [gmul_assoc]
  rw [e, sumK_swap]
  rw [sumK_congr (g := fun j => gmul (idF i j) ((rndP l s).getD (j + 1) 0)) (fun j hj => by rw [sumK_mulr, inv_left (rnd_full h) hi hj])]
  rw [sumK_one _ hi fun j _ hne => by rw [show idF i j = 0 from if_neg (Ne.symm hne), zero_gmul]]
  rw [show idF i i = 1 from if_pos rfl, one_gmul]
end G294

/- What chapter 7's functions answer. -/
namespace G294
def polOk (l : List UInt8) : Bool := decide (l.length ≤ 20)
def polR (l : List UInt8) (x : UInt8) : UInt8 := if l.length ≤ 20 then hor x l else 0
def shaL (s : UInt8) (l : List UInt8) (n : Nat) : List Sr := (List.range n).map fun i => (UInt8.ofNat (i + 1), hor (UInt8.ofNat (i + 1)) (s :: l))
@[simp] theorem shaL_length (s : UInt8) (l : List UInt8) (n : Nat) : (shaL s l n).length = n := by simp [shaL]
theorem shaL_get (s : UInt8) (l : List UInt8) (n k : Nat) (h : k < n) : (shaL s l n)[k]? = some (UInt8.ofNat (k + 1), hor (UInt8.ofNat (k + 1)) (s :: l)) := by simp [shaL, h]
def shaOk (l : List UInt8) (n : Int) : Bool := decide (l.length ≤ 8) && decide (1 ≤ n ∧ n ≤ 20)
def shaR (s : UInt8) (l : List UInt8) (n : Int) : List Sr := if shaOk l n = true then shaL s l n.toNat else []
theorem shaR_yes {s : UInt8} {l : List UInt8} {n : Int} (h : shaOk l n = true) : shaR s l n = shaL s l n.toNat := if_pos h
theorem shaR_no {s : UInt8} {l : List UInt8} {n : Int} (h : shaOk l n = false) : shaR s l n = [] := if_neg (by rw [h]; simp)
theorem shaR_len (s : UInt8) (l : List UInt8) (n : Int) : (shaR s l n).length ≤ 20 := by
  unfold shaR; split
  · rename_i h
    simp only [shaOk, Bool.and_eq_true, decide_eq_true_eq] at h
    simp; omega
  · simp
def intOk (l : List Sr) : Bool := shrOk l && decide (0 < l.length)
def intR (l : List Sr) (x : UInt8) : UInt8 := if intOk l = true then lag (xF l) (yF l) x l.length else 0
def opnOk (l : List Sr) (k : Int) : Bool := shrOk l && decide (1 ≤ k ∧ k ≤ l.length)
def opnR (l : List Sr) (k : Int) : UInt8 := if opnOk l k = true then lag (xF l) (yF l) 0 k.toNat else 0
def onAll (l : List Sr) (k : Nat) : Bool := decide (∀ i, i < l.length → k ≤ i → lag (xF l) (yF l) (xF l i) k = yF l i)
def isSOk (l : List Sr) (k : Int) : Bool := shrOk l && decide (1 ≤ k ∧ k ≤ 20)
def isSR (l : List Sr) (k : Int) : Bool := isSOk l k && onAll l k.toNat
def sameX (a b : List Sr) : Bool := decide (a.length = b.length ∧ ∀ i, i < a.length → xF a i = xF b i)
def adsOk (a b : List Sr) : Bool := shrOk a && shrOk b && sameX a b
def adsL (a b : List Sr) : List Sr := (List.range a.length).map fun i => (xF a i, yF a i ^^^ yF b i)
@[simp] theorem adsL_length (a b : List Sr) : (adsL a b).length = a.length := by simp [adsL]
theorem adsL_get (a b : List Sr) (k : Nat) (h : k < a.length) : (adsL a b)[k]? = some (xF a k, yF a k ^^^ yF b k) := by simp [adsL, h]
def adsR (a b : List Sr) : List Sr := if adsOk a b = true then adsL a b else []
theorem adsR_len (a b : List Sr) : (adsR a b).length ≤ 20 := by
  unfold adsR; split
  · rename_i h
    simp only [adsOk, Bool.and_eq_true] at h
    have := shr_20 h.1.1
    simpa using this
  · simp
def refOk (l : List Sr) (r : List UInt8) : Bool := shrOk l && decide (r.length ≤ 8)
def refL (l : List Sr) (r : List UInt8) : List Sr := (List.range l.length).map fun i => (xF l i, yF l i ^^^ hor (xF l i) (0 :: r))
@[simp] theorem refL_length (l : List Sr) (r : List UInt8) : (refL l r).length = l.length := by simp [refL]
theorem refL_get (l : List Sr) (r : List UInt8) (k : Nat) (h : k < l.length) : (refL l r)[k]? = some (xF l k, yF l k ^^^ hor (xF l k) (0 :: r)) := by simp [refL, h]
def refR (l : List Sr) (r : List UInt8) : List Sr := if refOk l r = true then refL l r else []
theorem refR_len (l : List Sr) (r : List UInt8) : (refR l r).length ≤ 20 := by
  unfold refR; split
  · rename_i h
    simp only [refOk, Bool.and_eq_true] at h
    have := shr_20 h.1
    simpa using this
  · simp
def rndOk (l : List Sr) : Bool := shrOk l && decide (l.length ≤ 8)
def rndL (l : List Sr) (s : UInt8) : List UInt8 := mkRow l.length fun j => (rndP l s).getD (j + 1) 0
def rndR (l : List Sr) (s : UInt8) : List UInt8 := if rndOk l = true then rndL l s else []
theorem rndR_len (l : List Sr) (s : UInt8) : (rndR l s).length ≤ 8 := by
  unfold rndR; split
  · rename_i h
    simp only [rndOk, Bool.and_eq_true, decide_eq_true_eq] at h
    simpa [rndL] using h.2
  · simp
theorem at_xy {l : List Sr} {k : Nat} {s : Sr} (h : l[k]? = some s) : s.1 = xF l k ∧ s.2 = yF l k := by simp [xF, yF, List.getD, h]
/-- a list padded to 20 -/
def pad20 (l : List UInt8) : List UInt8 := l ++ List.replicate (20 - l.length) 0
theorem pad20_length {l : List UInt8} (h : l.length ≤ 20) : (pad20 l).length = 20 := by simp [pad20]; omega
theorem hor_pad20 (x : UInt8) (l : List UInt8) : hor x (pad20 l) = hor x l := hor_pad x _ l
def xsL (l : List Sr) : List UInt8 := l.map (·.1)
theorem pad20_getD (l : List UInt8) (j : Nat) : (pad20 l).getD j 0 = l.getD j 0 := by
  unfold pad20
  simp only [List.getD]
  by_cases h : j < l.length
  · rw [List.getElem?_append_left h]
  · rw [List.getElem?_append_right (by omega), List.getElem?_eq_none (show l.length ≤ j by omega), List.getElem?_replicate]
    split <;> simp
theorem xsL_getD (l : List Sr) (j : Nat) : (xsL l).getD j 0 = xF l j := by
  simp only [xsL, xF, List.getD, List.getElem?_map]
  cases l[j]? <;> simp
theorem places_iff {a b : List Sr} (ha : shrOk a = true) (hb : shrOk b = true) : pad20 (xsL a) = pad20 (xsL b) ↔ sameX a b = true := by
  have key : ∀ j, (pad20 (xsL a)).getD j 0 = xF a j := fun j => by rw [pad20_getD, xsL_getD]
  have key' : ∀ j, (pad20 (xsL b)).getD j 0 = xF b j := fun j => by rw [pad20_getD, xsL_getD]
  have za : ∀ j, a.length ≤ j → xF a j = 0 := fun j h => by simp [xF, List.getD, List.getElem?_eq_none h]
  have zb : ∀ j, b.length ≤ j → xF b j = 0 := fun j h => by simp [xF, List.getD, List.getElem?_eq_none h]
  simp only [sameX, decide_eq_true_eq]
  constructor
  · intro e
    have hx : ∀ j, xF a j = xF b j := fun j => by rw [← key, ← key', e]
    refine ⟨?_, fun j _ => hx j⟩
    rcases Nat.lt_trichotomy a.length b.length with h | h | h
    · exact absurd (by rw [← hx]; exact za _ (Nat.le_refl _)) (shr_pos hb a.length h)
    · exact h
    · exact absurd (by rw [hx]; exact zb _ (Nat.le_refl _)) (shr_pos ha b.length h)
  · rintro ⟨hl, hx⟩
    have : xsL a = xsL b := by
      apply List.ext_getElem (by simpa [xsL] using hl)
      intro i h1 h2
      have hi : i < a.length := by simpa [xsL] using h1
      have hi' : i < b.length := by omega
      have := hx i hi
      simp [xF, List.getD, hi, hi'] at this
      simpa [xsL] using this
    rw [this]
end G294

/- Chapter 8: what the functions answer: generators, remainders, syndromes, words. -/
namespace G294
def mulF (r : UInt8) (a : List UInt8) (i : Nat) (p : Nat) : UInt8 := (if p = 0 then 0 else if p - 1 < i then a.getD (p - 1) 0 else 0) ^^^ (if p < i then gmul (a.getD p 0) r else 0)
/-- a polynomial times x + r -/
def mulR (r : UInt8) (a : List UInt8) : List UInt8 := mkRow (a.length + 1) (mulF r a a.length)
@[simp] theorem mulR_length (r : UInt8) (a : List UInt8) : (mulR r a).length = a.length + 1 := by simp [mulR]
theorem mulF_zero (r : UInt8) (a : List UInt8) (p : Nat) : mulF r a 0 p = 0 := by
  unfold mulF; simp
theorem mulF_step (r : UInt8) (a : List UInt8) (i : Nat) (p : Nat) :
    (if p = i + 1 then mulF r a i (i + 1) ^^^ gmul (a.getD i 0) 1 else if p = i then mulF r a i i ^^^ gmul (a.getD i 0) r else mulF r a i p) = mulF r a (i + 1) p := by
  unfold mulF
  rw [gmul_one]
  by_cases h1 : p = i + 1
  · subst h1; simp [show ¬ i + 1 < i by omega]
  · by_cases h2 : p = i
    · subst h2
      by_cases h3 : p = 0
      · subst h3; simp
      · simp [h3, show p - 1 < p by omega, show p - 1 < p + 1 by omega]
    · rw [if_neg h1, if_neg h2]
      by_cases h3 : p = 0
      · subst h3; simp [show 0 < i by omega]
      · by_cases h4 : p < i
        · simp [h3, h4, show p - 1 < i by omega, show p - 1 < i + 1 by omega, show p < i + 1 by omega]
        · simp [h3, h4, show ¬ p - 1 < i by omega, show ¬ p - 1 < i + 1 by omega, show ¬ p < i + 1 by omega]
theorem mulF_end (r : UInt8) (a : List UInt8) (p : Nat) : mulF r a a.length p = (if p = 0 then 0 else a.getD (p - 1) 0) ^^^ gmul (a.getD p 0) r := by
  unfold mulF
  have e1 : (if p - 1 < a.length then a.getD (p - 1) 0 else 0) = a.getD (p - 1) 0 := by
    split
    · rfl
    · rename_i h; simp [List.getD, List.getElem?_eq_none (Nat.not_lt.1 h)]
  have e2 : (if p < a.length then gmul (a.getD p 0) r else 0) = gmul (a.getD p 0) r := by
    split
    · rfl
    · rename_i h; simp [List.getD, List.getElem?_eq_none (Nat.not_lt.1 h), zero_gmul]
  rw [e1, e2]
theorem mulR_getD (r : UInt8) (a : List UInt8) (p : Nat) (hp : p < a.length + 1) : (mulR r a).getD p 0 = (if p = 0 then 0 else a.getD (p - 1) 0) ^^^ gmul (a.getD p 0) r := by
  unfold mulR; rw [mkRow_getD _ _ _ hp, mulF_end]
/-- the generator: a factor for each of the first n powers of 3 -/
def genL : Nat → List UInt8
  | 0 => [1]
  | n + 1 => mulR (powB 3 (n + 1)) (genL n)
@[simp] theorem genL_length : ∀ n, (genL n).length = n + 1
  | 0 => rfl
  | n + 1 => by rw [genL, mulR_length, genL_length n]
theorem ext_getD {l m : List UInt8} (hl : l.length = m.length) (h : ∀ j, j < l.length → l.getD j 0 = m.getD j 0) : l = m := by
  refine List.ext_getElem hl fun j h1 h2 => ?_
  have := h j h1
  simpa [List.getD, h1, h2] using this
theorem wr_pad (r : UInt8) (a : List UInt8) (h : a.length ≤ 19) : wrC r (pad20 a) = pad20 (mulR r a) := by
  have hp : (pad20 a).length = 20 := pad20_length (by omega)
  have hw : (0 :: (pad20 a).take 19).length = (pad20 a).length := by simp [hp]
  have hwl : (wrC r (pad20 a)).length = 20 := by
    unfold wrC; rw [addL_lenS _ _ (by rw [scaleL_lenS]; exact hw), hw, hp]
  refine ext_getD (by rw [hwl, pad20_length (by simp; omega)]) fun j hj => ?_
  rw [hwl] at hj
  rw [pad20_getD]
  unfold wrC
  rw [addL_getD _ _ (by rw [scaleL_lenS]; exact hw), getD_scale, pad20_getD, gmul_comm r]
  have e1 : (0 :: (pad20 a).take 19).getD j 0 = if j = 0 then 0 else a.getD (j - 1) 0 := by
    cases j with
    | zero => rfl
    | succ j =>
      rw [if_neg (by omega), Nat.add_sub_cancel, ← pad20_getD a j]
      simp [List.getD, List.getElem?_take, show j < 19 by omega]
  rw [e1]
  rcases Nat.lt_or_ge j (a.length + 1) with h1 | h1
  · rw [mulR_getD r a j h1]
  · have e2 : (mulR r a).getD j 0 = 0 := by simp [List.getD, List.getElem?_eq_none (show (mulR r a).length ≤ j by simpa using h1)]
    have e3 : ∀ q, a.length ≤ q → a.getD q 0 = 0 := fun q hq => by simp [List.getD, List.getElem?_eq_none hq]
    rw [e2, e3 j (by omega), if_neg (by omega), e3 (j - 1) (by omega), zero_gmul]; rfl
theorem pad_take (a : List UInt8) : (pad20 a).take a.length = a := by simp [pad20]
/-- t wrong bytes -/
def errT (t : Int) : Bool := decide (1 ≤ t ∧ t ≤ 4)
def genR (t : Int) : List UInt8 := if errT t = true then genL (2 * t.toNat) else []
theorem genR_len (t : Int) : (genR t).length ≤ 9 := by
  unfold genR; split
  · rename_i h
    simp only [errT, decide_eq_true_eq] at h
    simp; omega
  · simp
def rootsL (n : Nat) : List UInt8 := mkRow n fun i => powB 3 (i + 1)
def synL (w : List UInt8) (n : Nat) : List UInt8 := mkRow n fun i => hor (powB 3 (i + 1)) w
def fitW (w : List UInt8) (t : Int) : Bool := errT t && decide (2 * t + 1 ≤ w.length ∧ w.length ≤ 24)
def synR (w : List UInt8) (t : Int) : List UInt8 := if fitW w t = true then synL w (2 * t.toNat) else []
theorem synR_yes {w : List UInt8} {t : Int} (h : fitW w t = true) : synR w t = synL w (2 * t.toNat) := if_pos h
theorem synR_no {w : List UInt8} {t : Int} (h : fitW w t = false) : synR w t = [] := if_neg (by rw [h]; simp)
theorem synR_len (w : List UInt8) (t : Int) : (synR w t).length ≤ 8 := by
  unfold synR; split
  · rename_i h
    simp only [fitW, errT, Bool.and_eq_true, decide_eq_true_eq] at h
    simp [synL]; omega
  · simp
def zeroL (l : List UInt8) : Bool := decide (∀ i, i < l.length → l.getD i 0 = 0)
def isWR (w : List UInt8) (t : Int) : Bool := fitW w t && zeroL (synL w (2 * t.toNat))
def dataR (w : List UInt8) (t : Int) : List UInt8 := if isWR w t = true then w.drop (2 * t.toNat) else []
theorem dataR_len (w : List UInt8) (t : Int) : (dataR w t).length ≤ 24 := by
  unfold dataR; split
  · rename_i h
    simp only [isWR, fitW, Bool.and_eq_true, decide_eq_true_eq] at h
    simp; omega
  · simp
def distN (a b : List UInt8) : Nat → Nat
  | 0 => 0
  | k + 1 => if a.getD k 0 = b.getD k 0 then distN a b k else distN a b k + 1
theorem distN_le (a b : List UInt8) : ∀ k, distN a b k ≤ k
  | 0 => Nat.le_refl _
  | k + 1 => by unfold distN; have := distN_le a b k; split <;> omega
def distOk (a b : List UInt8) : Bool := decide (a.length = b.length ∧ a.length ≤ 24)
def distR (a b : List UInt8) : Int := if distOk a b = true then (distN a b a.length : Int) else 0
/-- one step of a division: f times the divisor g, added from a on; the first j elements of it -/
def remI (g : List UInt8) (a : Nat) (f : UInt8) (F : Nat → UInt8) (j : Nat) (p : Nat) : UInt8 := if a ≤ p ∧ p < a + j then F p ^^^ gmul f (g.getD (p - a) 0) else F p
theorem remI_zero (g : List UInt8) (a : Nat) (f : UInt8) (F : Nat → UInt8) (p : Nat) : remI g a f F 0 p = F p := by
  unfold remI; rw [if_neg (by omega)]
theorem remI_at (g : List UInt8) (a : Nat) (f : UInt8) (F : Nat → UInt8) (j : Nat) : remI g a f F j (a + j) = F (a + j) := by
  unfold remI; rw [if_neg (by omega)]
theorem remI_step (g : List UInt8) (a : Nat) (f : UInt8) (F : Nat → UInt8) (j p : Nat) : (if p = a + j then F (a + j) ^^^ gmul f (g.getD j 0) else remI g a f F j p) = remI g a f F (j + 1) p := by
  unfold remI
  by_cases h : p = a + j
  · subst h; rw [if_pos rfl, if_pos (by omega)]; simp
  · rw [if_neg h]
    by_cases h2 : a ≤ p ∧ p < a + j
    · rw [if_pos h2, if_pos (by omega)]
    · rw [if_neg h2, if_neg (by omega)]
/-- n elements F0, behind m steps of the division by g -/
def remF (g : List UInt8) (n : Nat) (F0 : Nat → UInt8) : Nat → Nat → UInt8
  | 0 => F0
  | m + 1 => remI g (n - m - g.length) (remF g n F0 m (n - 1 - m)) (remF g n F0 m) g.length
/-- what is left of l by g -/
def leftL (l g : List UInt8) : List UInt8 := mkRow (g.length - 1) (remF g l.length (fun i => l.getD i 0) (l.length + 1 - g.length))
@[simp] theorem leftL_length (l g : List UInt8) : (leftL l g).length = g.length - 1 := by simp [leftL]
def zerosN (n : Nat) : List UInt8 := List.replicate n 0
def encOk8 (d : List UInt8) (t : Int) : Bool := errT t && decide (1 ≤ d.length ∧ d.length + 2 * t ≤ 24)
def encL8 (d : List UInt8) (n : Nat) : List UInt8 := leftL (zerosN n ++ d) (genL n) ++ d
def encR8 (d : List UInt8) (t : Int) : List UInt8 := if encOk8 d t = true then encL8 d (2 * t.toNat) else []
theorem encR8_len (d : List UInt8) (t : Int) : (encR8 d t).length ≤ 24 := by
  unfold encR8; split
  · rename_i h
    simp only [encOk8, errT, Bool.and_eq_true, decide_eq_true_eq] at h
    simp [encL8]; omega
  · simp
end G294

/- Contracts of chapter 1's functions, the program's and the model's: what each call returns; the world is left as it was. -/
namespace Go.Proofs.YtfglkgeeelapgaaGreatDoor
open Go.RowKit

/-- the table of remainders, as the program's text lays it -/
def Tab (w : World) : Prop := ∀ k, k < 7 → w.cell? ⟨3, k, none⟩ = some (.int .u8 (G294.tabN k : Nat))
theorem Tab.below {w w' : World} (h : Tab w) (hb : Below w.heap.size w w') (h0 : 3 < w.heap.size) : Tab w' := fun k hk => (hb.cell (p := ⟨3, k, none⟩) h0).trans (h k hk)
theorem ret_int {k : IntKind} {a b : Int} (h : a = b) : Ending.returned (.int k a) = .returned (.int k b) := by rw [h]

theorem and1_u8 (b : Nat) (hb : b < 256) (k : Nat) : bits BinOp.and IntKind.u8 ((b : Int) / 2 ^ k) 1 = ((G294.bit b k : Nat) : Int) := by
  have h1 : ((b : Int) / 2 ^ k) = ((b / 2 ^ k : Nat) : Int) := by simp
  have h2 : b / 2 ^ k < 256 := Nat.lt_of_le_of_lt (Nat.div_le_self _ _) hb
  rw [h1]
  have := u8_and_nat (b / 2 ^ k) 1 h2 (by omega)
  rw [show ((1 : Nat) : Int) = 1 from rfl] at this
  rw [this]; simp [G294.bit, Nat.and_one_is_mod]
theorem and1_u16 (b : Nat) (hb : b < 65536) (k : Nat) : bits BinOp.and IntKind.u16 ((b : Int) / 2 ^ k) 1 = ((G294.bit b k : Nat) : Int) := by
  have h1 : ((b : Int) / 2 ^ k) = ((b / 2 ^ k : Nat) : Int) := by simp
  have h2 : b / 2 ^ k < 65536 := Nat.lt_of_le_of_lt (Nat.div_le_self _ _) hb
  rw [h1]
  have := u16_and_nat (b / 2 ^ k) 1 h2 (by omega)
  rw [show ((1 : Nat) : Int) = 1 from rfl] at this
  rw [this]; simp [G294.bit, Nat.and_one_is_mod]
theorem test_bit {b k : Nat} {x : Bool} (e : (((G294.bit b k : Nat) : Int) == 1) = x) : (x = true ∧ G294.bit b k = 1) ∨ (x = false ∧ ¬ G294.bit b k = 1) := by
  cases x
  · right; exact ⟨rfl, by intro h; simp [h] at e⟩
  · left; refine ⟨rfl, ?_⟩; have := beq_iff_eq.1 e; omega

theorem pp_yes {a b k : Nat} (ha : a < 256) (hb : b < 256) (hk : k < 8) (h : (bits BinOp.and IntKind.u8 ((b : Int) / 2 ^ k) 1 == 1) = true) :
    bits BinOp.xor IntKind.u16 ((G294.pp a b k : Nat) : Int) (IntKind.u16.wrap ((a : Int) * 2 ^ k)) = ((G294.pp a b (k + 1) : Nat) : Int) := by
  rw [and1_u8 b hb] at h
  have hbit : G294.bit b k = 1 := by have := beq_iff_eq.1 h; omega
  have h1 : ((a : Int) * 2 ^ k) = ((a * 2 ^ k : Nat) : Int) := by simp
  have h2 := G294.shl_lt ha hk
  rw [h1, IntKind.wrap_u16]
  have h3 : ((a * 2 ^ k : Nat) : Int) % 65536 = ((a * 2 ^ k : Nat) : Int) := by omega
  rw [h3, u16_xor_nat _ _ (G294.pp_lt ha b k (by omega)) h2]
  simp [G294.pp, hbit]
theorem pp_no {a b k : Nat} (hb : b < 256) (h : (bits BinOp.and IntKind.u8 ((b : Int) / 2 ^ k) 1 == 1) = false) :
    ((G294.pp a b k : Nat) : Int) = ((G294.pp a b (k + 1) : Nat) : Int) := by
  rw [and1_u8 b hb] at h
  have hbit : ¬ G294.bit b k = 1 := by intro e; simp [e] at h
  simp [G294.pp, hbit]

set_option maxHeartbeats 400000 in
theorem pp_any (a b : Nat) (ha : a < 256) (hb : b < 256) (w : World) :
    Calls Tryz.prog 94 #[.int .u8 a, .int .u8 b] w fun e w' => e = .returned (.int .u16 (G294.pp a b 8 : Nat)) ∧ w = w' := by
  go_enter Tryz.func94, Tryz.ntmps94
  go_wp2
  go_loop [5, 7] (fun p i => ∃ k : Nat, k ≤ 8 ∧ i = .int .i64 k ∧ p = .int .u16 (G294.pp a b k : Nat)) (fun _ i => 8 - (intOf i).toNat)
  case atStart => exact ⟨0, by omega, rfl, rfl⟩
  case round =>
    obtain ⟨k, hk, rfl, rfl⟩ := hrel
    by_cases hlt : k < 8
    · go_wp2
      · have hy := pp_yes ha hb hlt ‹_›
        go_round
        case rel => exact ⟨k + 1, by omega, by go_num, by rw [hy]⟩
        case measure => simp [intOf]; omega
      · have hy := pp_no (a := a) hb ‹_›
        go_round
        case rel => exact ⟨k + 1, by omega, by go_num, by rw [hy]⟩
        case measure => simp [intOf]; omega
    · obtain rfl : k = 8 := by omega
      go_wp2
      go_ret
      exact ⟨rfl, rfl⟩

theorem rd_yes {p k : Nat} (hp : p < 65536) (hk : k < 7) (h : (bits BinOp.and IntKind.u16 ((p : Int) / 2 ^ (8 + k)) 1 == 1) = true) :
    bits BinOp.xor IntKind.u8 ((G294.rd p k : Nat) : Int) ((G294.tabN k : Nat) : Int) = ((G294.rd p (k + 1) : Nat) : Int) := by
  rw [and1_u16 p hp] at h
  have hbit : G294.bit p (8 + k) = 1 := by have := beq_iff_eq.1 h; omega
  rw [u8_xor_nat _ _ (G294.rd_lt p k) (G294.tabN_lt k)]
  simp [G294.rd, hbit]
theorem rd_no {p k : Nat} (hp : p < 65536) (h : (bits BinOp.and IntKind.u16 ((p : Int) / 2 ^ (8 + k)) 1 == 1) = false) :
    ((G294.rd p k : Nat) : Int) = ((G294.rd p (k + 1) : Nat) : Int) := by
  rw [and1_u16 p hp] at h
  have hbit : ¬ G294.bit p (8 + k) = 1 := by intro e; simp [e] at h
  simp [G294.rd, hbit]

set_option maxHeartbeats 400000 in
theorem rd_any (p : Nat) (hp : p < 65536) (w : World) (ht : Tab w) :
    Calls Tryz.prog 93 #[.int .u16 p] w fun e w' => e = .returned (.int .u8 (G294.rd p 7 : Nat)) ∧ w = w' := by
  go_enter Tryz.func93, Tryz.ntmps93
  go_wp2
  go_loop [3, 7] (fun r i => ∃ k : Nat, k ≤ 7 ∧ i = .int .i64 k ∧ r = .int .u8 (G294.rd p k : Nat)) (fun _ i => 7 - (intOf i).toNat)
  case atStart => exact ⟨0, by omega, rfl, by simp [G294.rd]⟩
  case round =>
    obtain ⟨k, hk, rfl, rfl⟩ := hrel
    by_cases hlt : k < 7
    · have hc := ht k hlt
      go_wp2
      · have hy := rd_yes hp hlt ‹_›
        go_round
        case rel => exact ⟨k + 1, by omega, by go_num, by rw [hy]⟩
        case measure => simp [intOf]; omega
      · have hy := rd_no hp ‹_›
        go_round
        case rel => exact ⟨k + 1, by omega, by go_num, by rw [hy]⟩
        case measure => simp [intOf]; omega
    · obtain rfl : k = 7 := by omega
      go_wp2
      go_ret
      exact ⟨rfl, rfl⟩

set_option maxHeartbeats 400000 in
theorem times_any (a b : Nat) (ha : a < 256) (hb : b < 256) (w : World) (ht : Tab w) :
    Calls Tryz.prog 64 #[.int .u8 a, .int .u8 b] w fun e w' => e = .returned (.int .u8 (G294.gm a b : Nat)) ∧ w = w' := by
  have hr := G294.rd_pp8 ha b
  have HR := Lib.hid hr
  clear hr
  go_enter Tryz.func64, Tryz.ntmps64
  go_wp2_with fail
  refine (pp_any a b ha hb _).mono ?_
  rintro e w' ⟨rfl, rfl⟩
  go_wp2_with fail
  refine (rd_any _ (G294.pp_lt ha b 8 (by omega)) _ ht).mono ?_
  rintro e w' ⟨rfl, rfl⟩
  go_wp2_with fail
  go_ret
  exact ⟨ret_int (by rw [HR.out]), rfl⟩

theorem bit_i64 {n : Nat} (hn : n < 9223372036854775808) : bits BinOp.and IntKind.i64 (n : Int) 1 = ((n % 2 : Nat) : Int) := by
  have ho : ∀ a : Nat, a < 9223372036854775808 → (BitVec.ofInt 64 (a : Int)).toNat = a := fun a ha => by
    rw [BitVec.ofInt_natCast, BitVec.toNat_ofNat]; exact Nat.mod_eq_of_lt (by omega)
  show IntKind.i64.wrap ((BitVec.ofInt 64 (n : Int) &&& BitVec.ofInt 64 ((1 : Nat) : Int)).toNat : Int) = _
  rw [BitVec.toNat_and, ho n hn, ho 1 (by omega), IntKind.wrap_i64, Nat.and_one_is_mod]
  omega

set_option maxHeartbeats 1000000 in
theorem powerOf_any (a n : Nat) (ha : a < 256) (hn : n ≤ 10000) (w : World) (ht : Tab w) :
    Calls Tryz.prog 72 #[.int .u8 a, .int .i64 n] w fun e w' => e = .returned (.int .u8 (G294.gp a n : Nat)) ∧ w = w' := by
  go_enter Tryz.func72, Tryz.ntmps72
  go_wp2
  go_loop [0, 1, 5] (fun x y p => ∃ b m q : Nat, b < 256 ∧ m ≤ 10000 ∧ q < 256 ∧ x = .int .u8 b ∧ y = .int .i64 m ∧ p = .int .u8 q ∧ Hid (G294.gm q (G294.gp b m) = G294.gp a n)) (fun _ y _ => (intOf y).toNat)
  case atStart => exact ⟨a, n, 1, ha, hn, by omega, rfl, rfl, rfl, by rw [G294.gm_one_left (G294.gp_lt ha n)]; rfl⟩
  case round =>
    obtain ⟨b, m, q, hb, hm, hq, rfl, rfl, rfl, HE⟩ := hrel
    by_cases hlt : 0 < m
    · have HS := Lib.hid (G294.gp_step (a := b) (n := m) (p := q) hb hq hlt)
      by_cases hodd : m % 2 = 1
      · have hbit : (bits BinOp.and IntKind.i64 (m : Int) 1 == 1) = true := by rw [bit_i64 (by omega), hodd]; rfl
        have HO := Lib.hid hodd
        clear hodd
        go_wp2_with fail
        refine (times_any q b hq hb _ ht).mono ?_
        rintro e w' ⟨rfl, rfl⟩
        go_wp2_with fail
        refine (times_any b b hb hb _ ht).mono ?_
        rintro e w' ⟨rfl, rfl⟩
        go_wp2_with fail
        go_round
        case rel => exact ⟨G294.gm b b, m / 2, G294.gm q b, G294.gm_lt hb b, by omega, G294.gm_lt hq b, rfl, by go_num, rfl, by have h := HS.out; rw [HE.out, if_pos HO.out] at h; exact h.symm⟩
        case measure => simp [intOf]; omega
      · have hbit : (bits BinOp.and IntKind.i64 (m : Int) 1 == 1) = false := by
          have : m % 2 = 0 := by omega
          rw [bit_i64 (by omega), this]; rfl
        have HO := Lib.hid hodd
        clear hodd
        go_wp2_with fail
        refine (times_any b b hb hb _ ht).mono ?_
        rintro e w' ⟨rfl, rfl⟩
        go_wp2_with fail
        go_round
        case rel => exact ⟨G294.gm b b, m / 2, q, G294.gm_lt hb b, by omega, hq, rfl, by go_num, rfl, by have h := HS.out; rw [HE.out, if_neg HO.out] at h; exact h.symm⟩
        case measure => simp [intOf]; omega
    · obtain rfl : m = 0 := by omega
      go_wp2_with fail
      go_ret
      exact ⟨ret_int (by have h := HE.out; simp only [G294.gp, G294.gm_one_right] at h; rw [h]), rfl⟩

set_option maxHeartbeats 400000 in
theorem inverse_any (a : Nat) (ha : a < 256) (w : World) (ht : Tab w) :
    Calls Tryz.prog 77 #[.int .u8 a] w fun e w' => e = .returned (.int .u8 (G294.gi a : Nat)) ∧ w = w' := by
  go_enter Tryz.func77, Tryz.ntmps77
  go_wp2_with fail
  refine (powerOf_any a 254 ha (by omega) _ ht).mono ?_
  rintro e w' ⟨rfl, rfl⟩
  go_wp2_with fail
  go_ret
  exact ⟨rfl, rfl⟩
end Go.Proofs.YtfglkgeeelapgaaGreatDoor

/- Contracts of chapter 1: LogOf, and the model's functions. -/
namespace Go.Proofs.YtfglkgeeelapgaaGreatDoor
open Go.RowKit

/-- what LogOf returns -/
def logV (a : Nat) : Value := if a = 0 then .tuple #[.int .i64 0, .bool false] else .tuple #[.int .i64 (G294.gl a : Nat), .bool true]

theorem xor_i64 {a b : Nat} (ha : a < 9223372036854775808) (hb : b < 9223372036854775808) : bits BinOp.xor IntKind.i64 (a : Int) (b : Int) = ((a ^^^ b : Nat) : Int) := by
  have ho : ∀ a : Nat, a < 9223372036854775808 → (BitVec.ofInt 64 (a : Int)).toNat = a := fun a ha => by
    rw [BitVec.ofInt_natCast, BitVec.toNat_ofNat]; exact Nat.mod_eq_of_lt (by omega)
  have hx : a ^^^ b < 2 ^ 63 := Nat.xor_lt_two_pow (by omega) (by omega)
  show IntKind.i64.wrap ((BitVec.ofInt 64 (a : Int) ^^^ BitVec.ofInt 64 (b : Int)).toNat : Int) = _
  rw [BitVec.toNat_xor, ho a ha, ho b hb, IntKind.wrap_i64]
  omega

set_option maxHeartbeats 1000000 in
theorem l1Times_any (a b : Nat) (ha : a < 256) (hb : b < 256) (w : World) :
    Calls Tryz.prog 66 #[.int .u8 a, .int .u8 b] w fun e w' => e = .returned (.int .u8 (G294.gm a b : Nat)) ∧ w = w' := by
  go_enter Tryz.func66, Tryz.ntmps66
  go_wp2
  go_loop [5, 6, 7] (fun o x y => ∃ k q p m : Nat, k ≤ 8 ∧ q < 256 ∧ p < 256 ∧ m < 256 ∧ o = .int .i64 q ∧ x = .int .i64 p ∧ y = .int .i64 m ∧ Hid (q = G294.st a b k) ∧ Hid (p = G294.xts k a) ∧ Hid (m = b / 2 ^ k)) (fun _ _ y => (intOf y).toNat)
  case atStart => exact ⟨0, 0, a, b, by omega, by omega, ha, hb, rfl, by simp, by simp, rfl, rfl, by show b = b / 2 ^ 0; omega⟩
  case round =>
    obtain ⟨k, q, p, m, hk, hq, hp, hm, rfl, rfl, rfl, HQ, HP, HM⟩ := hrel
    by_cases hlt : 0 < m
    · have hk8 : k < 8 := G294.k_lt_8 hb (by rw [← HM.out]; exact hlt)
      have HX := Lib.hid (xor_i64 (a := q) (b := p) (by omega) (by omega))
      have HXs := Lib.hid (G294.xs_xt p hp)
      have HX2 := Lib.hid (xor_i64 (a := p * 2) (b := 283) (by omega) (by omega))
      have hqp : q ^^^ p < 256 := G294.xor_lt hq hp
      have HM2 : Hid (m / 2 = b / 2 ^ (k + 1)) := by show m / 2 = _; rw [HM.out, G294.div_step]
      have HB : Hid (G294.bit b k = m % 2) := by show G294.bit b k = _; rw [HM.out]; rfl
      by_cases hodd : m % 2 = 1
      · have hbit : (bits BinOp.and IntKind.i64 (m : Int) 1 == 1) = true := by rw [bit_i64 (by omega), hodd]; rfl
        have HQ2 : Hid (q ^^^ p = G294.st a b (k + 1)) := by
          show q ^^^ p = _
          rw [G294.st, if_pos (by rw [HB.out]; exact hodd), ← HQ.out, ← HP.out]
        clear hodd
        by_cases hov : 255 < p * 2
        · have HPn : Hid (bits BinOp.xor IntKind.i64 ((p : Int) * 2) 283 = ((G294.xt p : Nat) : Int)) := by
            show bits BinOp.xor IntKind.i64 ((p : Int) * 2) 283 = _
            have h := HX2.out
            rw [← HXs.out, G294.xs, if_pos hov, ← h]; rfl
          go_wp2_with fail
          go_round
          case rel => exact ⟨k + 1, q ^^^ p, G294.xt p, m / 2, by omega, hqp, G294.xt_lt p, by omega, by rw [HX.out], by rw [HPn.out], by go_num, HQ2, by show G294.xt p = _; rw [HP.out]; rfl, HM2⟩
          case measure => simp [intOf]; omega
        · have HPn : Hid ((p : Int) * 2 = ((G294.xt p : Nat) : Int)) := by
            show (p : Int) * 2 = _
            rw [← HXs.out, G294.xs, if_neg hov]; simp
          go_wp2_with fail
          go_round
          case rel => exact ⟨k + 1, q ^^^ p, G294.xt p, m / 2, by omega, hqp, G294.xt_lt p, by omega, by rw [HX.out], by rw [HPn.out], by go_num, HQ2, by show G294.xt p = _; rw [HP.out]; rfl, HM2⟩
          case measure => simp [intOf]; omega
      · have hbit : (bits BinOp.and IntKind.i64 (m : Int) 1 == 1) = false := by
          have : m % 2 = 0 := by omega
          rw [bit_i64 (by omega), this]; rfl
        have HQ2 : Hid (q = G294.st a b (k + 1)) := by
          show q = _
          rw [G294.st, if_neg (by rw [HB.out]; exact hodd), ← HQ.out]
        clear hodd
        by_cases hov : 255 < p * 2
        · have HPn : Hid (bits BinOp.xor IntKind.i64 ((p : Int) * 2) 283 = ((G294.xt p : Nat) : Int)) := by
            show bits BinOp.xor IntKind.i64 ((p : Int) * 2) 283 = _
            have h := HX2.out
            rw [← HXs.out, G294.xs, if_pos hov, ← h]; rfl
          go_wp2_with fail
          go_round
          case rel => exact ⟨k + 1, q, G294.xt p, m / 2, by omega, hq, G294.xt_lt p, by omega, rfl, by rw [HPn.out], by go_num, HQ2, by show G294.xt p = _; rw [HP.out]; rfl, HM2⟩
          case measure => simp [intOf]; omega
        · have HPn : Hid ((p : Int) * 2 = ((G294.xt p : Nat) : Int)) := by
            show (p : Int) * 2 = _
            rw [← HXs.out, G294.xs, if_neg hov]; simp
          go_wp2_with fail
          go_round
          case rel => exact ⟨k + 1, q, G294.xt p, m / 2, by omega, hq, G294.xt_lt p, by omega, rfl, by rw [HPn.out], by go_num, HQ2, by show G294.xt p = _; rw [HP.out]; rfl, HM2⟩
          case measure => simp [intOf]; omega
    · obtain rfl : m = 0 := by omega
      go_wp2_with fail
      go_ret
      exact ⟨ret_int (by rw [HQ.out, G294.st_end a b k hk HM.out.symm]), rfl⟩

set_option maxHeartbeats 400000 in
theorem l1Power_any (a n : Nat) (ha : a < 256) (hn : n ≤ 10000) (w : World) :
    Calls Tryz.prog 52 #[.int .u8 a, .int .i64 n] w fun e w' => e = .returned (.int .u8 (G294.gp a n : Nat)) ∧ w = w' := by
  go_enter Tryz.func52, Tryz.ntmps52
  go_wp2
  go_loop [1, 5] (fun y p => ∃ m q : Nat, m ≤ n ∧ q < 256 ∧ y = .int .i64 m ∧ p = .int .u8 q ∧ Hid (q = G294.gp a (n - m))) (fun y _ => (intOf y).toNat)
  case atStart => exact ⟨n, 1, by omega, by omega, rfl, rfl, by show 1 = _; rw [Nat.sub_self]; rfl⟩
  case round =>
    obtain ⟨m, q, hm, hq, rfl, rfl, HQ⟩ := hrel
    by_cases hlt : 0 < m
    · have HQ2 : Hid (G294.gm q a = G294.gp a (n - (m - 1))) := by
        show G294.gm q a = _
        rw [HQ.out, show n - (m - 1) = (n - m) + 1 by omega]; rfl
      go_wp2_with fail
      refine (l1Times_any q a hq ha _).mono ?_
      rintro e w' ⟨rfl, rfl⟩
      go_wp2_with fail
      go_round
      case rel => exact ⟨m - 1, G294.gm q a, by omega, G294.gm_lt hq a, by go_num, rfl, HQ2⟩
      case measure => simp [intOf]; omega
    · obtain rfl : m = 0 := by omega
      go_wp2_with fail
      go_ret
      exact ⟨ret_int (by rw [HQ.out]; rfl), rfl⟩

set_option maxHeartbeats 400000 in
theorem l1Inverse_any (a : Nat) (ha : a < 256) (w : World) :
    Calls Tryz.prog 51 #[.int .u8 a] w fun e w' => e = .returned (.int .u8 (G294.gi a : Nat)) ∧ w = w' := by
  by_cases h0 : a = 0
  · subst h0
    have HZ := Lib.hid G294.gi_zero
    go_enter Tryz.func51, Tryz.ntmps51
    go_wp2_with fail
    go_ret
    exact ⟨ret_int (by rw [HZ.out]; rfl), rfl⟩
  · have hb : ((a : Int) == 0) = false := by simp; omega
    clear h0
    go_enter Tryz.func51, Tryz.ntmps51
    go_wp2_with fail
    refine (l1Power_any a 254 ha (by omega) _).mono ?_
    rintro e w' ⟨rfl, rfl⟩
    go_wp2_with fail
    go_ret
    exact ⟨rfl, rfl⟩

/-- l1In -/
def inB (n lo hi : Int) : Bool := decide (lo ≤ n ∧ n ≤ hi)
set_option maxHeartbeats 400000 in
theorem l1In_any (n lo hi : Int) (w : World) :
    Calls Tryz.prog 65 #[.int .i64 n, .int .i64 lo, .int .i64 hi] w fun e w' => e = .returned (.bool (inB n lo hi)) ∧ w = w' := by
  by_cases h1 : lo ≤ n
  · have hd : decide (lo ≤ n) = true := by simpa using h1
    by_cases h2 : n ≤ hi
    · have HV : Hid (inB n lo hi = true) := by show inB n lo hi = true; simp [inB, h1, h2]
      go_enter Tryz.func65, Tryz.ntmps65
      go_wp2_with fail
      go_ret
      exact ⟨by rw [HV.out]; simp [h2], rfl⟩
    · have HV : Hid (inB n lo hi = false) := by show inB n lo hi = false; simp [inB, h2]
      go_enter Tryz.func65, Tryz.ntmps65
      go_wp2_with fail
      go_ret
      exact ⟨by rw [HV.out]; simp [h2], rfl⟩
  · have hd : decide (lo ≤ n) = false := by simpa using h1
    have HV : Hid (inB n lo hi = false) := by show inB n lo hi = false; simp [inB, h1]
    go_enter Tryz.func65, Tryz.ntmps65
    go_wp2_with fail
    go_ret
    exact ⟨by rw [HV.out]; rfl, rfl⟩
end Go.Proofs.YtfglkgeeelapgaaGreatDoor

/- The contracts of the products, on bytes. -/
namespace Go.Proofs.YtfglkgeeelapgaaGreatDoor
open Go.RowKit G294

theorem times_u8 (a b : UInt8) (w : World) (ht : Tab w) :
    Calls Tryz.prog 64 #[.int .u8 (a.toNat : Int), .int .u8 (b.toNat : Int)] w fun e w' => e = .returned (.int .u8 ((gmul a b).toNat : Int)) ∧ w = w' := by
  rw [gmul_toNat]; exact times_any _ _ a.toNat_lt b.toNat_lt w ht

theorem l1Times_u8 (a b : UInt8) (w : World) :
    Calls Tryz.prog 66 #[.int .u8 (a.toNat : Int), .int .u8 (b.toNat : Int)] w fun e w' => e = .returned (.int .u8 ((gmul a b).toNat : Int)) ∧ w = w' := by
  rw [gmul_toNat]; exact l1Times_any _ _ a.toNat_lt b.toNat_lt w

end Go.Proofs.YtfglkgeeelapgaaGreatDoor
