/- Polynomials over GF(256): Horner, roots, Newton and Lagrange. -/
import Derived.Test.YtdbgkpmdimapdaaInvMath
import Derived.Test.YtdbgkpmdimapdaaRowMath
set_option linter.unusedSimpArgs false
set_option linter.unusedVariables false
namespace G294
abbrev Sr := UInt8 × UInt8
theorem xx_back (a b : UInt8) : a ^^^ (a ^^^ b) = b := by rw [← UInt8.xor_assoc, UInt8.xor_self, UInt8.zero_xor]
theorem x_mid (p q r d : UInt8) : p ^^^ q ^^^ d = p ^^^ (q ^^^ r) ^^^ (r ^^^ d) := by
  rw [UInt8.xor_assoc p (q ^^^ r), UInt8.xor_assoc q r, xx_back, UInt8.xor_assoc]
/-- the value of a polynomial -/
def hor (x : UInt8) : List UInt8 → UInt8
  | [] => 0
  | c :: l => gmul (hor x l) x ^^^ c
theorem hor_zeros (x : UInt8) (n : Nat) : hor x (List.replicate n 0) = 0 := by
  induction n with
  | zero => rfl
  | succ n ih => rw [List.replicate_succ, hor, ih, zero_gmul]; rfl
theorem hor_pad (x : UInt8) (n : Nat) (l : List UInt8) : hor x (l ++ List.replicate n 0) = hor x l := by
  induction l with
  | nil => exact hor_zeros x n
  | cons c l ih => rw [List.cons_append, hor, hor, ih]
theorem hor_at0 (c : UInt8) (l : List UInt8) : hor 0 (c :: l) = c := by rw [hor, gmul_zero, UInt8.zero_xor]
theorem hor_drop (x : UInt8) (l : List UInt8) (k : Nat) (h : k < l.length) : hor x (l.drop k) = gmul (hor x (l.drop (k + 1))) x ^^^ l[k] := by
  rw [List.drop_eq_getElem_cons h, hor]
/-- synthetic division -/
def syn (a : UInt8) : List UInt8 → List UInt8
  | [] => []
  | [_] => []
  | _ :: c :: l => hor a (c :: l) :: syn a (c :: l)
theorem syn_length (a : UInt8) : ∀ l : List UInt8, (syn a l).length = l.length - 1
  | [] => rfl
  | [_] => rfl
  | _ :: c :: l => by
    have := syn_length a (c :: l)
    simp only [syn, List.length_cons] at this ⊢
    omega
theorem syn_hor (a x : UInt8) : ∀ l : List UInt8, hor x l = gmul (hor x (syn a l)) (x ^^^ a) ^^^ hor a l
  | [] => by simp [hor, syn, zero_gmul]
  | [c] => by simp [hor, syn, zero_gmul]
  | d :: c :: l => by
    have ih := syn_hor a x (c :: l)
    have e1 : hor x (d :: c :: l) = gmul (hor x (c :: l)) x ^^^ d := rfl
    have e2 : hor a (d :: c :: l) = gmul (hor a (c :: l)) a ^^^ d := rfl
    have e3 : syn a (d :: c :: l) = hor a (c :: l) :: syn a (c :: l) := rfl
    have e4 : hor x (hor a (c :: l) :: syn a (c :: l)) = gmul (hor x (syn a (c :: l))) x ^^^ hor a (c :: l) := rfl
    rw [e1, e2, e3, e4, ih]
    generalize hor x (syn a (c :: l)) = A
    generalize hor a (c :: l) = B
    rw [xor_gmul, xor_gmul, gmul_xor B, gmul_assoc A, gmul_assoc A, gmul_comm x (x ^^^ a)]
    exact x_mid _ _ _ _
theorem syn_zero (a : UInt8) : ∀ l : List UInt8, (∀ c ∈ syn a l, c = 0) → hor a l = 0 → ∀ c ∈ l, c = 0
  | [], _, _ => by simp
  | [c], _, h => by
    have : hor a [c] = c := by simp [hor, zero_gmul]
    intro d hd
    simp only [List.mem_singleton] at hd
    rw [hd, ← this, h]
  | d :: c :: l, h, h0 => by
    have e3 : syn a (d :: c :: l) = hor a (c :: l) :: syn a (c :: l) := rfl
    rw [e3] at h
    have hB := h _ (List.mem_cons_self ..)
    have ih := syn_zero a (c :: l) (fun y hy => h y (List.mem_cons_of_mem _ hy)) hB
    have e2 : hor a (d :: c :: l) = gmul (hor a (c :: l)) a ^^^ d := rfl
    rw [e2, hB, zero_gmul, UInt8.zero_xor] at h0
    intro y hy
    rcases List.mem_cons.1 hy with rfl | hy
    · exact h0
    · exact ih y hy
/-- a polynomial with no more coefficients than roots is 0 -/
theorem hor_root : ∀ (xs l : List UInt8), l.length ≤ xs.length → xs.Nodup → (∀ x ∈ xs, hor x l = 0) → ∀ c ∈ l, c = 0
  | [], l, h, _, _ => by
    have : l = [] := List.eq_nil_of_length_eq_zero (by simpa using h)
    subst this
    simp
  | a :: xs, l, h, hn, hx => by
    have h0 := hx a (List.mem_cons_self ..)
    rw [List.nodup_cons] at hn
    refine syn_zero a l (hor_root xs (syn a l) (by rw [syn_length]; simp only [List.length_cons] at h; omega) hn.2 fun x hxm => ?_) h0
    have e := syn_hor a x l
    rw [hx x (List.mem_cons_of_mem _ hxm), h0, UInt8.xor_zero, gmul_comm] at e
    refine g_cancel (x_ne (fun e' => hn.1 ?_)) e.symm
    rw [← e']; exact hxm
theorem addL_lenS (l m : List UInt8) (h : l.length = m.length) : (addL l m).length = l.length := by simp [addL, h]
theorem scaleL_lenS (a : UInt8) (l : List UInt8) : (scaleL a l).length = l.length := by simp [scaleL]
theorem hor_addL (x : UInt8) : ∀ l m : List UInt8, l.length = m.length → hor x (addL l m) = hor x l ^^^ hor x m
  | [], [], _ => by simp [addL, hor]
  | [], _ :: _, h => by simp at h
  | _ :: _, [], h => by simp at h
  | c :: l, d :: m, h => by
    have ih := hor_addL x l m (by simpa using h)
    have e : addL (c :: l) (d :: m) = (c ^^^ d) :: addL l m := rfl
    rw [e, hor, hor, hor, ih, xor_gmul, x4]
theorem hor_scaleL (x a : UInt8) : ∀ l : List UInt8, hor x (scaleL a l) = gmul a (hor x l)
  | [] => by simp [scaleL, hor, gmul_zero]
  | c :: l => by
    have ih := hor_scaleL x a l
    have e : scaleL a (c :: l) = gmul a c :: scaleL a l := rfl
    rw [e, hor, hor, ih, gmul_xor, gmul_assoc]
theorem addL_getD (l m : List UInt8) (h : l.length = m.length) (j : Nat) : (addL l m).getD j 0 = l.getD j 0 ^^^ m.getD j 0 := by
  by_cases hj : j < l.length
  · simp [addL, List.getD, List.getElem?_zipWith, hj, h ▸ hj]
  · have h1 : l[j]? = none := List.getElem?_eq_none (by omega)
    have h2 : m[j]? = none := List.getElem?_eq_none (by omega)
    simp [addL, List.getD, List.getElem?_zipWith, h1, h2]
theorem hor_inj {l m xs : List UInt8} (h : l.length = m.length) (h2 : l.length ≤ xs.length) (hn : xs.Nodup) (hx : ∀ x ∈ xs, hor x l = hor x m) : l = m := by
  have hz := hor_root xs (addL l m) (by rw [addL_lenS _ _ h]; exact h2) hn (fun x hxm => by rw [hor_addL x l m h, hx x hxm, UInt8.xor_self])
  apply List.ext_getElem h
  intro i h1 h3
  have := addL_getD l m h i
  rw [show (addL l m).getD i 0 = 0 from ?_] at this
  · simp only [List.getD, List.getElem?_eq_getElem h1, List.getElem?_eq_getElem h3, Option.getD_some] at this
    exact x_eq this.symm
  · have hl : i < (addL l m).length := by rw [addL_lenS _ _ h]; exact h1
    simp only [List.getD, List.getElem?_eq_getElem hl, Option.getD_some]
    exact hz _ (List.getElem_mem hl)
/-- the values of a polynomial with n coefficients -/
def polyF (n : Nat) (f : UInt8 → UInt8) : Prop := ∃ l : List UInt8, l.length = n ∧ ∀ x, f x = hor x l
theorem polyF.const (c : UInt8) : polyF 1 (fun _ => c) := ⟨[c], rfl, fun x => by simp [hor, zero_gmul]⟩
theorem polyF.xor {n : Nat} {f g : UInt8 → UInt8} (h : polyF n f) (k : polyF n g) : polyF n (fun x => f x ^^^ g x) := by
  obtain ⟨l, hl, hf⟩ := h
  obtain ⟨m, hm, hg⟩ := k
  exact ⟨addL l m, by rw [addL_lenS _ _ (by omega), hl], fun x => by rw [hor_addL x l m (by omega), ← hf, ← hg]⟩
theorem polyF.mulc {n : Nat} {f : UInt8 → UInt8} (a : UInt8) (h : polyF n f) : polyF n (fun x => gmul a (f x)) := by
  obtain ⟨l, hl, hf⟩ := h
  exact ⟨scaleL a l, by rw [scaleL_lenS, hl], fun x => by rw [hor_scaleL, ← hf]⟩
theorem polyF.up {n : Nat} {f : UInt8 → UInt8} (h : polyF n f) : polyF (n + 1) f := by
  obtain ⟨l, hl, hf⟩ := h
  exact ⟨l ++ List.replicate 1 0, by simp [hl], fun x => by rw [hor_pad, hf]⟩
theorem hor_cons0 (x : UInt8) (l : List UInt8) : hor x (0 :: l) = gmul (hor x l) x := by rw [hor, UInt8.xor_zero]
theorem polyF.root {n : Nat} {f : UInt8 → UInt8} (a : UInt8) (h : polyF n f) : polyF (n + 1) (fun x => gmul (f x) (x ^^^ a)) := by
  obtain ⟨l, hl, hf⟩ := h
  refine ⟨addL (0 :: l) (scaleL a l ++ List.replicate 1 0), by rw [addL_lenS _ _ (by simp [scaleL_lenS])]; simp [hl], fun x => ?_⟩
  rw [hor_addL x _ _ (by simp [scaleL_lenS]), hor_cons0, hor_pad, hor_scaleL, gmul_comm a, ← gmul_xor, ← hf]
theorem polyF.zero (n : Nat) : polyF n (fun _ => 0) := ⟨List.replicate n 0, by simp, fun x => (hor_zeros x n).symm⟩
theorem polyF.sum {n : Nat} {f : Nat → UInt8 → UInt8} : ∀ m, (∀ i, i < m → polyF n (f i)) → polyF n (fun x => sumK m fun i => f i x)
  | 0, _ => polyF.zero n
  | m + 1, h => (polyF.sum m fun i hi => h i (by omega)).xor (h m (by omega))
theorem polyF.eq {n : Nat} {f g : UInt8 → UInt8} {xs : List UInt8} (h : polyF n f) (k : polyF n g) (hn : xs.Nodup) (hl : n ≤ xs.length) (hx : ∀ x ∈ xs, f x = g x) (x : UInt8) : f x = g x := by
  obtain ⟨l, hl1, hf⟩ := h
  obtain ⟨m, hm, hg⟩ := k
  have e : l = m := hor_inj (by omega) (by omega) hn fun y hy => by rw [← hf, ← hg, hx y hy]
  rw [hf, hg, e]
theorem polyF.upto {n m : Nat} {f : UInt8 → UInt8} (h : polyF n f) (hm : n ≤ m) : polyF m f := by
  induction hm with
  | refl => exact h
  | step _ ih => exact ih.up
/-- points -/
def apartX (X : Nat → UInt8) (n : Nat) : Prop := ∀ i j, i < j → j < n → X i ≠ X j
theorem apart_ne {X : Nat → UInt8} {n i j : Nat} (h : apartX X n) (hi : i < n) (hj : j < n) (hne : i ≠ j) : X i ≠ X j := by
  rcases Nat.lt_or_gt_of_ne hne with h1 | h1
  · exact h i j h1 hj
  · exact fun e => h j i h1 hi e.symm
theorem apart_nodup {X : Nat → UInt8} {n : Nat} (h : apartX X n) : ((List.range n).map X).Nodup := by
  unfold List.Nodup
  rw [List.pairwise_map]
  exact List.Pairwise.imp_of_mem (fun {a b} ha hb hab => h a b hab (List.mem_range.1 hb)) List.pairwise_lt_range
theorem polyF.eqX {n : Nat} {f g : UInt8 → UInt8} {X : Nat → UInt8} (h : polyF n f) (k : polyF n g) (ha : apartX X n) (hx : ∀ i, i < n → f (X i) = g (X i)) (x : UInt8) : f x = g x :=
  h.eq k (apart_nodup ha) (by simp) (fun y hy => by
    obtain ⟨i, hi, rfl⟩ := List.mem_map.1 hy
    exact hx i (List.mem_range.1 hi)) x
/-- the product over all points but one -/
def upK (X : Nat → UInt8) (i : Nat) (x : UInt8) : Nat → UInt8
  | 0 => 1
  | k + 1 => if k = i then upK X i x k else gmul (upK X i x k) (x ^^^ X k)
def lagK (X Y : Nat → UInt8) (x : UInt8) (n m : Nat) : UInt8 := sumK m fun i => gmul (Y i) (gmul (upK X i x n) (ginv (upK X i (X i) n)))
/-- Lagrange's interpolation -/
def lag (X Y : Nat → UInt8) (x : UInt8) (n : Nat) : UInt8 := lagK X Y x n n
theorem upK_poly (X : Nat → UInt8) (i : Nat) : ∀ k, (k ≤ i → polyF (k + 1) (fun x => upK X i x k)) ∧ (i < k → polyF k (fun x => upK X i x k)) := by
  intro k
  induction k with
  | zero => exact ⟨fun _ => polyF.const 1, fun h => by omega⟩
  | succ k ih =>
    by_cases e : k = i
    · have : (fun x => upK X i x (k + 1)) = fun x => upK X i x k := by funext x; simp [upK, e]
      rw [this]
      exact ⟨fun h => by omega, fun _ => ih.1 (by omega)⟩
    · have : (fun x => upK X i x (k + 1)) = fun x => gmul (upK X i x k) (x ^^^ X k) := by funext x; simp [upK, e]
      rw [this]
      exact ⟨fun h => (ih.1 (by omega)).root _, fun h => (ih.2 (by omega)).root _⟩
theorem upK_zero {X : Nat → UInt8} {i j : Nat} (hne : j ≠ i) : ∀ k, j < k → upK X i (X j) k = 0 := by
  intro k
  induction k with
  | zero => intro h; omega
  | succ k ih =>
    intro h
    rw [upK]
    split
    · exact ih (by omega)
    · by_cases e : j = k
      · rw [e, UInt8.xor_self, gmul_zero]
      · rw [ih (by omega), zero_gmul]
theorem upK_ne {X : Nat → UInt8} {i : Nat} {x : UInt8} : ∀ k, (∀ j, j < k → j ≠ i → x ≠ X j) → upK X i x k ≠ 0 := by
  intro k
  induction k with
  | zero => intro _; exact (by decide : (1 : UInt8) ≠ 0)
  | succ k ih =>
    intro h
    rw [upK]
    split
    · exact ih fun j hj => h j (by omega)
    · exact g_ne (ih fun j hj => h j (by omega)) (x_ne (h k (by omega) ‹_›))
theorem lag_poly (X Y : Nat → UInt8) (n : Nat) : polyF n (fun x => lag X Y x n) := by
  refine polyF.sum n fun i hi => ?_
  have h := ((upK_poly X i n).2 hi).mulc (ginv (upK X i (X i) n))
  have h2 := h.mulc (Y i)
  have e : (fun x => gmul (Y i) (gmul (upK X i x n) (ginv (upK X i (X i) n)))) = fun x => gmul (Y i) (gmul (ginv (upK X i (X i) n)) (upK X i x n)) := by
    funext x; rw [gmul_comm (upK X i x n)]
  rw [e]
  exact h2
theorem lag_at {X Y : Nat → UInt8} {n : Nat} (ha : apartX X n) {i : Nat} (hi : i < n) : lag X Y (X i) n = Y i := by
  unfold lag lagK
  rw [sumK_one _ hi fun l hl hne => by rw [upK_zero (Ne.symm hne) n hi, zero_gmul, gmul_zero]]
  rw [gmul_ginv (upK_ne n fun j hj hne => apart_ne ha hi hj (Ne.symm hne)), gmul_one]
theorem lag_eq {X Y : Nat → UInt8} {n : Nat} {f : UInt8 → UInt8} (ha : apartX X n) (hf : polyF n f) (h : ∀ i, i < n → f (X i) = Y i) (x : UInt8) : lag X Y x n = f x :=
  (lag_poly X Y n).eqX hf ha (fun i hi => by rw [lag_at ha hi, h i hi]) x
theorem lag_xor (X Y Z : Nat → UInt8) (x : UInt8) (n : Nat) : lag X (fun i => Y i ^^^ Z i) x n = lag X Y x n ^^^ lag X Z x n := by
  unfold lag lagK
  rw [← sumK_xor]
  exact sumK_congr fun l _ => xor_gmul _ _ _
theorem upK_congr {X X' : Nat → UInt8} {i : Nat} {x : UInt8} : ∀ k, (∀ j, j < k → X j = X' j) → upK X i x k = upK X' i x k := by
  intro k
  induction k with
  | zero => intro _; rfl
  | succ k ih => intro h; rw [upK, upK, ih fun j hj => h j (by omega), h k (by omega)]
theorem lag_congr {X X' Y Y' : Nat → UInt8} {x : UInt8} {n : Nat} (h : ∀ j, j < n → X j = X' j) (h' : ∀ j, j < n → Y j = Y' j) : lag X Y x n = lag X' Y' x n := by
  unfold lag lagK
  exact sumK_congr fun l hl => by rw [upK_congr n h, upK_congr n h, h l hl, h' l hl]
/-- a polynomial's first coefficients -/
theorem hor_take (x : UInt8) : ∀ (l : List UInt8) (n : Nat), (∀ j, n ≤ j → l.getD j 0 = 0) → hor x (l.take n) = hor x l
  | [], n, _ => by simp
  | c :: l, 0, h => by
    have h0 : c = 0 := h 0 (by omega)
    have ih := hor_take x l 0 (fun j _ => h (j + 1) (by omega))
    rw [List.take_zero] at ih ⊢
    have e : hor x (c :: l) = gmul (hor x l) x ^^^ c := rfl
    rw [e, ← ih, h0]
    simp [hor, zero_gmul]
  | c :: l, n + 1, h => by
    have ih := hor_take x l n (fun j hj => h (j + 1) (by omega))
    rw [List.take_succ_cons, hor, hor, ih]
theorem hor_short {l : List UInt8} {n : Nat} (hl : n ≤ l.length) (h : ∀ j, n ≤ j → l.getD j 0 = 0) : polyF n (fun x => hor x l) :=
  ⟨l.take n, by simp; omega, fun x => (hor_take x l n h).symm⟩
/-- Newton's interpolation, as arrays of 20 coefficients -/
def addC (f : UInt8) (P V : List UInt8) : List UInt8 := addL P (scaleL f V)
def wrC (r : UInt8) (V : List UInt8) : List UInt8 := addL (0 :: V.take 19) (scaleL r V)
def xF (l : List Sr) (i : Nat) : UInt8 := (l.getD i (0, 0)).1
def yF (l : List Sr) (i : Nat) : UInt8 := (l.getD i (0, 0)).2
def nwK (l : List Sr) : Nat → List UInt8 × List UInt8
  | 0 => (List.replicate 20 0, 1 :: List.replicate 19 0)
  | k + 1 => (addC (gmul (yF l k ^^^ hor (xF l k) (nwK l k).1) (ginv (hor (xF l k) (nwK l k).2))) (nwK l k).1 (nwK l k).2, wrC (xF l k) (nwK l k).2)
def thr (l : List Sr) : List UInt8 := (nwK l l.length).1
def prK (X : Nat → UInt8) (x : UInt8) : Nat → UInt8
  | 0 => 1
  | k + 1 => gmul (prK X x k) (x ^^^ X k)
theorem prK_zero {X : Nat → UInt8} {j : Nat} : ∀ k, j < k → prK X (X j) k = 0 := by
  intro k
  induction k with
  | zero => intro h; omega
  | succ k ih =>
    intro h
    rw [prK]
    by_cases e : j = k
    · rw [e, UInt8.xor_self, gmul_zero]
    · rw [ih (by omega), zero_gmul]
theorem prK_ne {X : Nat → UInt8} {x : UInt8} : ∀ k, (∀ j, j < k → x ≠ X j) → prK X x k ≠ 0 := by
  intro k
  induction k with
  | zero => intro _; exact (by decide : (1 : UInt8) ≠ 0)
  | succ k ih => intro h; rw [prK]; exact g_ne (ih fun j hj => h j (by omega)) (x_ne (h k (by omega)))
theorem rep_getD (n j : Nat) : (List.replicate n (0 : UInt8)).getD j 0 = 0 := by
  by_cases h : j < n <;> simp [List.getD, h]
theorem nw_len (l : List Sr) : ∀ k, (nwK l k).1.length = 20 ∧ (nwK l k).2.length = 20 := by
  intro k
  induction k with
  | zero => simp [nwK]
  | succ k ih =>
    refine ⟨?_, ?_⟩
    · show (addL _ (scaleL _ _)).length = 20
      rw [addL_lenS _ _ (by rw [scaleL_lenS, ih.1, ih.2]), ih.1]
    · show (addL (0 :: (nwK l k).2.take 19) (scaleL _ _)).length = 20
      rw [addL_lenS _ _ (by rw [scaleL_lenS]; simp [ih.2])]; simp [ih.2]
theorem wr_getD {V : List UInt8} (hV : V.length = 20) (r : UInt8) (j : Nat) (h1 : ∀ i, j ≤ i + 1 → V.getD i 0 = 0) (hj : 0 < j) : (wrC r V).getD j 0 = 0 := by
  unfold wrC
  rw [addL_getD _ _ (by rw [scaleL_lenS]; simp [hV]), getD_scale, h1 j (by omega), gmul_zero, UInt8.xor_zero]
  obtain ⟨i, rfl⟩ : ∃ i, j = i + 1 := ⟨j - 1, by omega⟩
  show (V.take 19).getD i 0 = 0
  have := h1 i (by omega)
  by_cases hi : i < 19
  · simp only [List.getD, List.getElem?_take, hi, if_true] at this ⊢
    exact this
  · simp [List.getD, List.getElem?_take, hi]
theorem hor_wr {V : List UInt8} (hV : V.length = 20) (h0 : V.getD 19 0 = 0) (r x : UInt8) : hor x (wrC r V) = gmul (hor x V) (x ^^^ r) := by
  unfold wrC
  have hz : ∀ j, 19 ≤ j → V.getD j 0 = 0 := fun j hj => by
    by_cases e : j = 19
    · rw [e, h0]
    · simp [List.getD, List.getElem?_eq_none (show V.length ≤ j by omega)]
  rw [hor_addL x _ _ (by rw [scaleL_lenS]; simp [hV]), hor_cons0, hor_take x V 19 hz, hor_scaleL, gmul_xor, gmul_comm r]
theorem nw_ok {l : List Sr} (h20 : l.length ≤ 20) (ha : apartX (xF l) l.length) : ∀ k, k ≤ l.length →
    (∀ j, k ≤ j → (nwK l k).1.getD j 0 = 0) ∧ (∀ j, k < j → (nwK l k).2.getD j 0 = 0) ∧ (k ≤ 19 → ∀ x, hor x (nwK l k).2 = prK (xF l) x k) ∧ (∀ i, i < k → hor (xF l i) (nwK l k).1 = yF l i) := by
  intro k
  induction k with
  | zero =>
    intro _
    refine ⟨fun j _ => rep_getD 20 j, fun j hj => ?_, fun _ x => ?_, fun i hi => by omega⟩
    · obtain ⟨i, rfl⟩ : ∃ i, j = i + 1 := ⟨j - 1, by omega⟩
      exact rep_getD 19 i
    · show hor x (1 :: List.replicate 19 0) = 1
      rw [hor, hor_zeros, zero_gmul]; rfl
  | succ k ih =>
    intro hk
    obtain ⟨i1, i2, i3, i4⟩ := ih (by omega)
    obtain ⟨l1, l2⟩ := nw_len l k
    have hP : ∀ x, hor x (nwK l (k + 1)).1 = hor x (nwK l k).1 ^^^ gmul (gmul (yF l k ^^^ hor (xF l k) (nwK l k).1) (ginv (hor (xF l k) (nwK l k).2))) (hor x (nwK l k).2) := fun x => by
      show hor x (addL _ (scaleL _ _)) = _
      rw [hor_addL x _ _ (by rw [scaleL_lenS, l1, l2]), hor_scaleL]
    have hv := i3 (by omega)
    have hne : prK (xF l) (xF l k) k ≠ 0 := prK_ne k fun j hj => Ne.symm (ha j k hj (by omega))
    refine ⟨fun j hj => ?_, fun j hj => ?_, fun h19 x => ?_, fun i hi => ?_⟩
    · show (addL _ (scaleL _ _)).getD j 0 = 0
      rw [addL_getD _ _ (by rw [scaleL_lenS, l1, l2]), getD_scale, i1 j (by omega), i2 j (by omega), gmul_zero]; rfl
    · exact wr_getD l2 _ j (fun i hi => i2 i (by omega)) (by omega)
    · show hor x (wrC _ _) = _
      rw [hor_wr l2 (i2 19 (by omega)), prK, hv]
    · rw [hP]
      by_cases e : i = k
      · rw [e, hv, gmul_assoc, ginv_gmul hne, gmul_one, UInt8.xor_comm (yF l k), xx_back]
      · rw [hv (xF l i), prK_zero k (by omega), gmul_zero, UInt8.xor_zero, i4 i (by omega)]
theorem thr_len (l : List Sr) : (thr l).length = 20 := (nw_len l _).1
theorem thr_at {l : List Sr} (h20 : l.length ≤ 20) (ha : apartX (xF l) l.length) {i : Nat} (hi : i < l.length) : hor (xF l i) (thr l) = yF l i := (nw_ok h20 ha _ (Nat.le_refl _)).2.2.2 i hi
theorem thr_high {l : List Sr} (h20 : l.length ≤ 20) (ha : apartX (xF l) l.length) {j : Nat} (hj : l.length ≤ j) : (thr l).getD j 0 = 0 := (nw_ok h20 ha _ (Nat.le_refl _)).1 j hj
/-- Newton's is Lagrange's -/
theorem thr_lag {l : List Sr} (h20 : l.length ≤ 20) (ha : apartX (xF l) l.length) (x : UInt8) : hor x (thr l) = lag (xF l) (yF l) x l.length :=
  (lag_eq ha (hor_short (by rw [thr_len]; exact h20) fun j hj => thr_high h20 ha hj) (fun i hi => thr_at h20 ha hi) x).symm
theorem xF_take (l : List Sr) (m i : Nat) (h : i < m) : xF (l.take m) i = xF l i := by simp [xF, List.getD, List.getElem?_take, h]
theorem yF_take (l : List Sr) (m i : Nat) (h : i < m) : yF (l.take m) i = yF l i := by simp [yF, List.getD, List.getElem?_take, h]
theorem nw_take (l : List Sr) (m : Nat) : ∀ k, k ≤ m → nwK (l.take m) k = nwK l k := by
  intro k
  induction k with
  | zero => intro _; rfl
  | succ k ih => intro h; rw [nwK, nwK, ih (by omega), xF_take l m k (by omega), yF_take l m k (by omega)]
theorem addC_zero (P V : List UInt8) (h : P.length = V.length) : addC 0 P V = P := by
  apply List.ext_getElem (by unfold addC; rw [addL_lenS _ _ (by rw [scaleL_lenS, h])])
  intro i h1 h2
  have hV : i < V.length := by omega
  simp [addC, addL, scaleL, zero_gmul]
/-- shares lie on the polynomial of the first m exactly if they don't change it -/
theorem thr_same {l : List Sr} (h20 : l.length ≤ 20) (ha : apartX (xF l) l.length) {m : Nat} (hm : m ≤ l.length) : thr (l.take m) = thr l ↔ ∀ i, m ≤ i → i < l.length → lag (xF l) (yF l) (xF l i) m = yF l i := by
  have hlm : (l.take m).length = m := by simp; omega
  have e1 : thr (l.take m) = (nwK l m).1 := by unfold thr; rw [hlm, nw_take l m m (Nat.le_refl _)]
  have ha' : apartX (xF (l.take m)) (l.take m).length := fun i j hij hj => by
    rw [hlm] at hj
    rw [xF_take l m i (by omega), xF_take l m j hj]
    exact ha i j hij (by omega)
  have e2 : ∀ x, hor x (thr (l.take m)) = lag (xF l) (yF l) x m := fun x => by
    rw [thr_lag (by omega) ha', hlm]
    exact lag_congr (fun j hj => xF_take l m j hj) (fun j hj => yF_take l m j hj)
  constructor
  · intro h i _ hi
    rw [← e2, h]
    exact thr_at h20 ha hi
  · intro h
    rw [e1]
    have : ∀ d, m + d ≤ l.length → (nwK l (m + d)).1 = (nwK l m).1 := by
      intro d
      induction d with
      | zero => intro _; rfl
      | succ d ih =>
        intro hd
        have i0 := ih (by omega)
        have es : (nwK l (m + (d + 1))).1 = addC (gmul (yF l (m + d) ^^^ hor (xF l (m + d)) (nwK l (m + d)).1) (ginv (hor (xF l (m + d)) (nwK l (m + d)).2))) (nwK l (m + d)).1 (nwK l (m + d)).2 := rfl
        rw [es, i0, ← e1, e2, h (m + d) (by omega) (by omega), UInt8.xor_self, zero_gmul, e1]
        exact addC_zero _ _ (by rw [(nw_len l m).1, (nw_len l (m + d)).2])
    have := this (l.length - m) (by omega)
    rw [Nat.add_sub_cancel' hm] at this
    exact this.symm
/-- valid shares -/
def prX (l : List Sr) (i : Nat) : UInt8 := if i = 0 then 0 else xF l (i - 1)
def shrOk (l : List Sr) : Bool := decide (l.length ≤ 20 ∧ ∀ i, i < l.length → prX l i < xF l i)
theorem shrOk_iff (l : List Sr) : shrOk l = true ↔ l.length ≤ 20 ∧ ∀ i, i < l.length → prX l i < xF l i := by simp only [shrOk, decide_eq_true_eq]
theorem shr_lt {l : List Sr} (h : shrOk l = true) : ∀ j i, i < j → j < l.length → xF l i < xF l j := by
  obtain ⟨_, h2⟩ := (shrOk_iff l).1 h
  intro j
  induction j with
  | zero => intro i hi; omega
  | succ j ih =>
    intro i hi hj
    have := h2 (j + 1) hj
    simp only [prX, Nat.add_sub_cancel, if_neg (show ¬ j + 1 = 0 by omega)] at this
    by_cases e : i = j
    · rw [e]; exact this
    · exact UInt8.lt_trans (ih i (by omega) (by omega)) this
theorem shr_apart {l : List Sr} (h : shrOk l = true) : apartX (xF l) l.length := fun i j hij hj e => by
  have := shr_lt h j i hij hj
  rw [e] at this
  exact absurd this (UInt8.lt_irrefl _)
theorem shr_pos {l : List Sr} (h : shrOk l = true) (i : Nat) (hi : i < l.length) : xF l i ≠ 0 := fun e => by
  have := ((shrOk_iff l).1 h).2 i hi
  rw [e] at this
  exact absurd this (by simp [UInt8.lt_iff_toNat_lt])
theorem shr_20 {l : List Sr} (h : shrOk l = true) : l.length ≤ 20 := ((shrOk_iff l).1 h).1
end G294
