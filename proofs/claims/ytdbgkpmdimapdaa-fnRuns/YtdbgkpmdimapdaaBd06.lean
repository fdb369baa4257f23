/- Joined texts: RowMath, ShaMath, ShrMem, ShrApp, PkdX, Shape, SplitMath. -/
import Derived.Test.YtdbgkpmdimapdaaBd02
import Derived.Test.YtdbgkpmdimapdaaBd05
import Derived.Test.YtdbgkpmdimapdaaBd01
import Derived.Laws.AppendOwnNone
import Derived.Laws.Rows
import Derived.Test.YtdbgkpmdimapdaaBd00
import Derived.Test.YtdbgkpmdimapdaaBd04
set_option linter.unusedSimpArgs false
set_option linter.unusedVariables false
/- The row of a node of a regenerating code. -/
namespace G294
def powB (x : UInt8) (e : Nat) : UInt8 := UInt8.ofNat (gp x.toNat e)
theorem powB_toNat (x : UInt8) (e : Nat) : (powB x e).toNat = gp x.toNat e := by
  unfold powB; rw [UInt8.toNat_ofNat']; exact Nat.mod_eq_of_lt (gp_lt x.toNat_lt e)
theorem gmul_one_left (x : UInt8) : gmul 1 x = x := by
  apply UInt8.toNat_inj.1
  rw [gmul_toNat]
  exact gm_one_left x.toNat_lt
/-- a factor times the first powers of x -/
def pRow (x : UInt8) (a : Nat) (f : UInt8) : List UInt8 := mkRow a fun e => gmul f (powB x e)
def pRows (x : UInt8) (a : Nat) (fs : List UInt8) : List UInt8 := (fs.map (pRow x a)).flatten
/-- the number of a node and its factor -/
def nodX (i : Nat) : UInt8 := powB 3 (i + 1)
def nodF (i a : Nat) : UInt8 := powB (nodX i) a
def shortL (a i : Nat) : List UInt8 := mkRow a (powB (nodX i))
def rowL (a i : Nat) : List UInt8 := shortL a i ++ scaleL (nodF i a) (shortL a i)
@[simp] theorem shortL_length (a i : Nat) : (shortL a i).length = a := by simp [shortL]
@[simp] theorem rowL_length (a i : Nat) : (rowL a i).length = a + a := by simp [rowL, scaleL]
theorem pRow_one (x : UInt8) (a : Nat) : pRow x a 1 = mkRow a (powB x) := mkRow_congr fun j _ => gmul_one_left _
theorem pRow_scale (x : UInt8) (a : Nat) (f : UInt8) : pRow x a f = scaleL f (mkRow a (powB x)) := by simp [pRow, scaleL, mkRow]
theorem pRows_one (a i : Nat) : pRows (nodX i) a [1] = shortL a i := by simp [pRows, pRow_one, shortL]
theorem pRows_two (a i : Nat) : pRows (nodX i) a [1, nodF i a] = rowL a i := by
  have e : pRows (nodX i) a [1, nodF i a] = pRow (nodX i) a 1 ++ pRow (nodX i) a (nodF i a) := by simp [pRows]
  rw [e, pRow_one, pRow_scale]; rfl
theorem pRows_take (x : UInt8) (a : Nat) (fs : List UInt8) (k : Nat) (hk : k < fs.length) : pRows x a (fs.take (k + 1)) = pRows x a (fs.take k) ++ pRow x a fs[k] := by
  rw [List.take_succ_eq_append_getElem hk]; simp only [pRows, List.map_append, List.flatten_append]; simp
theorem pRows_length (x : UInt8) (a : Nat) (fs : List UInt8) : (pRows x a fs).length = fs.length * a := by
  induction fs with
  | nil => simp [pRows]
  | cons f fs ih =>
    have e : pRows x a (f :: fs) = pRow x a f ++ pRows x a fs := by simp [pRows]
    rw [e, List.length_append, ih, List.length_cons, Nat.succ_mul]
    simp [pRow]; omega
theorem mkRow_succ (n : Nat) (f : Nat → UInt8) : mkRow (n + 1) f = mkRow n f ++ [f n] := by simp [mkRow, List.range_succ]
end G294

/- Polynomials over GF(256): Horner, roots, Newton and Lagrange. -/
namespace G294
abbrev Sr := UInt8 × UInt8
theorem xx_back (a b : UInt8) : a ^^^ (a ^^^ b) = b := by rw [← UInt8.xor_assoc, UInt8.xor_self, UInt8.zero_xor]
theorem x_mid (p q r d : UInt8) : p ^^^ q ^^^ d = p ^^^ (q ^^^ r) ^^^ (r ^^^ d) := by
  rw [UInt8.xor_assoc p (q ^^^ r), UInt8.xor_assoc q r, xx_back, UInt8.xor_assoc]
/-- the value of a polynomial -/
def hor (x : UInt8) : List UInt8 → UInt8
  | [] => 0
  | c :: l => gmul (hor x l) x ^^^ c
theorem hor_zeros (x : UInt8) (n : Nat) : hor x (List.replicate n 0) = 0 := by
  induction n with
  | zero => rfl
  | succ n ih => rw [List.replicate_succ, hor, ih, zero_gmul]; rfl
theorem hor_pad (x : UInt8) (n : Nat) (l : List UInt8) : hor x (l ++ List.replicate n 0) = hor x l := by
  induction l with
  | nil => exact hor_zeros x n
  | cons c l ih => rw [List.cons_append, hor, hor, ih]
theorem hor_at0 (c : UInt8) (l : List UInt8) : hor 0 (c :: l) = c := by rw [hor, gmul_zero, UInt8.zero_xor]
theorem hor_drop (x : UInt8) (l : List UInt8) (k : Nat) (h : k < l.length) : hor x (l.drop k) = gmul (hor x (l.drop (k + 1))) x ^^^ l[k] := by
  rw [List.drop_eq_getElem_cons h, hor]
/-- synthetic division -/
def syn (a : UInt8) : List UInt8 → List UInt8
  | [] => []
  | [_] => []
  | _ :: c :: l => hor a (c :: l) :: syn a (c :: l)
theorem syn_length (a : UInt8) : ∀ l : List UInt8, (syn a l).length = l.length - 1
  | [] => rfl
  | [_] => rfl
  | _ :: c :: l => by
    have := syn_length a (c :: l)
    simp only [syn, List.length_cons] at this ⊢
    omega
theorem syn_hor (a x : UInt8) : ∀ l : List UInt8, hor x l = gmul (hor x (syn a l)) (x ^^^ a) ^^^ hor a l
  | [] => by simp [hor, syn, zero_gmul]
  | [c] => by simp [hor, syn, zero_gmul]
  | d :: c :: l => by
    have ih := syn_hor a x (c :: l)
    have e1 : hor x (d :: c :: l) = gmul (hor x (c :: l)) x ^^^ d := rfl
    have e2 : hor a (d :: c :: l) = gmul (hor a (c :: l)) a ^^^ d := rfl
    have e3 : syn a (d :: c :: l) = hor a (c :: l) :: syn a (c :: l) := rfl
    have e4 : hor x (hor a (c :: l) :: syn a (c :: l)) = gmul (hor x (syn a (c :: l))) x ^^^ hor a (c :: l) := rfl
    rw [e1, e2, e3, e4, ih]
    generalize hor x (syn a (c :: l)) = A
    generalize hor a (c :: l) = B
    rw [xor_gmul, xor_gmul, gmul_xor B, gmul_assoc A, gmul_assoc A, gmul_comm x (x ^^^ a)]
    exact x_mid _ _ _ _
theorem syn_zero (a : UInt8) : ∀ l : List UInt8, (∀ c ∈ syn a l, c = 0) → hor a l = 0 → ∀ c ∈ l, c = 0
  | [], _, _ => by simp
  | [c], _, h => by
    have : hor a [c] = c := by simp [hor, zero_gmul]
    intro d hd
    simp only [List.mem_singleton] at hd
    rw [hd, ← this, h]
  | d :: c :: l, h, h0 => by
    have e3 : syn a (d :: c :: l) = hor a (c :: l) :: syn a (c :: l) := rfl
    rw [e3] at h
    have hB := h _ (List.mem_cons_self ..)
    have ih := syn_zero a (c :: l) (fun y hy => h y (List.mem_cons_of_mem _ hy)) hB
    have e2 : hor a (d :: c :: l) = gmul (hor a (c :: l)) a ^^^ d := rfl
    rw [e2, hB, zero_gmul, UInt8.zero_xor] at h0
    intro y hy
    rcases List.mem_cons.1 hy with rfl | hy
    · exact h0
    · exact ih y hy
/-- a polynomial with no more coefficients than roots is 0 -/
theorem hor_root : ∀ (xs l : List UInt8), l.length ≤ xs.length → xs.Nodup → (∀ x ∈ xs, hor x l = 0) → ∀ c ∈ l, c = 0
  | [], l, h, _, _ => by
    have : l = [] := List.eq_nil_of_length_eq_zero (by simpa using h)
    subst this
    simp
  | a :: xs, l, h, hn, hx => by
    have h0 := hx a (List.mem_cons_self ..)
    rw [List.nodup_cons] at hn
    refine syn_zero a l (hor_root xs (syn a l) (by rw [syn_length]; simp only [List.length_cons] at h; omega) hn.2 fun x hxm => ?_) h0
    have e := syn_hor a x l
    rw [hx x (List.mem_cons_of_mem _ hxm), h0, UInt8.xor_zero, gmul_comm] at e
    refine g_cancel (x_ne (fun e' => hn.1 ?_)) e.symm
    rw [← e']; exact hxm
theorem addL_lenS (l m : List UInt8) (h : l.length = m.length) : (addL l m).length = l.length := by simp [addL, h]
theorem scaleL_lenS (a : UInt8) (l : List UInt8) : (scaleL a l).length = l.length := by simp [scaleL]
theorem hor_addL (x : UInt8) : ∀ l m : List UInt8, l.length = m.length → hor x (addL l m) = hor x l ^^^ hor x m
  | [], [], _ => by simp [addL, hor]
  | [], _ :: _, h => by simp at h
  | _ :: _, [], h => by simp at h
  | c :: l, d :: m, h => by
    have ih := hor_addL x l m (by simpa using h)
    have e : addL (c :: l) (d :: m) = (c ^^^ d) :: addL l m := rfl
    rw [e, hor, hor, hor, ih, xor_gmul, x4]
theorem hor_scaleL (x a : UInt8) : ∀ l : List UInt8, hor x (scaleL a l) = gmul a (hor x l)
  | [] => by simp [scaleL, hor, gmul_zero]
  | c :: l => by
    have ih := hor_scaleL x a l
    have e : scaleL a (c :: l) = gmul a c :: scaleL a l := rfl
    rw [e, hor, hor, ih, gmul_xor, gmul_assoc]
theorem addL_getD (l m : List UInt8) (h : l.length = m.length) (j : Nat) : (addL l m).getD j 0 = l.getD j 0 ^^^ m.getD j 0 := by
  by_cases hj : j < l.length
  · simp [addL, List.getD, List.getElem?_zipWith, hj, h ▸ hj]
  · have h1 : l[j]? = none := List.getElem?_eq_none (by omega)
    have h2 : m[j]? = none := List.getElem?_eq_none (by omega)
    simp [addL, List.getD, List.getElem?_zipWith, h1, h2]
theorem hor_inj {l m xs : List UInt8} (h : l.length = m.length) (h2 : l.length ≤ xs.length) (hn : xs.Nodup) (hx : ∀ x ∈ xs, hor x l = hor x m) : l = m := by
  have hz := hor_root xs (addL l m) (by rw [addL_lenS _ _ h]; exact h2) hn (fun x hxm => by rw [hor_addL x l m h, hx x hxm, UInt8.xor_self])
  apply List.ext_getElem h
  intro i h1 h3
  have := addL_getD l m h i
  rw [show (addL l m).getD i 0 = 0 from ?_] at this
  · simp only [List.getD, List.getElem?_eq_getElem h1, List.getElem?_eq_getElem h3, Option.getD_some] at this
    exact x_eq this.symm
  · have hl : i < (addL l m).length := by rw [addL_lenS _ _ h]; exact h1
    simp only [List.getD, List.getElem?_eq_getElem hl, Option.getD_some]
    exact hz _ (List.getElem_mem hl)
/-- the values of a polynomial with n coefficients -/
def polyF (n : Nat) (f : UInt8 → UInt8) : Prop := ∃ l : List UInt8, l.length = n ∧ ∀ x, f x = hor x l
theorem polyF.const (c : UInt8) : polyF 1 (fun _ => c) := ⟨[c], rfl, fun x => by simp [hor, zero_gmul]⟩
theorem polyF.xor {n : Nat} {f g : UInt8 → UInt8} (h : polyF n f) (k : polyF n g) : polyF n (fun x => f x ^^^ g x) := by
  obtain ⟨l, hl, hf⟩ := h
  obtain ⟨m, hm, hg⟩ := k
  exact ⟨addL l m, by rw [addL_lenS _ _ (by omega), hl], fun x => by rw [hor_addL x l m (by omega), ← hf, ← hg]⟩
theorem polyF.mulc {n : Nat} {f : UInt8 → UInt8} (a : UInt8) (h : polyF n f) : polyF n (fun x => gmul a (f x)) := by
  obtain ⟨l, hl, hf⟩ := h
  exact ⟨scaleL a l, by rw [scaleL_lenS, hl], fun x => by rw [hor_scaleL, ← hf]⟩
theorem polyF.up {n : Nat} {f : UInt8 → UInt8} (h : polyF n f) : polyF (n + 1) f := by
  obtain ⟨l, hl, hf⟩ := h
  exact ⟨l ++ List.replicate 1 0, by simp [hl], fun x => by rw [hor_pad, hf]⟩
theorem hor_cons0 (x : UInt8) (l : List UInt8) : hor x (0 :: l) = gmul (hor x l) x := by rw [hor, UInt8.xor_zero]
theorem polyF.root {n : Nat} {f : UInt8 → UInt8} (a : UInt8) (h : polyF n f) : polyF (n + 1) (fun x => gmul (f x) (x ^^^ a)) := by
  obtain ⟨l, hl, hf⟩ := h
  refine ⟨addL (0 :: l) (scaleL a l ++ List.replicate 1 0), by rw [addL_lenS _ _ (by simp [scaleL_lenS])]; simp [hl], fun x => ?_⟩
  rw [hor_addL x _ _ (by simp [scaleL_lenS]), hor_cons0, hor_pad, hor_scaleL, gmul_comm a, ← gmul_xor, ← hf]
theorem polyF.zero (n : Nat) : polyF n (fun _ => 0) := ⟨List.replicate n 0, by simp, fun x => (hor_zeros x n).symm⟩
theorem polyF.sum {n : Nat} {f : Nat → UInt8 → UInt8} : ∀ m, (∀ i, i < m → polyF n (f i)) → polyF n (fun x => sumK m fun i => f i x)
  | 0, _ => polyF.zero n
  | m + 1, h => (polyF.sum m fun i hi => h i (by omega)).xor (h m (by omega))
theorem polyF.eq {n : Nat} {f g : UInt8 → UInt8} {xs : List UInt8} (h : polyF n f) (k : polyF n g) (hn : xs.Nodup) (hl : n ≤ xs.length) (hx : ∀ x ∈ xs, f x = g x) (x : UInt8) : f x = g x := by
  obtain ⟨l, hl1, hf⟩ := h
  obtain ⟨m, hm, hg⟩ := k
  have e : l = m := hor_inj (by omega) (by omega) hn fun y hy => by rw [← hf, ← hg, hx y hy]
  rw [hf, hg, e]
theorem polyF.upto {n m : Nat} {f : UInt8 → UInt8} (h : polyF n f) (hm : n ≤ m) : polyF m f := by
  induction hm with
  | refl => exact h
  | step _ ih => exact ih.up
/-- points -/
def apartX (X : Nat → UInt8) (n : Nat) : Prop := ∀ i j, i < j → j < n → X i ≠ X j
theorem apart_ne {X : Nat → UInt8} {n i j : Nat} (h : apartX X n) (hi : i < n) (hj : j < n) (hne : i ≠ j) : X i ≠ X j := by
  rcases Nat.lt_or_gt_of_ne hne with h1 | h1
  · exact h i j h1 hj
  · exact fun e => h j i h1 hi e.symm
theorem apart_nodup {X : Nat → UInt8} {n : Nat} (h : apartX X n) : ((List.range n).map X).Nodup := by
  unfold List.Nodup
  rw [List.pairwise_map]
  exact List.Pairwise.imp_of_mem (fun {a b} ha hb hab => h a b hab (List.mem_range.1 hb)) List.pairwise_lt_range
theorem polyF.eqX {n : Nat} {f g : UInt8 → UInt8} {X : Nat → UInt8} (h : polyF n f) (k : polyF n g) (ha : apartX X n) (hx : ∀ i, i < n → f (X i) = g (X i)) (x : UInt8) : f x = g x :=
  h.eq k (apart_nodup ha) (by simp) (fun y hy => by
    obtain ⟨i, hi, rfl⟩ := List.mem_map.1 hy
    exact hx i (List.mem_range.1 hi)) x
/-- the product over all points but one -/
def upK (X : Nat → UInt8) (i : Nat) (x : UInt8) : Nat → UInt8
  | 0 => 1
  | k + 1 => if k = i then upK X i x k else gmul (upK X i x k) (x ^^^ X k)
def lagK (X Y : Nat → UInt8) (x : UInt8) (n m : Nat) : UInt8 := sumK m fun i => gmul (Y i) (gmul (upK X i x n) (ginv (upK X i (X i) n)))
/-- Lagrange's interpolation -/
def lag (X Y : Nat → UInt8) (x : UInt8) (n : Nat) : UInt8 := lagK X Y x n n
theorem upK_poly (X : Nat → UInt8) (i : Nat) : ∀ k, (k ≤ i → polyF (k + 1) (fun x => upK X i x k)) ∧ (i < k → polyF k (fun x => upK X i x k)) := by
  intro k
  induction k with
  | zero => exact ⟨fun _ => polyF.const 1, fun h => by omega⟩
  | succ k ih =>
    by_cases e : k = i
    · have : (fun x => upK X i x (k + 1)) = fun x => upK X i x k := by funext x; simp [upK, e]
      rw [this]
      exact ⟨fun h => by omega, fun _ => ih.1 (by omega)⟩
    · have : (fun x => upK X i x (k + 1)) = fun x => gmul (upK X i x k) (x ^^^ X k) := by funext x; simp [upK, e]
      rw [this]
      exact ⟨fun h => (ih.1 (by omega)).root _, fun h => (ih.2 (by omega)).root _⟩
theorem upK_zero {X : Nat → UInt8} {i j : Nat} (hne : j ≠ i) : ∀ k, j < k → upK X i (X j) k = 0 := by
  intro k
  induction k with
  | zero => intro h; omega
  | succ k ih =>
    intro h
    rw [upK]
    split
    · exact ih (by omega)
    · by_cases e : j = k
      · rw [e, UInt8.xor_self, gmul_zero]
      · rw [ih (by omega), zero_gmul]
theorem upK_ne {X : Nat → UInt8} {i : Nat} {x : UInt8} : ∀ k, (∀ j, j < k → j ≠ i → x ≠ X j) → upK X i x k ≠ 0 := by
  intro k
  induction k with
  | zero => intro _; exact (by decide : (1 : UInt8) ≠ 0)
  | succ k ih =>
    intro h
    rw [upK]
    split
    · exact ih fun j hj => h j (by omega)
    · exact g_ne (ih fun j hj => h j (by omega)) (x_ne (h k (by omega) ‹_›))
theorem lag_poly (X Y : Nat → UInt8) (n : Nat) : polyF n (fun x => lag X Y x n) := by
  refine polyF.sum n fun i hi => ?_
  have h := ((upK_poly X i n).2 hi).mulc (ginv (upK X i (X i) n))
  have h2 := h.mulc (Y i)
  have e : (fun x => gmul (Y i) (gmul (upK X i x n) (ginv (upK X i (X i) n)))) = fun x => gmul (Y i) (gmul (ginv (upK X i (X i) n)) (upK X i x n)) := by
    funext x; rw [gmul_comm (upK X i x n)]
  rw [e]
  exact h2
theorem lag_at {X Y : Nat → UInt8} {n : Nat} (ha : apartX X n) {i : Nat} (hi : i < n) : lag X Y (X i) n = Y i := by
  unfold lag lagK
  rw [sumK_one _ hi fun l hl hne => by rw [upK_zero (Ne.symm hne) n hi, zero_gmul, gmul_zero]]
  rw [gmul_ginv (upK_ne n fun j hj hne => apart_ne ha hi hj (Ne.symm hne)), gmul_one]
theorem lag_eq {X Y : Nat → UInt8} {n : Nat} {f : UInt8 → UInt8} (ha : apartX X n) (hf : polyF n f) (h : ∀ i, i < n → f (X i) = Y i) (x : UInt8) : lag X Y x n = f x :=
  (lag_poly X Y n).eqX hf ha (fun i hi => by rw [lag_at ha hi, h i hi]) x
theorem lag_xor (X Y Z : Nat → UInt8) (x : UInt8) (n : Nat) : lag X (fun i => Y i ^^^ Z i) x n = lag X Y x n ^^^ lag X Z x n := by
  unfold lag lagK
  rw [← sumK_xor]
  exact sumK_congr fun l _ => xor_gmul _ _ _
theorem upK_congr {X X' : Nat → UInt8} {i : Nat} {x : UInt8} : ∀ k, (∀ j, j < k → X j = X' j) → upK X i x k = upK X' i x k := by
  intro k
  induction k with
  | zero => intro _; rfl
  | succ k ih => intro h; rw [upK, upK, ih fun j hj => h j (by omega), h k (by omega)]
theorem lag_congr {X X' Y Y' : Nat → UInt8} {x : UInt8} {n : Nat} (h : ∀ j, j < n → X j = X' j) (h' : ∀ j, j < n → Y j = Y' j) : lag X Y x n = lag X' Y' x n := by
  unfold lag lagK
  exact sumK_congr fun l hl => by rw [upK_congr n h, upK_congr n h, h l hl, h' l hl]
/-- a polynomial's first coefficients -/
theorem hor_take (x : UInt8) : ∀ (l : List UInt8) (n : Nat), (∀ j, n ≤ j → l.getD j 0 = 0) → hor x (l.take n) = hor x l
  | [], n, _ => by simp
  | c :: l, 0, h => by
    have h0 : c = 0 := h 0 (by omega)
    have ih := hor_take x l 0 (fun j _ => h (j + 1) (by omega))
    rw [List.take_zero] at ih ⊢
    have e : hor x (c :: l) = gmul (hor x l) x ^^^ c := rfl
    rw [e, ← ih, h0]
    simp [hor, zero_gmul]
  | c :: l, n + 1, h => by
    have ih := hor_take x l n (fun j hj => h (j + 1) (by omega))
    rw [List.take_succ_cons, hor, hor, ih]
theorem hor_short {l : List UInt8} {n : Nat} (hl : n ≤ l.length) (h : ∀ j, n ≤ j → l.getD j 0 = 0) : polyF n (fun x => hor x l) :=
  ⟨l.take n, by simp; omega, fun x => (hor_take x l n h).symm⟩
/-- Newton's interpolation, as arrays of 20 coefficients -/
def addC (f : UInt8) (P V : List UInt8) : List UInt8 := addL P (scaleL f V)
def wrC (r : UInt8) (V : List UInt8) : List UInt8 := addL (0 :: V.take 19) (scaleL r V)
def xF (l : List Sr) (i : Nat) : UInt8 := (l.getD i (0, 0)).1
def yF (l : List Sr) (i : Nat) : UInt8 := (l.getD i (0, 0)).2
def nwK (l : List Sr) : Nat → List UInt8 × List UInt8
  | 0 => (List.replicate 20 0, 1 :: List.replicate 19 0)
  | k + 1 => (addC (gmul (yF l k ^^^ hor (xF l k) (nwK l k).1) (ginv (hor (xF l k) (nwK l k).2))) (nwK l k).1 (nwK l k).2, wrC (xF l k) (nwK l k).2)
def thr (l : List Sr) : List UInt8 := (nwK l l.length).1
def prK (X : Nat → UInt8) (x : UInt8) : Nat → UInt8
  | 0 => 1
  | k + 1 => gmul (prK X x k) (x ^^^ X k)
theorem prK_zero {X : Nat → UInt8} {j : Nat} : ∀ k, j < k → prK X (X j) k = 0 := by
  intro k
  induction k with
  | zero => intro h; omega
  | succ k ih =>
    intro h
    rw [prK]
    by_cases e : j = k
    · rw [e, UInt8.xor_self, gmul_zero]
    · rw [ih (by omega), zero_gmul]
theorem prK_ne {X : Nat → UInt8} {x : UInt8} : ∀ k, (∀ j, j < k → x ≠ X j) → prK X x k ≠ 0 := by
  intro k
  induction k with
  | zero => intro _; exact (by decide : (1 : UInt8) ≠ 0)
  | succ k ih => intro h; rw [prK]; exact g_ne (ih fun j hj => h j (by omega)) (x_ne (h k (by omega)))
theorem rep_getD (n j : Nat) : (List.replicate n (0 : UInt8)).getD j 0 = 0 := by
  by_cases h : j < n <;> simp [List.getD, h]
theorem nw_len (l : List Sr) : ∀ k, (nwK l k).1.length = 20 ∧ (nwK l k).2.length = 20 := by
  intro k
  induction k with
  | zero => simp [nwK]
  | succ k ih =>
    refine ⟨?_, ?_⟩
    · show (addL _ (scaleL _ _)).length = 20
      rw [addL_lenS _ _ (by rw [scaleL_lenS, ih.1, ih.2]), ih.1]
    · show (addL (0 :: (nwK l k).2.take 19) (scaleL _ _)).length = 20
      rw [addL_lenS _ _ (by rw [scaleL_lenS]; simp [ih.2])]; simp [ih.2]
theorem wr_getD {V : List UInt8} (hV : V.length = 20) (r : UInt8) (j : Nat) (h1 : ∀ i, j ≤ i + 1 → V.getD i 0 = 0) (hj : 0 < j) : (wrC r V).getD j 0 = 0 := by
  unfold wrC
  rw [addL_getD _ _ (by rw [scaleL_lenS]; simp [hV]), getD_scale, h1 j (by omega), gmul_zero, UInt8.xor_zero]
  obtain ⟨i, rfl⟩ : ∃ i, j = i + 1 := ⟨j - 1, by omega⟩
  show (V.take 19).getD i 0 = 0
  have := h1 i (by omega)
  by_cases hi : i < 19
  · simp only [List.getD, List.getElem?_take, hi, if_true] at this ⊢
    exact this
  · simp [List.getD, List.getElem?_take, hi]
theorem hor_wr {V : List UInt8} (hV : V.length = 20) (h0 : V.getD 19 0 = 0) (r x : UInt8) : hor x (wrC r V) = gmul (hor x V) (x ^^^ r) := by
  unfold wrC
  have hz : ∀ j, 19 ≤ j → V.getD j 0 = 0 := fun j hj => by
    by_cases e : j = 19
    · rw [e, h0]
    · simp [List.getD, List.getElem?_eq_none (show V.length ≤ j by omega)]
  rw [hor_addL x _ _ (by rw [scaleL_lenS]; simp [hV]), hor_cons0, hor_take x V 19 hz, hor_scaleL, gmul_xor, gmul_comm r]
theorem nw_ok {l : List Sr} (h20 : l.length ≤ 20) (ha : apartX (xF l) l.length) : ∀ k, k ≤ l.length →
    (∀ j, k ≤ j → (nwK l k).1.getD j 0 = 0) ∧ (∀ j, k < j → (nwK l k).2.getD j 0 = 0) ∧ (k ≤ 19 → ∀ x, hor x (nwK l k).2 = prK (xF l) x k) ∧ (∀ i, i < k → hor (xF l i) (nwK l k).1 = yF l i) := by
  intro k
  induction k with
  | zero =>
    intro _
    refine ⟨fun j _ => rep_getD 20 j, fun j hj => ?_, fun _ x => ?_, fun i hi => by omega⟩
    · obtain ⟨i, rfl⟩ : ∃ i, j = i + 1 := ⟨j - 1, by omega⟩
      exact rep_getD 19 i
    · show hor x (1 :: List.replicate 19 0) = 1
      rw [hor, hor_zeros, zero_gmul]; rfl
  | succ k ih =>
    intro hk
    obtain ⟨i1, i2, i3, i4⟩ := ih (by omega)
    obtain ⟨l1, l2⟩ := nw_len l k
    have hP : ∀ x, hor x (nwK l (k + 1)).1 = hor x (nwK l k).1 ^^^ gmul (gmul (yF l k ^^^ hor (xF l k) (nwK l k).1) (ginv (hor (xF l k) (nwK l k).2))) (hor x (nwK l k).2) := fun x => by
      show hor x (addL _ (scaleL _ _)) = _
      rw [hor_addL x _ _ (by rw [scaleL_lenS, l1, l2]), hor_scaleL]
    have hv := i3 (by omega)
    have hne : prK (xF l) (xF l k) k ≠ 0 := prK_ne k fun j hj => Ne.symm (ha j k hj (by omega))
    refine ⟨fun j hj => ?_, fun j hj => ?_, fun h19 x => ?_, fun i hi => ?_⟩
    · show (addL _ (scaleL _ _)).getD j 0 = 0
      rw [addL_getD _ _ (by rw [scaleL_lenS, l1, l2]), getD_scale, i1 j (by omega), i2 j (by omega), gmul_zero]; rfl
    · exact wr_getD l2 _ j (fun i hi => i2 i (by omega)) (by omega)
    · show hor x (wrC _ _) = _
      rw [hor_wr l2 (i2 19 (by omega)), prK, hv]
    · rw [hP]
      by_cases e : i = k
      · rw [e, hv, gmul_assoc, ginv_gmul hne, gmul_one, UInt8.xor_comm (yF l k), xx_back]
      · rw [hv (xF l i), prK_zero k (by omega), gmul_zero, UInt8.xor_zero, i4 i (by omega)]
theorem thr_len (l : List Sr) : (thr l).length = 20 := (nw_len l _).1
theorem thr_at {l : List Sr} (h20 : l.length ≤ 20) (ha : apartX (xF l) l.length) {i : Nat} (hi : i < l.length) : hor (xF l i) (thr l) = yF l i := (nw_ok h20 ha _ (Nat.le_refl _)).2.2.2 i hi
theorem thr_high {l : List Sr} (h20 : l.length ≤ 20) (ha : apartX (xF l) l.length) {j : Nat} (hj : l.length ≤ j) : (thr l).getD j 0 = 0 := (nw_ok h20 ha _ (Nat.le_refl _)).1 j hj
/-- Newton's is Lagrange's -/
theorem thr_lag {l : List Sr} (h20 : l.length ≤ 20) (ha : apartX (xF l) l.length) (x : UInt8) : hor x (thr l) = lag (xF l) (yF l) x l.length :=
  (lag_eq ha (hor_short (by rw [thr_len]; exact h20) fun j hj => thr_high h20 ha hj) (fun i hi => thr_at h20 ha hi) x).symm
theorem xF_take (l : List Sr) (m i : Nat) (h : i < m) : xF (l.take m) i = xF l i := by simp [xF, List.getD, List.getElem?_take, h]
theorem yF_take (l : List Sr) (m i : Nat) (h : i < m) : yF (l.take m) i = yF l i := by simp [yF, List.getD, List.getElem?_take, h]
theorem nw_take (l : List Sr) (m : Nat) : ∀ k, k ≤ m → nwK (l.take m) k = nwK l k := by
  intro k
  induction k with
  | zero => intro _; rfl
  | succ k ih => intro h; rw [nwK, nwK, ih (by omega), xF_take l m k (by omega), yF_take l m k (by omega)]
theorem addC_zero (P V : List UInt8) (h : P.length = V.length) : addC 0 P V = P := by
  apply List.ext_getElem (by unfold addC; rw [addL_lenS _ _ (by rw [scaleL_lenS, h])])
  intro i h1 h2
  have hV : i < V.length := by omega
  simp [addC, addL, scaleL, zero_gmul]
/-- shares lie on the polynomial of the first m exactly if they don't change it -/
theorem thr_same {l : List Sr} (h20 : l.length ≤ 20) (ha : apartX (xF l) l.length) {m : Nat} (hm : m ≤ l.length) : thr (l.take m) = thr l ↔ ∀ i, m ≤ i → i < l.length → lag (xF l) (yF l) (xF l i) m = yF l i := by
  have hlm : (l.take m).length = m := by simp; omega
  have e1 : thr (l.take m) = (nwK l m).1 := by unfold thr; rw [hlm, nw_take l m m (Nat.le_refl _)]
  have ha' : apartX (xF (l.take m)) (l.take m).length := fun i j hij hj => by
    rw [hlm] at hj
    rw [xF_take l m i (by omega), xF_take l m j hj]
    exact ha i j hij (by omega)
  have e2 : ∀ x, hor x (thr (l.take m)) = lag (xF l) (yF l) x m := fun x => by
    rw [thr_lag (by omega) ha', hlm]
    exact lag_congr (fun j hj => xF_take l m j hj) (fun j hj => yF_take l m j hj)
  constructor
  · intro h i _ hi
    rw [← e2, h]
    exact thr_at h20 ha hi
  · intro h
    rw [e1]
    have : ∀ d, m + d ≤ l.length → (nwK l (m + d)).1 = (nwK l m).1 := by
      intro d
      induction d with
      | zero => intro _; rfl
      | succ d ih =>
        intro hd
        have i0 := ih (by omega)
        have es : (nwK l (m + (d + 1))).1 = addC (gmul (yF l (m + d) ^^^ hor (xF l (m + d)) (nwK l (m + d)).1) (ginv (hor (xF l (m + d)) (nwK l (m + d)).2))) (nwK l (m + d)).1 (nwK l (m + d)).2 := rfl
        rw [es, i0, ← e1, e2, h (m + d) (by omega) (by omega), UInt8.xor_self, zero_gmul, e1]
        exact addC_zero _ _ (by rw [(nw_len l m).1, (nw_len l (m + d)).2])
    have := this (l.length - m) (by omega)
    rw [Nat.add_sub_cancel' hm] at this
    exact this.symm
/-- valid shares -/
def prX (l : List Sr) (i : Nat) : UInt8 := if i = 0 then 0 else xF l (i - 1)
def shrOk (l : List Sr) : Bool := decide (l.length ≤ 20 ∧ ∀ i, i < l.length → prX l i < xF l i)
theorem shrOk_iff (l : List Sr) : shrOk l = true ↔ l.length ≤ 20 ∧ ∀ i, i < l.length → prX l i < xF l i := by simp only [shrOk, decide_eq_true_eq]
theorem shr_lt {l : List Sr} (h : shrOk l = true) : ∀ j i, i < j → j < l.length → xF l i < xF l j := by
  obtain ⟨_, h2⟩ := (shrOk_iff l).1 h
  intro j
  induction j with
  | zero => intro i hi; omega
  | succ j ih =>
    intro i hi hj
    have := h2 (j + 1) hj
    simp only [prX, Nat.add_sub_cancel, if_neg (show ¬ j + 1 = 0 by omega)] at this
    by_cases e : i = j
    · rw [e]; exact this
    · exact UInt8.lt_trans (ih i (by omega) (by omega)) this
theorem shr_apart {l : List Sr} (h : shrOk l = true) : apartX (xF l) l.length := fun i j hij hj e => by
  have := shr_lt h j i hij hj
  rw [e] at this
  exact absurd this (UInt8.lt_irrefl _)
theorem shr_pos {l : List Sr} (h : shrOk l = true) (i : Nat) (hi : i < l.length) : xF l i ≠ 0 := fun e => by
  have := ((shrOk_iff l).1 h).2 i hi
  rw [e] at this
  exact absurd this (by simp [UInt8.lt_iff_toNat_lt])
theorem shr_20 {l : List Sr} (h : shrOk l = true) : l.length ≤ 20 := ((shrOk_iff l).1 h).1
end G294

/- Shares in memory: a slice of structs of two bytes that is seen, or of the call's own; what a mark writes. -/
namespace G294
open Go Go.RowKit
theorem at_ltR {α : Type} {l : List α} {n k : Nat} (hn : l.length = n) (h : k < n) : ∃ s, l[k]? = some s := ⟨_, List.getElem?_eq_getElem (by omega)⟩
/-- shards as the cells of memory -/
def srs : List Sr → List Value
  | [] => []
  | s :: l => .int .u8 (s.1.toNat : Int) :: .int .u8 (s.2.toNat : Int) :: srs l
@[simp] theorem srs_length (l : List Sr) : (srs l).length = l.length * 2 := by
  induction l with
  | nil => rfl
  | cons s l ih => simp [srs, ih]; omega
theorem srs_append (l m : List Sr) : srs (l ++ m) = srs l ++ srs m := by
  induction l with
  | nil => rfl
  | cons s l ih => simp [srs, ih]
theorem srs_no (l : List Sr) (i : Nat) (h : i < l.length) : (srs l)[i * 2]? = some (.int .u8 (l[i].1.toNat : Int)) := by
  induction l generalizing i with
  | nil => simp at h
  | cons s l ih =>
    cases i with
    | zero => rfl
    | succ i => rw [show (i + 1) * 2 = i * 2 + 1 + 1 by omega]; simpa [srs] using ih i (by simpa using h)
theorem srs_data (l : List Sr) (i : Nat) (h : i < l.length) : (srs l)[i * 2 + 1]? = some (.int .u8 (l[i].2.toNat : Int)) := by
  induction l generalizing i with
  | nil => simp at h
  | cons s l ih =>
    cases i with
    | zero => rfl
    | succ i => rw [show (i + 1) * 2 + 1 = i * 2 + 1 + 1 + 1 by omega]; simpa [srs] using ih i (by simpa using h)
theorem srs_oneC (l : List Sr) : ∀ y, y ∈ srs l → y.oneCell' = true := by
  induction l with
  | nil => intro y hy; simp [srs] at hy
  | cons s l ih =>
    intro y hy
    simp only [srs, List.mem_cons] at hy
    rcases hy with rfl | rfl | hy
    · rfl
    · rfl
    · exact ih y hy
theorem srs_set (l : List Sr) (i : Nat) (x : Sr) (h : i < l.length) : ((srs l).set (i * 2) (.int .u8 (x.1.toNat : Int))).set (i * 2 + 1) (.int .u8 (x.2.toNat : Int)) = srs (l.set i x) := by
  induction l generalizing i with
  | nil => simp at h
  | cons s l ih =>
    cases i with
    | zero => rfl
    | succ i =>
      rw [show (i + 1) * 2 = i * 2 + 1 + 1 by omega]
      simp only [srs, List.set_cons_succ, ih i (by simpa using h)]
/-- the value v is seen in w as the shards l -/
def SeenR (w : World) (v : Value) (l : List Sr) : Prop :=
  ∃ A c, v = .slice A l.length c ∧ l.length ≤ c ∧ c ≤ maxLen ∧ (0 < l.length → ∃ b off, A = some ⟨b, off, none⟩ ∧ b < w.heap.size ∧ ∀ i s, l[i]? = some s → w.cell? ⟨b, off + i * 2, none⟩ = some (.int .u8 (s.1.toNat : Int)) ∧ w.cell? ⟨b, off + i * 2 + 1, none⟩ = some (.int .u8 (s.2.toNat : Int)))
/-- a row of shards of the call's own, its block from lo to hi -/
def OwnSr (E : TypeId) (w : World) (lo hi : Nat) (v : Value) (l : List Sr) : Prop := w.ownsRow lo E 2 v l.length (srs l) ∧ hi ≤ w.heap.size ∧ ∀ g, v.ownBlock = some g → g < hi
section
variable {w w' : World} {lo hi a b : Nat} {v : Value} {l : List Sr} {E : TypeId}
theorem SeenR.below (h : SeenR w v l) (hb : Below w.heap.size w w') : SeenR w' v l := by
  obtain ⟨A, c, rfl, h1, h2, h3⟩ := h
  refine ⟨A, c, rfl, h1, h2, fun hn => ?_⟩
  obtain ⟨b, off, rfl, hb', hc⟩ := h3 hn
  exact ⟨b, off, rfl, Nat.lt_of_lt_of_le hb' hb.size, fun i s hi => ⟨(hb.cell (p := ⟨b, off + i * 2, none⟩) hb').trans (hc i s hi).1, (hb.cell (p := ⟨b, off + i * 2 + 1, none⟩) hb').trans (hc i s hi).2⟩⟩
theorem SeenR.len (h : SeenR w v l) : ∃ A c, v = .slice A l.length c := by
  obtain ⟨A, c, h, _⟩ := h
  exact ⟨A, c, h⟩
theorem SeenR.nil (w : World) : SeenR w (.slice none 0 0) [] := ⟨none, 0, rfl, Nat.le_refl _, Nat.zero_le _, fun h => by simp at h⟩
theorem owns_turnR {size n : Nat} {xs : List Value} (h : w.ownsRow lo E size v n xs) (h2 : ∀ g, v.ownBlock = some g → g < hi) (t : TurnIn a b w w') (d : hi ≤ a ∨ b ≤ lo) : w'.ownsRow lo E size v n xs := by
  refine ⟨h.1, ?_⟩
  rcases h.2 with hn | ⟨g, cap, cur, rfl, hbg, hg, rest⟩
  · exact .inl hn
  · refine .inr ⟨g, cap, cur, rfl, hbg, ?_, rest⟩
    have := h2 g rfl
    rw [t.block g (Array.getElem?_eq_some_iff.1 hg).1 (by omega)]
    exact hg
theorem OwnSr.keep (h : OwnSr E w lo hi v l) (t : TurnIn a b w w') (d : hi ≤ a ∨ b ≤ lo) : OwnSr E w' lo hi v l :=
  ⟨owns_turnR h.1 h.2.2 t d, Nat.le_trans h.2.1 t.size, h.2.2⟩
theorem OwnSr.seen (h : OwnSr E w lo hi v l) : SeenR w v l := by
  obtain ⟨h1, h2, h3⟩ := h
  rcases h1.2 with ⟨rfl, hn⟩ | ⟨g, cap, cur, rfl, hb, hg, hnc, hcm, hcs, ht⟩
  · have : l = [] := List.eq_nil_of_length_eq_zero hn
    subst this
    exact SeenR.nil w
  · refine ⟨_, cap, rfl, hnc, hcm, fun hn => ⟨g, 0, rfl, (Array.getElem?_eq_some_iff.1 hg).1, fun i s hs => ?_⟩⟩
    obtain ⟨hi, rfl⟩ := List.getElem?_eq_some_iff.1 hs
    have e1 := h1.cells (g := g) rfl (i * 2) _ (srs_no l i hi)
    have e2 := h1.cells (g := g) rfl (i * 2 + 1) _ (srs_data l i hi)
    rw [Addr.add_lit, Nat.zero_add] at e1 e2
    exact ⟨by rw [Nat.zero_add]; exact e1, by rw [Nat.zero_add]; exact e2⟩
theorem OwnSr.nil (E : TypeId) (w : World) (lo : Nat) : OwnSr E w lo w.heap.size (.slice none 0 0) [] := ⟨World.ownsRow_nil _ _ _ _, Nat.le_refl _, fun g h => by simp [Value.ownBlock] at h⟩
theorem OwnSr.of_made (h : w'.ownsRow w.heap.size E 2 v l.length (srs l)) : OwnSr E w' w.heap.size w'.heap.size v l := ⟨h, Nat.le_refl _, fun g hg => (h.lt g hg).2⟩
end
def RetSrs (E : TypeId) (w : World) (l : List Sr) (e : Ending) (w' : World) : Prop := ∃ v, e = .returned v ∧ OwnSr E w' w.heap.size w'.heap.size v l ∧ TurnIn 0 0 w w'
def RetSrsOk (E : TypeId) (w : World) (l : List Sr) (ok : Bool) (e : Ending) (w' : World) : Prop := ∃ v, e = .returned (.tuple #[v, .bool ok]) ∧ OwnSr E w' w.heap.size w'.heap.size v l ∧ TurnIn 0 0 w w'
/-- the shards that marks write -/
def marksR (k n : Nat) : List Sr := (List.range n).map fun i => (UInt8.ofNat (k + i * 2), UInt8.ofNat (k + i * 2 + 1))
@[simp] theorem marksR_length (k n : Nat) : (marksR k n).length = n := by simp [marksR]
theorem marksR_get (k n i : Nat) (h : i < (marksR k n).length) : (marksR k n)[i] = (UInt8.ofNat (k + i * 2), UInt8.ofNat (k + i * 2 + 1)) := by simp [marksR]
def RetMarkR (E : TypeId) (w : World) (lo hi : Nat) (v : Value) (k n : Nat) (e : Ending) (w' : World) : Prop :=
  e = .returned (.int .i64 ((k + n * 2 : Nat) : Int)) ∧ OwnSr E w' lo hi v (marksR k n) ∧ TurnIn lo hi w w'
theorem ofNat_int (m : Nat) : ((UInt8.ofNat m).toNat : Int) = (m : Int) % 256 := by rw [UInt8.toNat_ofNat']; omega
end G294

/- append of one share, of bytes: onto a row of the call's own. -/
namespace G294
open Go Go.RowKit
theorem pair_cells {w : World} {g : Nat} {p q : UInt8} (hc0 : w.cell? ⟨g, 0, none⟩ = some (.int .u8 (p.toNat : Int))) (hc1 : w.cell? ⟨g, 1, none⟩ = some (.int .u8 (q.toNat : Int))) :
    ∀ j u, [Value.int .u8 (p.toNat : Int), Value.int .u8 (q.toNat : Int)][j]? = some u → w.cell? ((⟨g, 0, none⟩ : Addr).add j) = some u := by
  intro j u hj
  rw [Addr.add_lit, Nat.zero_add]
  match j, hj with
  | 0, hj => simp only [List.getElem?_cons_zero, Option.some.injEq] at hj; subst hj; exact hc0
  | 1, hj => simp only [List.getElem?_cons_succ, List.getElem?_cons_zero, Option.some.injEq] at hj; subst hj; exact hc1
theorem pair_one (p q : UInt8) : ∀ u ∈ [Value.int .u8 (p.toNat : Int), Value.int .u8 (q.toNat : Int)], u.oneCell' = true := by
  intro u hu
  simp only [List.mem_cons, List.not_mem_nil, or_false] at hu
  rcases hu with rfl | rfl <;> rfl
theorem srs_snoc (l : List Sr) (p q : UInt8) : srs (l ++ [(p, q)]) = srs l ++ [.int .u8 (p.toNat : Int), .int .u8 (q.toNat : Int)] := by rw [srs_append]; rfl
/-- a row of one element that was laid just now -/
theorem own_new1 (w : World) (e : TypeId) (x : Value) : (w.alloc (.cells #[x] e)).ownsRow w.heap.size e 1 (.slice (some ⟨w.heap.size, 0, none⟩) 1 1) 1 [x] :=
  ⟨rfl, .inr ⟨w.heap.size, 1, #[x], rfl, Nat.le_refl _, heap_alloc_new w _, Nat.le_refl _, by unfold maxLen; omega, rfl, rfl⟩⟩
theorem cell_set2 {w : World} {B o g a b : Nat} {x p q : Value} (h : w.cell? ⟨B, o, none⟩ = some x) (hne : g ≠ B) : ((w.setCell ⟨g, a, none⟩ p).setCell ⟨g, b, none⟩ q).cell? ⟨B, o, none⟩ = some x := by
  rw [World.cell?_setCell_other _ _ _ _ (fun e => hne (by cases e; rfl)), World.cell?_setCell_other _ _ _ _ (fun e => hne (by cases e; rfl))]; exact h
theorem turn_grow {w w1 w2 : World} (k : TurnIn 0 0 w w1) {row : Option Nat} (hg : w1.grownBy w2 row) (hr : ∀ g, row = some g → w.heap.size ≤ g) : TurnIn 0 0 w w2 :=
  ⟨hg.os.trans k.os, hg.tape.trans k.tape, hg.output.trans k.output, Nat.le_trans k.size hg.size, fun j hj _ => (hg.block j (by have := k.size; omega) (fun e => by have := hr j e.symm; omega)).trans (k.block j hj (by omega))⟩
theorem grow_turn {w w2 : World} {base n size : Nat} {e : TypeId} {v : Value} {xs : List Value} (hown : w.ownsRow base e size v n xs) (hg : w.grownBy w2 v.ownBlock) : TurnIn base w.heap.size w w2 :=
  TurnIn.of_grown hg fun g e => hown.lt g e
/-- one share stored into a row of shares -/
theorem row_pair {w : World} {base g m cp k : Nat} {E : TypeId} {L : List Sr} (ho : w.ownsRow base E 2 (.slice (some ⟨g, 0, none⟩) m cp) m (srs L)) (hk : k < m) (x y : UInt8) :
    (∃ a b : UInt8, w.cell? ⟨g, k * 2, none⟩ = some (.int .u8 (a.toNat : Int)) ∧ w.cell? ⟨g, k * 2 + 1, none⟩ = some (.int .u8 (b.toNat : Int))) ∧ w.frozen? ⟨g, k * 2, none⟩ = false ∧ w.frozen? ⟨g, k * 2 + 1, none⟩ = false ∧
    ((w.setCell ⟨g, k * 2, none⟩ (.int .u8 (x.toNat : Int))).setCell ⟨g, k * 2 + 1, none⟩ (.int .u8 (y.toNat : Int))).ownsRow base E 2 (.slice (some ⟨g, 0, none⟩) m cp) m (srs (L.set k (x, y))) := by
  have hL : L.length = m := by have := ho.1; simp at this; omega
  have hkl : k < L.length := by omega
  have hst := ho.stored (k * 2) (.int .u8 (x.toNat : Int))
  have hst2 := hst.1.stored (k * 2 + 1) (.int .u8 (y.toNat : Int))
  rw [srs_set _ k (x, y) hkl] at hst2
  exact ⟨⟨L[k].1, L[k].2, by rw [ho.cellAt (k * 2) (by omega), srs_no _ k hkl], by rw [ho.cellAt (k * 2 + 1) (by omega), srs_data _ k hkl]⟩, ho.frozenAt _, ho.frozenAt _, hst2.1⟩
section
variable {P : Program} {w : World} {ops : Array Oper} {rest : List Oper} {o : Oper} {a : Act} {K : Act → World → Prop} {Q : Exit → Act → World → Prop} {E : Prop}
/-- append(s, share) -/
theorem wpList_appendR (hgd : o.guard = none) (s x : Operand) (t : TypeId) (ho : o.op = .call { callee := .builtin .append, args := #[s, x], argTypes := #[t, t] })
    (base : Nat) (e : TypeId) (z : Value) (bytes : Nat) (ht : P.underlying t = some (.slice e)) (hinfo : (P.info? e).map (fun i => (i.zero, i.size, i.bytes)) = some (some z, 2, bytes)) (hzs : z.cells.size = 2)
    (v : Value) (n : Nat) (l : List Sr) (hs : a.eval s = v) (hown : w.ownsRow base e 2 v n (srs l))
    (g : Nat) (p q : UInt8) (hx : a.eval x = .slice (some ⟨g, 0, none⟩) 1 1) (hc0 : w.cell? ⟨g, 0, none⟩ = some (.int .u8 (p.toNat : Int))) (hc1 : w.cell? ⟨g, 1, none⟩ = some (.int .u8 (q.toNat : Int)))
    (hn : n ≤ 1000000000) (hby : bytes ≤ 1000) (hbase : base ≤ w.heap.size)
    (h : ∀ v' w', w'.ownsRow base e 2 v' (n + 1) (srs (l ++ [(p, q)])) → w.grownBy w' v.ownBlock → (v'.ownBlock = v.ownBlock ∨ v'.ownBlock = some w.heap.size) → wpList P ops Q rest (a.put o.dst v') w') :
    wpList P ops Q (o :: rest) a w := by
  obtain ⟨i, hi, hz, hsz, hbs⟩ := info_parts hinfo
  refine wpList_append_own_at w hgd s x t ho base e i z 2 bytes ht hi hz hsz hbs hzs (by omega) v n (srs l) hs hown ⟨g, 0, none⟩ 1 1 _ hx rfl (pair_cells hc0 hc1) (pair_one p q) ?_ ?_ hbase (fun v' w' h2 h3 _ h5 => h v' w' (by rw [srs_snoc]; exact h2) h3 h5)
  · unfold maxLen; omega
  · have : (n + 1) * bytes ≤ 1000000001 * 1000 := Nat.mul_le_mul (by omega) hby
    omega
/-- the same, as one step of a region that draws its order -/
theorem step_appendR (hgd : o.guard = none) (s x : Operand) (t : TypeId) (ho : o.op = .call { callee := .builtin .append, args := #[s, x], argTypes := #[t, t] })
    (base : Nat) (e : TypeId) (z : Value) (bytes : Nat) (ht : P.underlying t = some (.slice e)) (hinfo : (P.info? e).map (fun i => (i.zero, i.size, i.bytes)) = some (some z, 2, bytes)) (hzs : z.cells.size = 2)
    (v : Value) (n : Nat) (l : List Sr) (hs : a.eval s = v) (hown : w.ownsRow base e 2 v n (srs l))
    (g : Nat) (p q : UInt8) (hx : a.eval x = .slice (some ⟨g, 0, none⟩) 1 1) (hc0 : w.cell? ⟨g, 0, none⟩ = some (.int .u8 (p.toNat : Int))) (hc1 : w.cell? ⟨g, 1, none⟩ = some (.int .u8 (q.toNat : Int)))
    (hn : n ≤ 1000000000) (hby : bytes ≤ 1000) (hbase : base ≤ w.heap.size)
    (h : ∀ v' w', w'.ownsRow base e 2 v' (n + 1) (srs (l ++ [(p, q)])) → w.grownBy w' v.ownBlock → (v'.ownBlock = v.ownBlock ∨ v'.ownBlock = some w.heap.size) → K (a.put o.dst v') w') :
    if Region.wanted o (yielded ops a.tmps) = true then Oper.wp P o a w K Q else E := by
  have hw : Region.wanted o (yielded ops a.tmps) = true := by simp [Region.wanted, hgd]
  rw [if_pos hw]
  obtain ⟨i, hi, hz, hsz, hbs⟩ := info_parts hinfo
  obtain ⟨v', w', hrun, r1, r2, _, r4⟩ := run_append_own_at (P := P) w base t o.type e i z 2 bytes ht hi hz hsz hbs hzs (by omega) v n (srs l) hown ⟨g, 0, none⟩ 1 1 _ rfl (pair_cells hc0 hc1) (pair_one p q) (by unfold maxLen; omega) (by
    have : (n + 1) * bytes ≤ 1000000001 * 1000 := Nat.mul_le_mul (by omega) hby
    omega) hbase
  unfold Oper.wp execOp
  simp only [ho, resolve, invoke, builtin, Sem.run_bind, Sem.run_pure, Result.andThen_ok, List.map_toArray, List.map_cons, List.map_nil, hs, hx, hrun]
  exact h v' w' (by rw [srs_snoc]; exact r1) r2 r4
/-- a slice of no element without an array has no room -/
def NilOk (v : Value) : Prop := ∀ c, v = .slice none 0 c → c = 0
theorem OwnBytes.nilOk {F : TypeId} {lo hi : Nat} {v : Value} {l : List UInt8} (h : OwnBytes F w lo hi v l) : NilOk v := fun c e => by
  rcases h.1.2 with ⟨rfl, _⟩ | ⟨g, cap, cur, rfl, _⟩
  · simp only [Value.slice.injEq] at e; omega
  · simp at e
/-- append(s, bytes...) -/
theorem wpList_appendB (hgd : o.guard = none) (s x : Operand) (t : TypeId) (ho : o.op = .call { callee := .builtin .append, args := #[s, x], argTypes := #[t, t] })
    (base : Nat) (e : TypeId) (ht : P.underlying t = some (.slice e)) (hinfo : (P.info? e).map (fun i => (i.zero, i.size, i.bytes)) = some (some (.int .u8 0), 1, 1))
    (v : Value) (n : Nat) (l m : List UInt8) (hs : a.eval s = v) (hown : w.ownsRow base e 1 v n (bys l)) (u : Value) (hx : a.eval x = u) (hu : Seen w u (bys m)) (hN : NilOk u)
    (hn : n + m.length ≤ 1000000000) (hbase : base ≤ w.heap.size)
    (h : ∀ v' w', w'.ownsRow base e 1 v' (n + m.length) (bys (l ++ m)) → w.grownBy w' v.ownBlock → wpList P ops Q rest (a.put o.dst v') w') :
    wpList P ops Q (o :: rest) a w := by
  obtain ⟨i, hi, hz, hsz, hbs⟩ := info_parts hinfo
  obtain ⟨A, c, rfl, hlc, hcm, hc⟩ := hu
  rw [bys_length] at *
  cases A with
  | none =>
    have hm0 : m.length = 0 := by
      rcases Nat.eq_zero_or_pos m.length with h' | h'
      · exact h'
      · obtain ⟨b, off, e', _⟩ := hc h'; simp at e'
    have hc0 := hN c (by rw [hm0])
    have hm : m = [] := List.eq_nil_of_length_eq_zero hm0
    subst hm hc0
    refine wpList_append_own_none hgd s x t ho base e i 1 ht hi v n (bys l) hs hown hx (h v w (by simpa using hown) (World.grownBy.refl _ _))
  | some ad =>
    refine wpList_append_own_at w hgd s x t ho base e i _ 1 1 ht hi hz hsz hbs rfl (by omega) v n (bys l) hs hown ad m.length c (bys m) hx (by simp) (fun j y hj => ?_) (fun y hy => bys_one y m hy) (by unfold maxLen; omega) (by omega) hbase (fun v' w' h2 h3 _ h5 => h v' w' (by rw [bys_append]; exact h2) h3)
    have hj' : j < m.length := by have := (List.getElem?_eq_some_iff.1 hj).1; simpa using this
    obtain ⟨b, off, e', _, hcc⟩ := hc (by omega)
    simp only [Option.some.injEq] at e'
    subst e'
    rw [Addr.add_lit]
    exact hcc j y hj
end
end G294

/- Chapter 12: PackRuns, the program's and the model's. -/
namespace G294
open Go Go.RowKit
def pkdR (l : List Ru) : List UInt8 := if goodRs l = true then pkOf l else []
theorem pkdR_yes {l : List Ru} (h : goodRs l = true) : pkdR l = pkOf l := if_pos h
theorem pkdR_no {l : List Ru} (h : goodRs l = false) : pkdR l = [] := if_neg (by rw [h]; decide)
theorem pk_at {l : List Ru} {k : Nat} {no : UInt8} {y : Int} (h : l[k]? = some (no, y)) : pkOf (l.take (k + 1)) = pkOf (l.take k) ++ pkOne (no, y) := by
  obtain ⟨hk, e⟩ := List.getElem?_eq_some_iff.1 h
  rw [pkOf_take hk, e]
theorem good_at {l : List Ru} {k : Nat} {no : UInt8} {y : Int} (hg : goodRs l = true) (h : l[k]? = some (no, y)) : 1 ≤ y ∧ y ≤ 200 := by
  have hm : (no, y) ∈ l := List.mem_of_getElem? h
  exact ⟨good_long hg hm, good_upper hg hm⟩
theorem pk_len {l : List Ru} (hg : goodRs l = true) {k : Nat} (hk : k ≤ l.length) : (pkOf (l.take k)).length ≤ 600 := by
  have h1 := pkTake_le hg hk
  have h2 := good_sum hg
  omega
theorem growTu {w w1 w2 : World} {row : Option Nat} (t : TurnIn 0 0 w w1) (hg : w1.grownBy w2 row) (hr : ∀ g, row = some g → w.heap.size ≤ g) : TurnIn 0 0 w w2 :=
  TurnIn.of_below (t.to_below.grown hg t.size hr)
theorem alloc_ru0 (w : World) (u v : Value) (T : TypeId) : (w.alloc (.cells #[u, v] T)).cell? ⟨w.heap.size, 0, none⟩ = some u := by simp
theorem alloc_ru1 (w : World) (u v : Value) (T : TypeId) : (w.alloc (.cells #[u, v] T)).cell? ⟨w.heap.size, 1, none⟩ = some v := by simp
theorem alloc_ruL (w : World) (o : Obj) : w.heap.size < (w.alloc o).heap.size := by rw [World.size_alloc]; omega
theorem seen_new2 (w : World) (e : TypeId) (a b : UInt8) (x y : Int) (hx : (a.toNat : Int) = x) (hy : (b.toNat : Int) = y) : Seen (w.alloc (.cells #[.int .u8 x, .int .u8 y] e)) (.slice (some ⟨w.heap.size, 0, none⟩) 2 2) (bys [a, b]) := by
  refine ⟨_, 2, rfl, Nat.le_refl _, by unfold maxLen; omega, fun _ => ⟨_, 0, rfl, alloc_ruL _ _, fun i u hu => ?_⟩⟩
  subst hx hy
  match i, hu with
  | 0, hu => simp only [bys, List.map_cons, List.getElem?_cons_zero, Option.some.injEq] at hu; subst hu; simp
  | 1, hu => simp only [bys, List.map_cons, List.getElem?_cons_succ, List.getElem?_cons_zero, Option.some.injEq] at hu; subst hu; simp
end G294
namespace Go.Proofs.Ytdbgkpmdimapdaa
open Go.RowKit G294

set_option maxRecDepth 100000 in
set_option maxHeartbeats 4000000 in
theorem l12Pack_own (v : Value) (l : List Ru) (w : World) (hv : SeenRu w v l) (hg : goodRs l = true) : Calls Try.prog 84 #[v] w (RetStr w (pkOf l)) := by
  have HRB := Lib.hid (fun k no y h => @good_at l k no y hg h)
  have HPL := Lib.hid (fun k h => @pk_len l hg k h)
  clear hg
  obtain ⟨A, c, rfl, hlc, hcm, hx⟩ := hv
  unfold maxLen at hcm
  generalize hnn : l.length = n at *
  have HN := Lib.hid hnn
  have HTA : Hid (pkOf (l.take n) = pkOf l) := by show _ = _; rw [← hnn, List.take_length]
  clear hnn
  have HOW0 : Hid (w.ownsRow w.heap.size 5 1 (.slice none 0 0) (pkOf (l.take 0)).length (bys (pkOf (l.take 0)))) := by
    show World.ownsRow _ _ _ _ _ _ _
    exact World.ownsRow_nil _ _ _ _
  go_enter Try.func84, Try.ntmps84
  go_wp2_with fail
  go_loopw [3, 8] (fun v y wr => ∃ k : Nat, k ≤ n ∧ y = .int .i64 k ∧ Hid (wr.ownsRow w.heap.size 5 1 v (pkOf (l.take k)).length (bys (pkOf (l.take k)))) ∧ Hid (TurnIn 0 0 w wr)) (fun _ y _ => n - (intOf y).toNat)
  case atStart => exact ⟨0, Nat.zero_le _, rfl, HOW0, Lib.hid (TurnIn.refl _)⟩
  case round =>
    clear HOW0
    obtain ⟨k, hk, rfl, HBr, HK⟩ := hrel
    by_cases hlt : k < n
    · have hki : (k : Int) < (n : Int) := by omega
      have hwr := HK.out.size
      obtain ⟨b, off, rfl, hbl, hcell⟩ := hx (by omega)
      obtain ⟨⟨no, y⟩, hks⟩ := at_ltRu HN.out hlt
      have hy := HRB.out k no y hks
      have hpl := HPL.out k hk
      have HPS := Lib.hid (@pk_at l k no y hks)
      have hb := HK.out.to_below
      have hc1 := (hb.cell (p := ⟨b, off + k * 2, none⟩) hbl).trans (hcell k _ hks).1
      have hc2 := (hb.cell (p := ⟨b, off + k * 2 + 1, none⟩) hbl).trans (hcell k _ hks).2
      simp only at hc1 hc2
      clear hcell hx hks hb
      generalize pkOf (l.take k) = P at *
      have HNE := Lib.hid (fun g e => (HBr.out.lt g e).2)
      have HGE := Lib.hid (fun g e => (HBr.out.lt g e).1)
      have HO2 := Lib.hid ((HBr.out.alloc (.cells #[.int .u8 (no.toNat : Int), .int .i64 y] 86)).alloc (.cells #[.int .u8 (no.toNat : Int)] 5))
      have KA := Lib.hid (turn_trans (turn_trans HK.out (turn_alloc wr (.cells #[.int .u8 (no.toNat : Int), .int .i64 y] 86)) (by omega)) (turn_alloc _ (.cells #[.int .u8 (no.toNat : Int)] 5)) (by omega))
      have HC0 : Hid (((wr.alloc (.cells #[.int .u8 (no.toNat : Int), .int .i64 y] 86)).alloc (.cells #[.int .u8 (no.toNat : Int)] 5)).cell? ⟨wr.heap.size, 0, none⟩ = some (.int .u8 (no.toNat : Int))) := Lib.hid (cell_turn (turn_alloc _ _) (alloc_ru0 _ _ _ _) (alloc_ruL _ _))
      have HC1 : Hid (((wr.alloc (.cells #[.int .u8 (no.toNat : Int), .int .i64 y] 86)).alloc (.cells #[.int .u8 (no.toNat : Int)] 5)).cell? ⟨wr.heap.size, 1, none⟩ = some (.int .i64 y)) := Lib.hid (cell_turn (turn_alloc _ _) (alloc_ru1 _ _ _ _) (alloc_ruL _ _))
      clear HBr
      go_wp2_with (at_builtin; refine wpList_append1 rfl _ _ _ rfl w.heap.size 5 _ _ Try.underlying22 infoByte rfl _ P.length _ rfl HO2.out _ (.int .u8 (no.toNat : Int)) rfl ?c1 rfl ?c2 ?c3 ?c4 ?_)
      case c1 => simp
      case c2 => omega
      case c3 => omega
      case c4 => simp; omega
      intro v' w3 hown3 hg3 _
      have K3 := Lib.hid (growTu KA.out hg3 (fun g e => HGE.out g e))
      have d0 : w3.cell? ⟨wr.heap.size, 0, none⟩ = some (.int .u8 (no.toNat : Int)) := hg3.cell HC0.out (fun e => Nat.lt_irrefl _ (HNE.out _ e.symm))
      have d1 : w3.cell? ⟨wr.heap.size, 1, none⟩ = some (.int .i64 y) := hg3.cell HC1.out (fun e => Nat.lt_irrefl _ (HNE.out _ e.symm))
      have HO3 : Hid (w3.ownsRow w.heap.size 5 1 v' (P ++ [no]).length (bys (P ++ [no]))) := by
        show World.ownsRow _ _ _ _ _ _ _
        rw [bys_append, List.length_append]; exact hown3
      have hw3 := K3.out.size
      clear hown3 hg3 HO2 KA HC0 HC1 HNE HGE
      by_cases h2 : 2 ≤ y
      · have h2' : 1 < y := by omega
        have HE : Hid (pkOf (l.take (k + 1)) = P ++ [no] ++ [no, UInt8.ofNat (y - 2).toNat]) := by show _ = _; rw [HPS.out, pkOne, if_pos h2, List.append_assoc]; rfl
        have hcv : ((UInt8.ofNat (y - 2).toNat).toNat : Int) = y - 2 := by rw [UInt8.toNat_ofNat']; omega
        have HS := Lib.hid (seen_new2 w3 5 no (UInt8.ofNat (y - 2).toNat) _ _ rfl hcv)
        have HO4 := Lib.hid (HO3.out.alloc (.cells #[.int .u8 (no.toNat : Int), .int .u8 (y - 2)] 5))
        have K4 := Lib.hid (turn_trans K3.out (turn_alloc w3 (.cells #[.int .u8 (no.toNat : Int), .int .u8 (y - 2)] 5)) (by omega))
        clear hcv
        go_wp2_with (at_builtin; refine wpList_appendB rfl _ _ _ rfl w.heap.size 5 Try.underlying22 infoByte _ _ _ _ rfl HO4.out _ rfl HS.out ?c7 ?c5 ?c6 ?_)
        case c7 => show NilOk (.slice (some ⟨w3.heap.size, 0, none⟩) 2 2); intro c e; cases e
        case c5 => simp; omega
        case c6 => simp; omega
        intro v'' w5 hown5 hg5
        have K5 := Lib.hid (growTu K4.out hg5 (fun g e => (HO4.out.lt g e).1))
        have HO5 : Hid (w5.ownsRow w.heap.size 5 1 v'' (pkOf (l.take (k + 1))).length (bys (pkOf (l.take (k + 1))))) := by
          show World.ownsRow _ _ _ _ _ _ _
          rw [HE.out]; simpa using hown5
        clear hown5 hg5 HO4 K4 HO3
        go_wp2_with fail
        go_roundw
        case rel => exact ⟨k + 1, by omega, by go_num, HO5, K5⟩
        case measure => simp [intOf]; omega
      · have h2' : ¬ 1 < y := by omega
        have HO5 : Hid (w3.ownsRow w.heap.size 5 1 v' (pkOf (l.take (k + 1))).length (bys (pkOf (l.take (k + 1))))) := by
          show World.ownsRow _ _ _ _ _ _ _
          rw [HPS.out, pkOne, if_neg h2]; exact HO3.out
        clear HO3
        go_wp2_with fail
        go_roundw
        case rel => exact ⟨k + 1, by omega, by go_num, HO5, K3⟩
        case measure => simp [intOf]; omega
    · obtain rfl : k = n := by omega
      have hki : ¬ (k : Int) < (k : Int) := by omega
      have hseen := Seen.of_own HBr.out
      obtain ⟨A4, c4, h4⟩ := hseen.len
      rw [bys_length, HTA.out] at h4
      rw [HTA.out] at hseen
      subst h4
      have hconv := run_string_seen (P := Try.prog) 22 5 9 Try.underlying22 Try.underlying5 Try.underlying9 hseen
      clear HBr hseen
      go_wp2_with fail
      go_ret
      exact ⟨rfl, HK.out⟩

set_option maxHeartbeats 1000000 in
theorem sPackRuns_own (v : Value) (l : List Ru) (w : World) (hv : SeenRu w v l) : Calls Try.prog 57 #[v] w (RetStrOk w (pkdR l) (goodRs l)) := by
  have HG := Lib.hid (sGoodRuns_own v l w hv)
  by_cases h : goodRs l = true
  · have HO := Lib.hid h
    have HR := Lib.hid (pkdR_yes h)
    have HV := Lib.hid hv
    rw [HO.out] at HG
    rw [HR.out, HO.out]
    obtain ⟨A, c, rfl⟩ := hv.len
    clear h hv
    go_enter Try.func57, Try.ntmps57
    go_wp2_with fail
    refine HG.out.mono ?_
    rintro e w1 ⟨rfl, k1⟩
    have K1 := Lib.hid k1
    clear k1
    go_wp2_with fail
    refine (l12Pack_own _ l w1 (HV.out.below K1.out.to_below) HO.out).mono ?_
    rintro e w2 ⟨rfl, k2⟩
    have K2 := Lib.hid (turn_trans K1.out k2 (by omega))
    clear k2
    go_wp2_with fail
    go_ret2
    exact ⟨rfl, K2.out⟩
  · have HO : Hid (goodRs l = false) := by show _ = _; simpa using h
    have HR := Lib.hid (pkdR_no HO.out)
    rw [HO.out] at HG
    rw [HR.out, HO.out]
    obtain ⟨A, c, rfl⟩ := hv.len
    clear h hv
    go_enter Try.func57, Try.ntmps57
    go_wp2_with fail
    refine HG.out.mono ?_
    rintro e w1 ⟨rfl, k1⟩
    have K1 := Lib.hid k1
    clear k1
    go_wp2_with fail
    go_ret2
    exact ⟨rfl, K1.out⟩

set_option maxRecDepth 100000 in
set_option maxHeartbeats 4000000 in
theorem packRuns_own (v : Value) (l : List Ru) (w : World) (hv : SeenRu w v l) : Calls Try.prog 41 #[v] w (RetStrOk w (pkdR l) (goodRs l)) := by
  have HG := Lib.hid (goodRuns_own v l w hv)
  by_cases h : goodRs l = true
  · have HO := Lib.hid h
    have HR := Lib.hid (pkdR_yes h)
    rw [HO.out] at HG
    rw [HR.out, HO.out]
    have HRB := Lib.hid (fun k no y h' => @good_at l k no y h h')
    have HPL := Lib.hid (fun k h' => @pk_len l h k h')
    clear h
    obtain ⟨A, c, rfl, hlc, hcm, hx⟩ := hv
    unfold maxLen at hcm
    generalize hnn : l.length = n at *
    have HN := Lib.hid hnn
    have HTA : Hid (pkOf (l.take n) = pkOf l) := by show _ = _; rw [← hnn, List.take_length]
    clear hnn
    go_enter Try.func41, Try.ntmps41
    go_wp2_with fail
    refine HG.out.mono ?_
    rintro e w1 ⟨rfl, k1⟩
    have K1 := Lib.hid k1
    clear k1 HG
    have HOW0 : Hid (w1.ownsRow w.heap.size 5 1 (.slice none 0 0) (pkOf (l.take 0)).length (bys (pkOf (l.take 0)))) := by
      show World.ownsRow _ _ _ _ _ _ _
      exact World.ownsRow_nil _ _ _ _
    go_wp2_with fail
    go_loopw [4, 12] (fun v y wr => ∃ k : Nat, k ≤ n ∧ y = .int .i64 k ∧ Hid (wr.ownsRow w.heap.size 5 1 v (pkOf (l.take k)).length (bys (pkOf (l.take k)))) ∧ Hid (TurnIn 0 0 w wr)) (fun _ y _ => n - (intOf y).toNat)
    case atStart => exact ⟨0, Nat.zero_le _, rfl, HOW0, Lib.hid K1.out⟩
    case round =>
      clear HOW0
      obtain ⟨k, hk, rfl, HBr, HK⟩ := hrel
      by_cases hlt : k < n
      · have hki : (k : Int) < (n : Int) := by omega
        have hwr := HK.out.size
        obtain ⟨b, off, rfl, hbl, hcell⟩ := hx (by omega)
        obtain ⟨⟨no, y⟩, hks⟩ := at_ltRu HN.out hlt
        have hy := HRB.out k no y hks
        have hpl := HPL.out k hk
        have HPS := Lib.hid (@pk_at l k no y hks)
        have hb := HK.out.to_below
        have hc1 := (hb.cell (p := ⟨b, off + k * 2, none⟩) hbl).trans (hcell k _ hks).1
        have hc2 := (hb.cell (p := ⟨b, off + k * 2 + 1, none⟩) hbl).trans (hcell k _ hks).2
        simp only at hc1 hc2
        clear hcell hx hks hb
        generalize pkOf (l.take k) = P at *
        have HNE := Lib.hid (fun g e => (HBr.out.lt g e).2)
        have HGE := Lib.hid (fun g e => (HBr.out.lt g e).1)
        have HO2 := Lib.hid ((HBr.out.alloc (.cells #[.int .u8 (no.toNat : Int), .int .i64 y] 86)).alloc (.cells #[.int .u8 (no.toNat : Int)] 5))
        have KA := Lib.hid (turn_trans (turn_trans HK.out (turn_alloc wr (.cells #[.int .u8 (no.toNat : Int), .int .i64 y] 86)) (by omega)) (turn_alloc _ (.cells #[.int .u8 (no.toNat : Int)] 5)) (by omega))
        have HC0 : Hid (((wr.alloc (.cells #[.int .u8 (no.toNat : Int), .int .i64 y] 86)).alloc (.cells #[.int .u8 (no.toNat : Int)] 5)).cell? ⟨wr.heap.size, 0, none⟩ = some (.int .u8 (no.toNat : Int))) := Lib.hid (cell_turn (turn_alloc _ _) (alloc_ru0 _ _ _ _) (alloc_ruL _ _))
        have HC1 : Hid (((wr.alloc (.cells #[.int .u8 (no.toNat : Int), .int .i64 y] 86)).alloc (.cells #[.int .u8 (no.toNat : Int)] 5)).cell? ⟨wr.heap.size, 1, none⟩ = some (.int .i64 y)) := Lib.hid (cell_turn (turn_alloc _ _) (alloc_ru1 _ _ _ _) (alloc_ruL _ _))
        clear HBr
        go_wp2_with (at_builtin; refine wpList_append1 rfl _ _ _ rfl w.heap.size 5 _ _ Try.underlying22 infoByte rfl _ P.length _ rfl HO2.out _ (.int .u8 (no.toNat : Int)) rfl ?c1 rfl ?c2 ?c3 ?c4 ?_)
        case c1 => simp
        case c2 => omega
        case c3 => omega
        case c4 => simp; omega
        intro v' w3 hown3 hg3 _
        have K3 := Lib.hid (growTu KA.out hg3 (fun g e => HGE.out g e))
        have d0 : w3.cell? ⟨wr.heap.size, 0, none⟩ = some (.int .u8 (no.toNat : Int)) := hg3.cell HC0.out (fun e => Nat.lt_irrefl _ (HNE.out _ e.symm))
        have d1 : w3.cell? ⟨wr.heap.size, 1, none⟩ = some (.int .i64 y) := hg3.cell HC1.out (fun e => Nat.lt_irrefl _ (HNE.out _ e.symm))
        have HO3 : Hid (w3.ownsRow w.heap.size 5 1 v' (P ++ [no]).length (bys (P ++ [no]))) := by
          show World.ownsRow _ _ _ _ _ _ _
          rw [bys_append, List.length_append]; exact hown3
        have hw3 := K3.out.size
        clear hown3 hg3 HO2 KA HC0 HC1 HNE HGE
        by_cases h2 : 2 ≤ y
        · have h2' : 1 < y := by omega
          have HE : Hid (pkOf (l.take (k + 1)) = P ++ [no] ++ [no, UInt8.ofNat (y - 2).toNat]) := by show _ = _; rw [HPS.out, pkOne, if_pos h2, List.append_assoc]; rfl
          have hcv : ((UInt8.ofNat (y - 2).toNat).toNat : Int) = y - 2 := by rw [UInt8.toNat_ofNat']; omega
          have HS := Lib.hid (seen_new2 w3 5 no (UInt8.ofNat (y - 2).toNat) _ _ rfl hcv)
          have HO4 := Lib.hid (HO3.out.alloc (.cells #[.int .u8 (no.toNat : Int), .int .u8 (y - 2)] 5))
          have K4 := Lib.hid (turn_trans K3.out (turn_alloc w3 (.cells #[.int .u8 (no.toNat : Int), .int .u8 (y - 2)] 5)) (by omega))
          clear hcv
          go_wp2_with (at_builtin; refine wpList_appendB rfl _ _ _ rfl w.heap.size 5 Try.underlying22 infoByte _ _ _ _ rfl HO4.out _ rfl HS.out ?c7 ?c5 ?c6 ?_)
          case c7 => show NilOk (.slice (some ⟨w3.heap.size, 0, none⟩) 2 2); intro c e; cases e
          case c5 => simp; omega
          case c6 => simp; omega
          intro v'' w5 hown5 hg5
          have K5 := Lib.hid (growTu K4.out hg5 (fun g e => (HO4.out.lt g e).1))
          have HO5 : Hid (w5.ownsRow w.heap.size 5 1 v'' (pkOf (l.take (k + 1))).length (bys (pkOf (l.take (k + 1))))) := by
            show World.ownsRow _ _ _ _ _ _ _
            rw [HE.out]; simpa using hown5
          clear hown5 hg5 HO4 K4 HO3
          go_wp2_with fail
          go_roundw
          case rel => exact ⟨k + 1, by omega, by go_num, HO5, K5⟩
          case measure => simp [intOf]; omega
        · have h2' : ¬ 1 < y := by omega
          have HO5 : Hid (w3.ownsRow w.heap.size 5 1 v' (pkOf (l.take (k + 1))).length (bys (pkOf (l.take (k + 1))))) := by
            show World.ownsRow _ _ _ _ _ _ _
            rw [HPS.out, pkOne, if_neg h2]; exact HO3.out
          clear HO3
          go_wp2_with fail
          go_roundw
          case rel => exact ⟨k + 1, by omega, by go_num, HO5, K3⟩
          case measure => simp [intOf]; omega
      · obtain rfl : k = n := by omega
        have hki : ¬ (k : Int) < (k : Int) := by omega
        have hseen := Seen.of_own HBr.out
        obtain ⟨A4, c4, h4⟩ := hseen.len
        rw [bys_length, HTA.out] at h4
        rw [HTA.out] at hseen
        subst h4
        have hconv := run_string_seen (P := Try.prog) 22 5 9 Try.underlying22 Try.underlying5 Try.underlying9 hseen
        clear HBr hseen
        go_wp2_with fail
        go_ret2
        exact ⟨rfl, HK.out⟩
  · have HO : Hid (goodRs l = false) := by show _ = _; simpa using h
    have HR := Lib.hid (pkdR_no HO.out)
    rw [HO.out] at HG
    rw [HR.out, HO.out]
    obtain ⟨A, c, rfl⟩ := hv.len
    clear h hv
    go_enter Try.func41, Try.ntmps41
    go_wp2_with fail
    refine HG.out.mono ?_
    rintro e w1 ⟨rfl, k1⟩
    have K1 := Lib.hid k1
    clear k1
    go_wp2_with fail
    go_ret2
    exact ⟨rfl, K1.out⟩

end Go.Proofs.Ytdbgkpmdimapdaa

/- Shapes of codes: the program's goodDataCount and GoodShape, the model's GoodShape. -/
namespace G294
open Go Go.RowKit
def dataOk (k : Int) : Bool := decide (1 ≤ k ∧ k ≤ 8)
def shapeOk (k m : Int) : Bool := dataOk k && decide (1 ≤ m ∧ m ≤ 6)
theorem shapeOk_b {k m : Int} (h : shapeOk k m = true) : (1 ≤ k ∧ k ≤ 8) ∧ 1 ≤ m ∧ m ≤ 6 := by simpa [shapeOk, dataOk] using h
end G294
namespace Go.Proofs.Ytdbgkpmdimapdaa
open Go.RowKit G294

end Go.Proofs.Ytdbgkpmdimapdaa

/- The mathematics of SplitText and JoinShards. -/
namespace G294
open Go Go.RowKit
/-- the length of a part -/
def partSize (n k : Nat) : Nat := (n + k - 1) / k
def padded (s : List UInt8) (k : Nat) : List UInt8 := s ++ List.replicate (k * partSize s.length k - s.length) 0
def splitP (s : List UInt8) (k : Nat) (i : Nat) : List UInt8 := ((padded s k).drop (i * partSize s.length k)).take (partSize s.length k)
def splitL (s : List UInt8) (k : Nat) : List (List UInt8) := (List.range k).map (splitP s k)
def splitOk (s : List UInt8) (k : Int) : Bool := dataOk k && decide ((s.length : Int) ≤ k * 40)
def splitR (s : List UInt8) (k : Int) : List (List UInt8) := if splitOk s k then splitL s k.toNat else []
theorem partSize_mul (n k : Nat) (hk : 1 ≤ k) : n ≤ k * partSize n k := by
  unfold partSize
  have h := Nat.div_add_mod (n + k - 1) k
  have h2 := Nat.mod_lt (n + k - 1) (show 0 < k by omega)
  omega
theorem partSize_le (n k : Nat) (hk : 1 ≤ k) (h : n ≤ k * 40) : partSize n k ≤ 40 := by
  unfold partSize
  have h1 : n + k - 1 < 41 * k := by omega
  have := (Nat.div_lt_iff_lt_mul (show 0 < k by omega)).2 h1
  omega
theorem padded_length (s : List UInt8) (k : Nat) (hk : 1 ≤ k) : (padded s k).length = k * partSize s.length k := by
  have := partSize_mul s.length k hk
  simp [padded]; omega
theorem splitP_length (s : List UInt8) (k i : Nat) (hk : 1 ≤ k) (hi : i < k) : (splitP s k i).length = partSize s.length k := by
  unfold splitP
  rw [List.length_take, List.length_drop, padded_length s k hk]
  have : (i + 1) * partSize s.length k ≤ k * partSize s.length k := Nat.mul_le_mul_right _ hi
  rw [Nat.add_mul] at this
  omega
@[simp] theorem splitL_length (s : List UInt8) (k : Nat) : (splitL s k).length = k := by simp [splitL]
theorem splitL_succ (s : List UInt8) (k i : Nat) : (List.range (i + 1)).map (splitP s k) = (List.range i).map (splitP s k) ++ [splitP s k i] := by simp [List.range_succ]
theorem extract_str (l : List UInt8) (a b : Nat) : (str l).extract a b = str ((l.drop a).take (b - a)) := by
  apply ByteArray.ext
  rw [ByteArray.data_extract]
  apply Array.ext'
  simp [str]
end G294
