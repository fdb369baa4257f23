/- Joined texts: CauMath, ErrLaw, ErrLaw2, LocI. -/
import Derived.Test.YtblfobbeojdihaaGreatDoorBd01
import Derived.Test.YtblfobbeojdihaaGreatDoorBd08
import Derived.Test.YtblfobbeojdihaaGreatDoorBd06
import Derived.Test.YtblfobbeojdihaaGreatDoorBd05
import Derived.BigRegion
import Derived.Deep.RegionHeld3
set_option linter.unusedSimpArgs false
set_option linter.unusedVariables false
/- Cauchy's matrix has no kernel; any k rows of the code's matrix have none. -/
namespace G294
theorem gmul_left_comm (a b c : UInt8) : gmul a (gmul b c) = gmul b (gmul a c) := by rw [← gmul_assoc, gmul_comm a b, gmul_assoc]
/-- a sum over a list -/
def sumL {α : Type} (l : List α) (f : α → UInt8) : UInt8 := l.foldr (fun x s => f x ^^^ s) 0
@[simp] theorem sumL_nil {α : Type} (f : α → UInt8) : sumL [] f = 0 := rfl
@[simp] theorem sumL_cons {α : Type} (x : α) (l : List α) (f : α → UInt8) : sumL (x :: l) f = f x ^^^ sumL l f := rfl
theorem sumL_append {α : Type} (l m : List α) (f : α → UInt8) : sumL (l ++ m) f = sumL l f ^^^ sumL m f := by
  induction l with
  | nil => simp
  | cons x l ih => simp [ih, UInt8.xor_assoc]
theorem sumL_range (n : Nat) (f : Nat → UInt8) : sumL (List.range n) f = sumK n f := by
  induction n with
  | zero => rfl
  | succ n ih => rw [List.range_succ, sumL_append, ih]; simp [sumK]
theorem sumL_congr {α : Type} {l : List α} {f g : α → UInt8} (h : ∀ x ∈ l, f x = g x) : sumL l f = sumL l g := by
  induction l with
  | nil => rfl
  | cons x l ih => simp [h x (by simp), ih fun y hy => h y (by simp [hy])]
theorem sumL_xor {α : Type} (l : List α) (f g : α → UInt8) : sumL l (fun x => f x ^^^ g x) = sumL l f ^^^ sumL l g := by
  induction l with
  | nil => simp
  | cons x l ih => simp only [sumL_cons, ih]; exact x4 _ _ _ _
theorem sumL_mul {α : Type} (a : UInt8) (l : List α) (f : α → UInt8) : sumL l (fun x => gmul a (f x)) = gmul a (sumL l f) := by
  induction l with
  | nil => simp [gmul_zero]
  | cons x l ih => simp only [sumL_cons, ih, gmul_xor]
theorem sumL_filter {α : Type} (p : α → Bool) (l : List α) (f : α → UInt8) (h : ∀ x ∈ l, p x = false → f x = 0) : sumL (l.filter p) f = sumL l f := by
  induction l with
  | nil => rfl
  | cons x l ih =>
    have ih := ih fun y hy => h y (by simp [hy])
    cases e : p x with
    | true => simp [List.filter_cons, e, ih]
    | false => simp [List.filter_cons, e, ih, h x (by simp) e]
theorem sumL_zero {α : Type} (l : List α) : sumL l (fun _ => 0) = 0 := by
  induction l with
  | nil => rfl
  | cons x l ih => simp [ih]
theorem sumL_map {α β : Type} (g : α → β) (l : List α) (f : β → UInt8) : sumL (l.map g) f = sumL l (fun x => f (g x)) := by
  induction l with
  | nil => rfl
  | cons x l ih => simp [ih]
theorem cau_term {u v d : UInt8} (hu : u ≠ 0) (hv : v ≠ 0) : gmul (u ^^^ d) (ginv u) ^^^ gmul (v ^^^ d) (ginv v) = gmul (u ^^^ v) (gmul d (gmul (ginv v) (ginv u))) := by
  have e1 : gmul u (gmul d (gmul (ginv v) (ginv u))) = gmul d (ginv v) := by
    rw [gmul_left_comm u d, gmul_left_comm u (ginv v), gmul_ginv hu, gmul_one]
  have e2 : gmul v (gmul d (gmul (ginv v) (ginv u))) = gmul d (ginv u) := by
    rw [gmul_left_comm v d, ← gmul_assoc v, gmul_ginv hv, one_gmul]
  rw [xor_gmul, xor_gmul, xor_gmul, gmul_ginv hu, gmul_ginv hv, e1, e2, x4, x_self, UInt8.zero_xor, UInt8.xor_comm]
/-- Cauchy's matrix has no kernel -/
theorem cau_list : ∀ (ys xs : List UInt8) (a : UInt8 → UInt8), ys.length ≤ xs.length → xs.Nodup → ys.Nodup → (∀ x ∈ xs, ∀ y ∈ ys, x ≠ y) →
    (∀ x ∈ xs, sumL ys (fun y => gmul (a y) (ginv (x ^^^ y))) = 0) → ∀ y ∈ ys, a y = 0
  | [], _, _, _, _, _, _, _ => by simp
  | Y :: ys, [], _, h, _, _, _, _ => by simp at h
  | Y :: ys, X :: xs, a, hl, hx, hy, hd, hs => by
    have hx' := List.nodup_cons.1 hx
    have hy' := List.nodup_cons.1 hy
    have hXY : X ^^^ Y ≠ 0 := x_ne (hd X (by simp) Y (by simp))
    have mul : ∀ x ∈ X :: xs, a Y = sumL ys (fun y => gmul (a y) (gmul (x ^^^ Y) (ginv (x ^^^ y)))) := by
      intro x hx1
      have h1 := hs x hx1
      have hxY : x ^^^ Y ≠ 0 := x_ne (hd x hx1 Y (by simp))
      have h2 := congrArg (gmul (x ^^^ Y)) h1
      rw [sumL_cons, gmul_xor, gmul_zero, gmul_left_comm, gmul_ginv hxY, gmul_one, ← sumL_mul] at h2
      rw [x_eq h2]
      exact sumL_congr fun y _ => gmul_left_comm _ _ _
    have hb : ∀ y ∈ ys, gmul (a y) (gmul (y ^^^ Y) (ginv (X ^^^ y))) = 0 := by
      refine cau_list ys xs (fun y => gmul (a y) (gmul (y ^^^ Y) (ginv (X ^^^ y)))) (by simpa using hl) hx'.2 hy'.2 (fun x h1 y h2 => hd x (by simp [h1]) y (by simp [h2])) ?_
      intro x h1
      have hxX : x ^^^ X ≠ 0 := x_ne fun e => hx'.1 (e ▸ h1)
      have e := (mul x (by simp [h1])).symm.trans (mul X (by simp))
      have e2 : sumL ys (fun y => gmul (a y) (gmul (x ^^^ Y) (ginv (x ^^^ y))) ^^^ gmul (a y) (gmul (X ^^^ Y) (ginv (X ^^^ y)))) = 0 := by rw [sumL_xor, e, x_self]
      have e3 : sumL ys (fun y => gmul (x ^^^ X) (gmul (gmul (a y) (gmul (y ^^^ Y) (ginv (X ^^^ y)))) (ginv (x ^^^ y)))) = 0 := by
        rw [← e2]
        refine sumL_congr fun y h2 => ?_
        have n1 : x ^^^ y ≠ 0 := x_ne (hd x (by simp [h1]) y (by simp [h2]))
        have n2 : X ^^^ y ≠ 0 := x_ne (hd X (by simp) y (by simp [h2]))
        have t := cau_term (d := y ^^^ Y) n1 n2
        have w1 : x ^^^ y ^^^ (y ^^^ Y) = x ^^^ Y := by rw [UInt8.xor_assoc, ← UInt8.xor_assoc y y Y, x_self, UInt8.zero_xor]
        have w2 : X ^^^ y ^^^ (y ^^^ Y) = X ^^^ Y := by rw [UInt8.xor_assoc, ← UInt8.xor_assoc y y Y, x_self, UInt8.zero_xor]
        have w3 : x ^^^ y ^^^ (X ^^^ y) = x ^^^ X := by rw [x4, x_self, UInt8.xor_zero]
        rw [w1, w2, w3] at t
        rw [← gmul_xor, t]
        rw [gmul_assoc, gmul_assoc, gmul_left_comm (x ^^^ X) (a y)]
      rw [sumL_mul] at e3
      exact g_cancel hxX e3
    have ha : ∀ y ∈ ys, a y = 0 := fun y h2 => by
      have n1 : y ^^^ Y ≠ 0 := x_ne fun e => hy'.1 (e ▸ h2)
      have n2 : X ^^^ y ≠ 0 := x_ne (hd X (by simp) y (by simp [h2]))
      have := hb y h2
      rw [gmul_comm] at this
      exact g_cancel (g_ne n1 (ginv_ne n2)) this
    intro y h2
    rcases List.mem_cons.1 h2 with rfl | h2
    · rw [mul X (by simp), sumL_congr (g := fun _ => 0) (fun z hz => by rw [ha z hz, zero_gmul])]
      exact sumL_zero ys
    · exact ha y h2
theorem len_sub {α : Type} [DecidableEq α] : ∀ {l l' : List α}, l.Nodup → (∀ x ∈ l, x ∈ l') → l.length ≤ l'.length
  | [], _, _, _ => by simp
  | x :: l, l', hn, hs => by
    have h1 := List.nodup_cons.1 hn
    have hx := hs x (by simp)
    have := len_sub (l' := l'.erase x) h1.2 fun y hy => (List.mem_erase_of_ne (show y ≠ x from fun e => h1.1 (by rw [← e]; exact hy))).2 (hs y (by simp [hy]))
    rw [List.length_erase_of_mem hx] at this
    have : 0 < l'.length := List.length_pos_of_mem hx
    simp; omega
theorem len_parts {α : Type} (p : α → Bool) (l : List α) : (l.filter p).length + (l.filter fun x => !p x).length = l.length := by
  induction l with
  | nil => rfl
  | cons x l ih => cases e : p x <;> simp [List.filter_cons, e] <;> omega
end G294

/- Chapter 8's mathematics: code words and their distance, located and corrected errors (Peterson; Gorenstein and Zierler). -/
namespace G294
theorem powB_add (x : UInt8) (m n : Nat) : powB x (m + n) = gmul (powB x m) (powB x n) := by
  induction n with
  | zero => rw [Nat.add_zero, powB_zero, gmul_one]
  | succ n ih => rw [← Nat.add_assoc, powB_succ, ih, powB_succ, gmul_assoc]
theorem powB_pow (x : UInt8) (m n : Nat) : powB (powB x m) n = powB x (m * n) := by
  induction n with
  | zero => rw [Nat.mul_zero, powB_zero, powB_zero]
  | succ n ih => rw [powB_succ, ih, Nat.mul_succ, powB_add]
theorem powB_swap (x : UInt8) (m n : Nat) : powB (powB x m) n = powB (powB x n) m := by rw [powB_pow, powB_pow, Nat.mul_comm]
theorem powB_ne {x : UInt8} (h : x ≠ 0) (n : Nat) : powB x n ≠ 0 := by
  induction n with
  | zero => rw [powB_zero]; decide
  | succ n ih => rw [powB_succ]; exact g_ne ih h
theorem powB_inv {x : UInt8} (h : x ≠ 0) (n : Nat) : gmul (powB x n) (powB (ginv x) n) = 1 := by
  induction n with
  | zero => rw [powB_zero, powB_zero, gmul_one]
  | succ n ih =>
    rw [powB_succ, powB_succ, gmul_assoc, gmul_comm (powB (ginv x) n), ← gmul_assoc x, gmul_ginv h, one_gmul, ih]
theorem pow3_ne (n : Nat) : powB 3 n ≠ 0 := powB_ne (by decide) n
theorem pow3_inj {i j : Nat} (hi : i < 255) (hj : j < 255) (h : powB 3 i = powB 3 j) : i = j := by
  have := congrArg UInt8.toNat h
  rw [powB_toNat, powB_toNat] at this
  exact gp_inj hi hj this
theorem hor_sum (x : UInt8) (l : List UInt8) : hor x l = sumK l.length fun p => gmul (l.getD p 0) (powB x p) := by
  conv => lhs; rw [eq_mkRow l]
  rw [hor_mk]
  exact sumK_congr fun p _ => gmul_comm _ _
theorem hor_sum' (x : UInt8) (n : Nat) (f : Nat → UInt8) : hor x (mkRow n f) = sumK n fun p => gmul (f p) (powB x p) := by
  rw [hor_mk]; exact sumK_congr fun p _ => gmul_comm _ _
/-- a sum of powers that vanishes for the first m exponents vanishes for every polynomial -/
theorem poly_sum {n m : Nat} (c X : Nat → UInt8) (h : ∀ i, i < m → sumK n (fun p => gmul (c p) (powB (X p) (i + 1))) = 0) (l : List UInt8) (hl : l.length ≤ m) :
    sumK n (fun p => gmul (c p) (gmul (X p) (hor (X p) l))) = 0 := by
  have e : ∀ p, gmul (c p) (gmul (X p) (hor (X p) l)) = sumK l.length fun j => gmul (l.getD j 0) (gmul (c p) (powB (X p) (j + 1))) := fun p => by
    rw [gmul_comm (X p)]
    conv => lhs; rw [eq_mkRow l]
    rw [hor_up, ← sumK_mul]
    exact sumK_congr fun j _ => by rw [gmul_comm _ (l.getD j 0), gmul_left_comm]
  rw [sumK_congr (g := fun p => sumK l.length fun j => gmul (l.getD j 0) (gmul (c p) (powB (X p) (j + 1)))) (fun p _ => e p), sumK_swap]
  rw [sumK_congr (g := fun _ => 0) (fun j hj => by rw [sumK_mul, h j (by omega), gmul_zero]), sumK_zero]
/-- so every term of it vanishes -/
theorem dual_zero {n m : Nat} {c X : Nat → UInt8} (ha : apartX X n) (h0 : ∀ p, p < n → X p ≠ 0) (h : ∀ i, i < m → sumK n (fun p => gmul (c p) (powB (X p) (i + 1))) = 0) (hnm : n ≤ m) :
    ∀ q, q < n → c q = 0 := by
  intro q hq
  obtain ⟨l, hl, hv⟩ := (upK_poly X q n).2 hq
  replace hv : ∀ x, upK X q x n = hor x l := hv
  have hs := poly_sum c X h l (by omega)
  rw [sumK_one _ hq (fun p hp hne => by rw [← hv, upK_zero hne n hp, gmul_zero, gmul_zero]), ← hv, gmul_comm] at hs
  exact g_cancel (g_ne (h0 q hq) (upK_ne n fun j hj hne => apart_ne ha hq hj (Ne.symm hne))) hs
theorem full_ker {F : Ents} {n : Nat} {u : Nat → UInt8} (h : (est F n n).2 = n) (hk : kerAt F n n u) : ∀ j, j < n → u j = 0 := by
  intro j hj
  have e : sumK n (fun l => gmul (idF j l) (u l)) = u j := by
    rw [sumK_one _ hj (fun l _ hne => by simp [idF, show ¬ j = l from fun e => hne e.symm, zero_gmul])]
    simp [idF, one_gmul]
  rw [← e, sumK_congr (g := fun l => sumK n fun i => gmul (bst F idF n n j i) (gmul (F i l) (u l))) (fun l hl => by
    rw [← inv_left h hj hl, ← sumK_mulr]; exact sumK_congr fun i _ => gmul_assoc _ _ _), sumK_swap]
  rw [sumK_congr (g := fun _ => 0) (fun i hi => by rw [sumK_mul, hk i hi, gmul_zero]), sumK_zero]
/-- the one solution -/
theorem full_sol {F : Ents} {n : Nat} {b x : Nat → UInt8} (h : (est F n n).2 = n) (hx : ∀ i, i < n → sumK n (fun j => gmul (F i j) (x j)) = b i) {i : Nat} (hi : i < n) :
    bst F (fun i _ => b i) n n i 0 = x i := by
  rw [bst_lin F _ n n i 0 hi, sumK_congr (g := fun l => sumK n fun j => gmul (bst F idF n n i l) (gmul (F l j) (x j))) (fun l hl => by
    show gmul _ (b l) = _
    rw [← hx l hl, sumK_mul]), sumK_swap]
  rw [sumK_congr (g := fun j => gmul (idF i j) (x j)) (fun j hj => by
    rw [← inv_left h hi hj, ← sumK_mulr]; exact sumK_congr fun l _ => (gmul_assoc _ _ _).symm)]
  rw [sumK_one _ hi (fun l _ hne => by simp [idF, show ¬ i = l from fun e => hne e.symm, zero_gmul])]
  simp [idF, one_gmul]
/-- a polynomial times x + r has that value -/
theorem hor_mulR (x r : UInt8) (a : List UInt8) : hor x (mulR r a) = gmul (hor x a) (x ^^^ r) := by
  have e : mulR r a = addL (0 :: a) (scaleL r a ++ [0]) := by
    refine ext_getD (by rw [addL_lenS _ _ (by simp [scaleL])]; simp) fun j hj => ?_
    rw [mulR_getD r a j (by simpa using hj), addL_getD _ _ (by simp [scaleL])]
    congr 1
    · cases j <;> simp [List.getD]
    · rw [gmul_comm]
      rcases Nat.lt_or_ge j a.length with h | h
      · rw [← getD_scale]; simp [List.getD, List.getElem?_append, scaleL, h]
      · have hj' : j = a.length := by have : j < a.length + 1 := by simpa using hj
                                      omega
        subst hj'
        simp [List.getD, List.getElem?_append, scaleL, gmul_zero]
  rw [e, hor_addL _ _ _ (by simp [scaleL]), hor_cons0]
  have e2 : hor x (scaleL r a ++ [0]) = gmul r (hor x a) := by
    rw [hor_snoc, gmul_zero, UInt8.xor_zero, hor_scaleL]
  rw [e2, gmul_xor, gmul_comm r]
theorem mulR_monic (r : UInt8) (q : List UInt8) : ∃ q', q'.length = q.length + 1 ∧ mulR r (q ++ [1]) = q' ++ [1] := by
  refine ⟨(mulR r (q ++ [1])).take (q.length + 1), by simp, ?_⟩
  have hl : (mulR r (q ++ [1])).length = q.length + 1 + 1 := by simp
  have h1 : (mulR r (q ++ [1])).getD (q.length + 1) 0 = 1 := by
    rw [mulR_getD _ _ _ (by simp), if_neg (by omega)]
    simp [List.getD, zero_gmul]
  conv => lhs; rw [← List.take_append_drop (q.length + 1) (mulR r (q ++ [1]))]
  congr 1
  rw [List.drop_eq_getElem_cons (by omega), List.drop_of_length_le (by omega)]
  have : (mulR r (q ++ [1]))[q.length + 1]'(by omega) = 1 := by simpa [List.getD, hl] using h1
  rw [this]
/-- the product of all x + X k is monic -/
theorem prK_monic (X : Nat → UInt8) : ∀ v, ∃ q : List UInt8, q.length = v ∧ ∀ x, prK X x v = hor x (q ++ [1])
  | 0 => ⟨[], rfl, fun x => by simp [prK, hor, zero_gmul]⟩
  | v + 1 => by
    obtain ⟨q, hq, h⟩ := prK_monic X v
    obtain ⟨q', hq', h'⟩ := mulR_monic (X v) q
    refine ⟨q', by omega, fun x => ?_⟩
    rw [← h', hor_mulR, ← h, prK]
theorem genL_monic : ∀ n, ∃ q : List UInt8, q.length = n ∧ genL n = q ++ [1]
  | 0 => ⟨[], rfl, rfl⟩
  | n + 1 => by
    obtain ⟨q, hq, h⟩ := genL_monic n
    obtain ⟨q', hq', h'⟩ := mulR_monic (powB 3 (n + 1)) q
    exact ⟨q', by omega, by rw [genL, h, h']⟩
theorem genL_root : ∀ n i, i < n → hor (powB 3 (i + 1)) (genL n) = 0
  | 0, i, h => by omega
  | n + 1, i, h => by
    rw [genL, hor_mulR]
    by_cases e : i = n
    · subst e; rw [UInt8.xor_self, gmul_zero]
    · rw [genL_root n i (by omega), zero_gmul]
/-- the syndromes s are those of v errors c at the places X -/
structure Errs (s : List UInt8) (v : Nat) (c X : Nat → UInt8) : Prop where
  apart : apartX X v
  ne : ∀ k, k < v → X k ≠ 0
  cne : ∀ k, k < v → c k ≠ 0
  at' : ∀ i, i < s.length → s.getD i 0 = sumK v fun k => gmul (c k) (powB (X k) (i + 1))
def hanF (s : List UInt8) : Ents := fun i j => s.getD (i + j) 0
theorem han_sum {s : List UInt8} {v : Nat} {c X : Nat → UInt8} (h : Errs s v c X) (u : Nat → UInt8) {i n : Nat} (hn : i + n ≤ s.length) :
    sumK n (fun j => gmul (hanF s i j) (u j)) = sumK v fun k => gmul (gmul (c k) (hor (X k) (mkRow n u))) (powB (X k) (i + 1)) := by
  rw [sumK_congr (g := fun j => sumK v fun k => gmul (gmul (c k) (powB (X k) (i + j + 1))) (u j)) (fun j hj => by
    show gmul (s.getD (i + j) 0) (u j) = _
    rw [h.at' (i + j) (by omega), ← sumK_mulr]), sumK_swap]
  refine sumK_congr fun k _ => ?_
  rw [hor_sum', gmul_assoc, ← sumK_mulr, ← sumK_mul]
  refine sumK_congr fun j _ => ?_
  rw [show i + j + 1 = j + (i + 1) by omega, powB_add, gmul_assoc, gmul_assoc, gmul_comm (u j), gmul_assoc, gmul_comm (powB (X k) (i + 1)) (u j), ← gmul_assoc (powB (X k) j)]
theorem han_many {s : List UInt8} {v : Nat} {c X : Nat → UInt8} (h : Errs s v c X) {n : Nat} (hn : v < n) (hs : 2 * n ≤ s.length) : (est (hanF s) n n).2 ≠ n := by
  intro hf
  obtain ⟨q, hq, hp⟩ := prK_monic X v
  have hk : kerAt (hanF s) n n (fun j => (q ++ [1]).getD j 0) := fun i hi => by
    rw [han_sum h _ (by omega), sumK_congr (g := fun _ => 0) (fun k hk => by
      have e : hor (X k) (mkRow n fun j => (q ++ [1]).getD j 0) = 0 := by
        have hm : mkRow n (fun j => (q ++ [1]).getD j 0) = (q ++ [1]) ++ List.replicate (n - (v + 1)) 0 := by
          refine ext_getD (by simp; omega) fun j hj => ?_
          rw [mkRow_getD _ _ _ (by simpa using hj)]
          simp only [List.getD, List.getElem?_append (l₁ := q ++ [1])]
          split
          · rfl
          · rename_i hh
            rw [List.getElem?_eq_none (by omega)]
            simp only [List.getElem?_replicate]
            split <;> rfl
        rw [hm, hor_pad, ← hp, prK_zero v hk]
      rw [e, gmul_zero, zero_gmul]), sumK_zero]
  have hz := full_ker hf hk 0 (by omega)
  have h0 : prK X 0 v ≠ 0 := prK_ne v fun j hj e => h.ne j hj e.symm
  rw [hp] at h0
  cases hqq : q ++ [1] with
  | nil => simp at hqq
  | cons a l =>
    rw [hqq] at h0 hz
    rw [hor_at0] at h0
    exact h0 (by simpa using hz)
theorem han_full {s : List UInt8} {v : Nat} {c X : Nat → UInt8} (h : Errs s v c X) (hs : 2 * v ≤ s.length) : (est (hanF s) v v).2 = v := by
  refine rank_full (Nat.le_refl _) fun u hu j hj => ?_
  have hd := dual_zero (c := fun k => gmul (c k) (hor (X k) (mkRow v u))) h.apart h.ne (m := v) (fun i hi => by
    have := hu i hi
    rwa [han_sum h _ (by omega)] at this) (Nat.le_refl _)
  have hz := hor_root ((List.range v).map X) (mkRow v u) (by simp) (apart_nodup h.apart) (fun x hx => by
    obtain ⟨i, hi, rfl⟩ := List.mem_map.1 hx
    have hi := List.mem_range.1 hi
    exact g_cancel (h.cne i hi) (hd i hi))
  have hl : j < (mkRow v u).length := by simpa using hj
  have := hz _ (List.getElem_mem hl)
  rwa [mkRow_get] at this
/-- the equations' solution is the product of all x + X k, but for its leading 1 -/
theorem han_sol {s : List UInt8} {v : Nat} {c X : Nat → UInt8} (h : Errs s v c X) (hs : 2 * v ≤ s.length) :
    ∃ q : List UInt8, q.length = v ∧ (∀ x, prK X x v = hor x (q ++ [1])) ∧ ∀ i, i < v → bst (hanF s) (fun i _ => s.getD (v + i) 0) v v i 0 = q.getD i 0 := by
  obtain ⟨q, hq, hp⟩ := prK_monic X v
  refine ⟨q, hq, hp, fun i hi => full_sol (b := fun i => s.getD (v + i) 0) (x := fun i => q.getD i 0) (han_full h hs) (fun l hl => ?_) hi⟩
  have hk : sumK (v + 1) (fun j => gmul (hanF s l j) ((q ++ [1]).getD j 0)) = 0 := by
    rw [han_sum h _ (by omega), sumK_congr (g := fun _ => 0) (fun k hk => by
      have hm : mkRow (v + 1) (fun j => (q ++ [1]).getD j 0) = q ++ [1] := by
        have := eq_mkRow (q ++ [1])
        rw [show (q ++ [(1 : UInt8)]).length = v + 1 by simp [hq]] at this
        exact this.symm
      rw [hm, ← hp, prK_zero v hk, gmul_zero, zero_gmul]), sumK_zero]
  rw [sumK] at hk
  have e1 : (q ++ [1]).getD v 0 = 1 := by simp [List.getD, ← hq]
  rw [e1, gmul_one] at hk
  have := x_eq hk
  rw [show v + l = l + v by omega]
  show _ = hanF s l v
  rw [← this]
  exact sumK_congr fun j hj => by simp [List.getD, List.getElem?_append, hq, hj]
theorem hor_rev {x : UInt8} (hx : x ≠ 0) : ∀ l : List UInt8, gmul (powB x l.length) (hor (ginv x) l.reverse) = gmul x (hor x l)
  | [] => by simp [hor, gmul_zero]
  | c :: l => by
    rw [List.reverse_cons, hor_snoc, gmul_xor, List.length_cons, List.length_reverse, powB_succ, gmul_comm (powB x l.length) x, gmul_assoc x, gmul_assoc x, hor_rev hx l, ← gmul_assoc (powB x l.length), powB_inv hx, one_gmul, hor, gmul_xor, gmul_comm x (hor x l)]
theorem rev_root {x : UInt8} (hx : x ≠ 0) (l : List UInt8) : hor (ginv x) l.reverse = 0 ↔ hor x l = 0 := by
  have h := hor_rev hx l
  constructor
  · intro e
    rw [e, gmul_zero] at h
    exact g_cancel hx h.symm
  · intro e
    rw [e, gmul_zero] at h
    exact g_cancel (powB_ne hx _) h
/-- the powers of the places, as a square matrix -/
def plcF (X : Nat → UInt8) : Ents := fun i j => powB (X j) (i + 1)
theorem plc_full {X : Nat → UInt8} {v : Nat} (ha : apartX X v) (h0 : ∀ k, k < v → X k ≠ 0) : (est (plcF X) v v).2 = v := by
  refine rank_full (Nat.le_refl _) fun u hu => dual_zero ha h0 (m := v) (fun i hi => ?_) (Nat.le_refl _)
  rw [← hu i hi]
  exact sumK_congr fun j _ => gmul_comm _ _
theorem plc_sol {s : List UInt8} {v : Nat} {c X : Nat → UInt8} (h : Errs s v c X) (hs : v ≤ s.length) {i : Nat} (hi : i < v) : bst (plcF X) (fun i _ => s.getD i 0) v v i 0 = c i :=
  full_sol (plc_full h.apart h.ne) (fun l hl => by
    rw [h.at' l (by omega)]; exact sumK_congr fun j _ => gmul_comm _ _) hi
end G294

/- Chapter 8's mathematics: errors out of sums, the locator's length, what CorrectWord answers. -/
namespace G294
/-- where c does not vanish -/
def nzK (n : Nat) (c : Nat → UInt8) : List Nat := (List.range n).filter fun k => c k != 0
theorem nzK_mem {n : Nat} {c : Nat → UInt8} {k : Nat} : k ∈ nzK n c ↔ k < n ∧ c k ≠ 0 := by simp [nzK]
theorem nzK_len (n : Nat) (c : Nat → UInt8) : (nzK n c).length ≤ n := by
  have := List.length_filter_le (fun k => c k != 0) (List.range n)
  simpa [nzK] using this
theorem nzK_lt {n : Nat} {c : Nat → UInt8} : ∀ i j, i < j → j < (nzK n c).length → (nzK n c).getD i 0 < (nzK n c).getD j 0 := by
  intro i j hij hj
  have hs : (nzK n c).Pairwise (· < ·) := List.Pairwise.filter _ List.pairwise_lt_range
  have := List.pairwise_iff_getElem.1 hs i j (by omega) hj hij
  simpa [List.getD, show i < (nzK n c).length by omega, hj] using this
theorem nzK_at {n : Nat} {c : Nat → UInt8} {j : Nat} (hj : j < (nzK n c).length) : (nzK n c).getD j 0 < n ∧ c ((nzK n c).getD j 0) ≠ 0 := by
  have hm : (nzK n c).getD j 0 ∈ nzK n c := by
    rw [show (nzK n c).getD j 0 = (nzK n c)[j] by simp [List.getD, hj]]
    exact List.getElem_mem hj
  exact nzK_mem.1 hm
theorem nzK_short {n : Nat} {c : Nat → UInt8} {q : Nat} (hq : q < n) (h : c q = 0) : (nzK n c).length < n := by
  have h1 := len_parts (fun k => c k != 0) (List.range n)
  have h2 : q ∈ (List.range n).filter fun k => !(c k != 0) := by simp [hq, h]
  have h3 := List.length_pos_of_mem h2
  have e : nzK n c = (List.range n).filter fun k => c k != 0 := rfl
  rw [← e] at h1
  simp only [List.length_range] at h1
  omega
theorem sumL_idx {α : Type} (d : α) (l : List α) (f : α → UInt8) : sumL l f = sumK l.length fun k => f (l.getD k d) := by
  rw [← sumL_range, ← sumL_map (fun k => l.getD k d)]
  congr 1
  refine List.ext_getElem (by simp) fun j h1 h2 => ?_
  simp [List.getD, h1]
theorem sum_nz (n : Nat) (c : Nat → UInt8) (f : Nat → UInt8) : sumK n (fun k => gmul (c k) (f k)) = sumK (nzK n c).length fun j => gmul (c ((nzK n c).getD j 0)) (f ((nzK n c).getD j 0)) := by
  rw [← sumL_idx 0 (nzK n c) (fun k => gmul (c k) (f k)), nzK, sumL_filter, sumL_range]
  intro k _ hk
  have : c k = 0 := by simpa using hk
  rw [this, zero_gmul]
/-- errors, out of a sum over all places -/
theorem errs_of {s : List UInt8} {n : Nat} {c X : Nat → UInt8} (ha : apartX X n) (h0 : ∀ k, k < n → X k ≠ 0) (hs : ∀ i, i < s.length → s.getD i 0 = sumK n fun k => gmul (c k) (powB (X k) (i + 1))) :
    Errs s (nzK n c).length (fun j => c ((nzK n c).getD j 0)) (fun j => X ((nzK n c).getD j 0)) :=
  ⟨fun i j hij hj => apart_ne ha (nzK_at (by omega)).1 (nzK_at hj).1 (by have := nzK_lt i j hij hj; omega),
    fun k hk => h0 _ (nzK_at hk).1, fun k hk => (nzK_at hk).2, fun i hi => by rw [hs i hi, sum_nz n c (fun k => powB (X k) (i + 1))]⟩
/-- the greatest number of rows whose matrix is invertible -/
def locN (s : List UInt8) : Nat → Nat
  | 0 => 0
  | n + 1 => if (est (hanF s) (n + 1) (n + 1)).2 = n + 1 then n + 1 else locN s n
theorem locN_le (s : List UInt8) : ∀ n, locN s n ≤ n
  | 0 => Nat.le_refl _
  | n + 1 => by unfold locN; have := locN_le s n; split <;> omega
theorem locN_full (s : List UInt8) : ∀ n, 0 < locN s n → (est (hanF s) (locN s n) (locN s n)).2 = locN s n
  | 0, h => by simp [locN] at h
  | n + 1, h => by
    unfold locN at h ⊢
    split
    · rename_i e; exact e
    · rename_i e; rw [if_neg e] at h; exact locN_full s n h
theorem locN_errs {s : List UInt8} {v : Nat} {c X : Nat → UInt8} (h : Errs s v c X) : ∀ n, v ≤ n → 2 * n ≤ s.length → locN s n = v
  | 0, hv, _ => by simp [locN]; omega
  | n + 1, hv, hs => by
    unfold locN
    by_cases e : v = n + 1
    · subst e; rw [if_pos (han_full h hs)]
    · rw [if_neg (han_many h (by omega) hs), locN_errs h n (by omega) (by omega)]
def locSol (s : List UInt8) (n : Nat) : List UInt8 := mkRow n fun i => bst (hanF s) (fun i _ => s.getD (n + i) 0) n n i 0
def locL (s : List UInt8) : List UInt8 := 1 :: (locSol s (locN s (s.length / 2))).reverse
theorem locL_length (s : List UInt8) : (locL s).length = locN s (s.length / 2) + 1 := by simp [locL, locSol]
def locOk (s : List UInt8) : Bool := decide (s.length % 2 = 0 ∧ s.length ≤ 8)
def locR (s : List UInt8) : List UInt8 := if locOk s = true then locL s else []
theorem locR_len (s : List UInt8) : (locR s).length ≤ 5 := by
  unfold locR; split
  · rename_i h
    simp only [locOk, decide_eq_true_eq] at h
    have := locN_le s (s.length / 2)
    rw [locL_length]; omega
  · simp
/-- the positions at which the locator vanishes -/
def plcs (n : Nat) (l : List UInt8) : List Nat := (List.range n).filter fun i => hor (ginv (powB 3 i)) l == 0
theorem plcs_mem {n : Nat} {l : List UInt8} {i : Nat} : i ∈ plcs n l ↔ i < n ∧ hor (ginv (powB 3 i)) l = 0 := by simp [plcs]
theorem plcs_len (n : Nat) (l : List UInt8) : (plcs n l).length ≤ n := by
  have := List.length_filter_le (fun i => hor (ginv (powB 3 i)) l == 0) (List.range n)
  simpa [plcs] using this
theorem plcs_lt {n : Nat} {l : List UInt8} : ∀ i j, i < j → j < (plcs n l).length → (plcs n l).getD i 0 < (plcs n l).getD j 0 := by
  intro i j hij hj
  have hs : (plcs n l).Pairwise (· < ·) := List.Pairwise.filter _ List.pairwise_lt_range
  have := List.pairwise_iff_getElem.1 hs i j (by omega) hj hij
  simpa [List.getD, show i < (plcs n l).length by omega, hj] using this
theorem plcs_at {n : Nat} {l : List UInt8} {j : Nat} (hj : j < (plcs n l).length) : (plcs n l).getD j 0 < n := by
  have hm : (plcs n l).getD j 0 ∈ plcs n l := by
    rw [show (plcs n l).getD j 0 = (plcs n l)[j] by simp [List.getD, hj]]
    exact List.getElem_mem hj
  exact (plcs_mem.1 hm).1
def corX (P : List Nat) (k : Nat) : UInt8 := powB 3 (P.getD k 0)
def corE (s : List UInt8) (P : List Nat) (k : Nat) : UInt8 := bst (plcF (corX P)) (fun i _ => s.getD i 0) P.length P.length k 0
/-- the first k changes made -/
def putE (w : List UInt8) (P : List Nat) (E : Nat → UInt8) : Nat → List UInt8
  | 0 => w
  | k + 1 => (putE w P E k).set (P.getD k 0) ((putE w P E k).getD (P.getD k 0) 0 ^^^ E k)
@[simp] theorem putE_length (w : List UInt8) (P : List Nat) (E : Nat → UInt8) : ∀ k, (putE w P E k).length = w.length
  | 0 => rfl
  | k + 1 => by rw [putE, List.length_set, putE_length w P E k]
theorem getD_setB (l : List UInt8) (k i : Nat) (x : UInt8) (hk : k < l.length) : (l.set k x).getD i 0 = if i = k then x else l.getD i 0 := by
  simp only [List.getD, List.getElem?_set]
  split
  · rename_i h; subst h; simp [hk]
  · rename_i h; rw [if_neg (fun e => h e.symm)]
theorem putE_getD {w : List UInt8} {P : List Nat} {E : Nat → UInt8} (hP : ∀ i j, i < j → j < P.length → P.getD i 0 < P.getD j 0) (hb : ∀ j, j < P.length → P.getD j 0 < w.length) : ∀ k, k ≤ P.length →
    (∀ j, j < k → (putE w P E k).getD (P.getD j 0) 0 = w.getD (P.getD j 0) 0 ^^^ E j) ∧ (∀ p, (∀ j, j < k → P.getD j 0 ≠ p) → (putE w P E k).getD p 0 = w.getD p 0)
  | 0, _ => ⟨fun j h => by omega, fun p _ => rfl⟩
  | k + 1, hk => by
    obtain ⟨h1, h2⟩ := putE_getD hP hb (E := E) k (by omega)
    have hbk : P.getD k 0 < (putE w P E k).length := by rw [putE_length]; exact hb k (by omega)
    have hk0 : (putE w P E k).getD (P.getD k 0) 0 = w.getD (P.getD k 0) 0 := h2 _ fun j hj => by have := hP j k hj (by omega); omega
    constructor
    · intro j hj
      rw [putE, getD_setB _ _ _ _ hbk]
      by_cases e : j = k
      · subst e; rw [if_pos rfl, hk0]
      · have := hP j k (by omega) (by omega)
        rw [if_neg (by omega), h1 j (by omega)]
    · intro p hp
      rw [putE, getD_setB _ _ _ _ hbk, if_neg (fun e => hp k (by omega) e.symm), h2 p fun j hj => hp j (by omega)]
def corAt (w : List UInt8) (n : Nat) : Option (List UInt8 × Nat) :=
  if zeroL (synL w n) = true then some (w, 0)
  else
    if (plcs w.length (locL (synL w n))).length = 0 ∨ (plcs w.length (locL (synL w n))).length ≠ locN (synL w n) ((synL w n).length / 2) then none
    else if zeroL (synL (putE w (plcs w.length (locL (synL w n))) (corE (synL w n) (plcs w.length (locL (synL w n)))) (plcs w.length (locL (synL w n))).length) n) = true
      then some (putE w (plcs w.length (locL (synL w n))) (corE (synL w n) (plcs w.length (locL (synL w n)))) (plcs w.length (locL (synL w n))).length, (plcs w.length (locL (synL w n))).length)
      else none
def corO (w : List UInt8) (t : Int) : Option (List UInt8 × Nat) := if fitW w t = true then corAt w (2 * t.toNat) else none
def corR (w : List UInt8) (t : Int) : List UInt8 := ((corO w t).map (·.1)).getD []
def corN (w : List UInt8) (t : Int) : Int := (((corO w t).map (·.2)).getD 0 : Nat)
def corOk (w : List UInt8) (t : Int) : Bool := (corO w t).isSome
theorem zeroL_iff (l : List UInt8) : zeroL l = true ↔ ∀ i, i < l.length → l.getD i 0 = 0 := by simp only [zeroL, decide_eq_true_eq]
@[simp] theorem synL_length (w : List UInt8) (n : Nat) : (synL w n).length = n := by simp [synL]
theorem synL_getD (w : List UInt8) (n i : Nat) (h : i < n) : (synL w n).getD i 0 = hor (powB 3 (i + 1)) w := by rw [synL, mkRow_getD _ _ _ h]
theorem corX_apart {P : List Nat} {n : Nat} (hP : ∀ i j, i < j → j < P.length → P.getD i 0 < P.getD j 0) (hb : ∀ j, j < P.length → P.getD j 0 < n) (hn : n ≤ 24) : apartX (corX P) P.length :=
  fun i j hij hj e => by
    have h1 := hP i j hij hj
    have := pow3_inj (by have := hb i (by omega); omega) (by have := hb j hj; omega) e
    omega
theorem corX_ne (P : List Nat) (k : Nat) : corX P k ≠ 0 := pow3_ne _
theorem hor_syn (w : List UInt8) (i : Nat) : hor (powB 3 (i + 1)) w = sumK w.length fun p => gmul (w.getD p 0) (powB (powB 3 p) (i + 1)) := by
  rw [hor_sum]
  exact sumK_congr fun p _ => by rw [powB_swap]
theorem sumK_dif {n : Nat} {f g h : Nat → UInt8} (e : ∀ p, p < n → f p = g p ^^^ h p) : sumK n f = sumK n g ^^^ sumK n h := by
  rw [← sumK_xor]; exact sumK_congr e
/-- a sum over a part of the places -/
theorem sum_part {n : Nat} {P : List Nat} {E : Nat → UInt8} (f : Nat → UInt8) (hP : ∀ i j, i < j → j < P.length → P.getD i 0 < P.getD j 0) (hb : ∀ j, j < P.length → P.getD j 0 < n) (d : Nat → UInt8)
    (h1 : ∀ j, j < P.length → d (P.getD j 0) = E j) (h2 : ∀ p, (∀ j, j < P.length → P.getD j 0 ≠ p) → d p = 0) : sumK n (fun p => gmul (d p) (f p)) = sumK P.length fun j => gmul (E j) (f (P.getD j 0)) := by
  have hs : P.Pairwise (· < ·) := List.pairwise_iff_getElem.2 fun i j hi hj hij => by
    have := hP i j hij hj
    simpa [List.getD, hi, hj] using this
  have hf : (List.range n).filter (fun p => decide (p ∈ P)) = P := by
    have hp : ((List.range n).filter fun p => decide (p ∈ P)).Pairwise (· < ·) := List.Pairwise.filter _ List.pairwise_lt_range
    have hmem : ∀ x, x ∈ (List.range n).filter (fun p => decide (p ∈ P)) ↔ x ∈ P := fun x => by
      simp only [List.mem_filter, List.mem_range, decide_eq_true_eq]
      constructor
      · exact fun h => h.2
      · intro h
        obtain ⟨j, hj, rfl⟩ := List.getElem_of_mem h
        have := hb j hj
        exact ⟨by simpa [List.getD, hj] using this, h⟩
    refine List.Perm.eq_of_pairwise (le := (· < ·)) (fun a b _ _ h1 h2 => by omega) hp hs ?_
    exact (List.perm_ext_iff_of_nodup (hp.imp fun h => Nat.ne_of_lt h) (hs.imp fun h => Nat.ne_of_lt h)).2 hmem
  rw [← sumL_range, ← sumL_filter (fun p => decide (p ∈ P)) (List.range n) (fun p => gmul (d p) (f p)) (fun p _ hp => by
    rw [h2 p (fun j hj e => by
      have : p ∈ P := e ▸ (by rw [show P.getD j 0 = P[j] by simp [List.getD, hj]]; exact List.getElem_mem hj)
      simp [this] at hp), zero_gmul]), hf, sumL_idx 0]
  exact sumK_congr fun j hj => by rw [h1 j hj]
/-- the syndromes behind the changes -/
theorem syn_put {w : List UInt8} {P : List Nat} {E : Nat → UInt8} (hP : ∀ i j, i < j → j < P.length → P.getD i 0 < P.getD j 0) (hb : ∀ j, j < P.length → P.getD j 0 < w.length) (i : Nat) :
    hor (powB 3 (i + 1)) (putE w P E P.length) = hor (powB 3 (i + 1)) w ^^^ sumK P.length fun k => gmul (E k) (powB (corX P k) (i + 1)) := by
  obtain ⟨h1, h2⟩ := putE_getD hP hb (E := E) P.length (Nat.le_refl _)
  rw [hor_syn, hor_syn, putE_length]
  have hc : (sumK P.length fun k => gmul (E k) (powB (corX P k) (i + 1))) = sumK P.length fun j => gmul (E j) (powB (powB 3 (P.getD j 0)) (i + 1)) := rfl
  rw [hc, ← sum_part (n := w.length) (E := E) (fun p => powB (powB 3 p) (i + 1)) hP hb (fun p => (putE w P E P.length).getD p 0 ^^^ w.getD p 0) (fun j hj => by
    simp only [h1 j hj]; rw [UInt8.xor_comm (w.getD _ 0), UInt8.xor_assoc, UInt8.xor_self, UInt8.xor_zero]) (fun p hp => by simp only [h2 p hp, UInt8.xor_self])]
  refine sumK_dif fun p _ => ?_
  rw [← xor_gmul, UInt8.xor_comm (w.getD p 0), UInt8.xor_assoc, UInt8.xor_self, UInt8.xor_zero]
/-- where the last test passes no change is 0 -/
theorem no_zero {w : List UInt8} {n : Nat} (hw : w.length ≤ 24) (hn : n % 2 = 0) (hl : (plcs w.length (locL (synL w n))).length = locN (synL w n) ((synL w n).length / 2)) (hp : (plcs w.length (locL (synL w n))).length ≠ 0)
    {E : Nat → UInt8} (hz : zeroL (synL (putE w (plcs w.length (locL (synL w n))) E (plcs w.length (locL (synL w n))).length) n) = true) : ∀ k, k < (plcs w.length (locL (synL w n))).length → E k ≠ 0 := by
  intro q hq hE
  generalize hPP : plcs w.length (locL (synL w n)) = P at *
  have hP : ∀ i j, i < j → j < P.length → P.getD i 0 < P.getD j 0 := by rw [← hPP]; exact plcs_lt
  have hb : ∀ j, j < P.length → P.getD j 0 < w.length := by rw [← hPP]; exact fun j hj => plcs_at hj
  rw [zeroL_iff] at hz
  have hs : ∀ i, i < (synL w n).length → (synL w n).getD i 0 = sumK P.length fun k => gmul (E k) (powB (corX P k) (i + 1)) := fun i hi => by
    have hi' : i < n := by simpa using hi
    have := hz i (by simpa using hi')
    rw [synL_getD _ _ _ hi', syn_put hP hb] at this
    rw [synL_getD _ _ _ hi']
    exact x_eq this
  have he := errs_of (corX_apart hP hb hw) (fun k _ => corX_ne P k) hs
  have hlt := nzK_short hq hE
  have hN := locN_le (synL w n) ((synL w n).length / 2)
  have hf := locN_full (synL w n) ((synL w n).length / 2) (by omega)
  rw [← hl] at hf
  exact han_many he hlt (by rw [hl]; omega) hf
end G294

/- Chapter 8: the matrix of syndromes, slices.Reverse of bytes, the locator: the program's. -/
namespace G294
open Go Go.RowKit
/-- f, its first i and last i elements turned -/
def revF (n : Nat) (f : Nat → UInt8) (i p : Nat) : UInt8 := if p < i ∨ n ≤ p + i then f (n - 1 - p) else f p
theorem revF_zero (n : Nat) (f : Nat → UInt8) : mkRow n (revF n f 0) = mkRow n f := mkRow_congr fun p hp => by
  unfold revF; rw [if_neg (by omega)]
theorem revF_at {n : Nat} {f : Nat → UInt8} {i j : Nat} (h : i + j + 1 = n) (hij : i < j) : revF n f i i = f i ∧ revF n f i j = f j := by
  unfold revF; rw [if_neg (by omega), if_neg (by omega)]; exact ⟨rfl, rfl⟩
theorem revF_step {n : Nat} {f : Nat → UInt8} {i j : Nat} (h : i + j + 1 = n) (hij : i < j) : ((mkRow n (revF n f i)).set i (f j)).set j (f i) = mkRow n (revF n f (i + 1)) := by
  rw [mkRow_set, mkRow_set]
  refine mkRow_congr fun p hp => ?_
  unfold revF
  by_cases h1 : p = j
  · subst h1; rw [if_pos rfl, if_pos (by omega)]; congr 1; omega
  · rw [if_neg h1]
    by_cases h2 : p = i
    · subst h2; rw [if_pos rfl, if_pos (by omega)]; congr 1; omega
    · rw [if_neg h2]
      by_cases h3 : p < i ∨ n ≤ p + i
      · rw [if_pos h3, if_pos (by omega)]
      · rw [if_neg h3, if_neg (by omega)]
theorem revF_end {n : Nat} {f : Nat → UInt8} {i j : Nat} (h : i + j + 1 = n ∨ n = 0) (hij : j ≤ i) : mkRow n (revF n f i) = (mkRow n f).reverse := by
  refine ext_getD (by simp) fun p hp => ?_
  simp only [mkRow_length] at hp
  rw [mkRow_getD _ _ _ hp]
  have hr : (mkRow n f).reverse.getD p 0 = f (n - 1 - p) := by
    have hp' : p < (mkRow n f).length := by simpa using hp
    rw [List.getD_eq_getElem?_getD, List.getElem?_reverse hp', ← List.getD_eq_getElem?_getD, mkRow_length, mkRow_getD _ _ _ (by omega)]
  rw [hr]
  unfold revF
  split
  · rfl
  · congr 1; omega
theorem locN_yes {s : List UInt8} {n : Nat} (h : solB (hanF s) (n + 1) = true) : locN s (n + 1) = n + 1 := by
  unfold locN; rw [if_pos (by simpa [solB] using h)]
theorem locN_no {s : List UInt8} {n : Nat} (h : solB (hanF s) (n + 1) = false) : locN s (n + 1) = locN s n := by
  rw [locN, if_neg (by simpa [solB] using h)]
theorem locSol_eq {s : List UInt8} {n : Nat} (h : 2 * n ≤ s.length) : slvL (hanF s) n ((s.drop n).take n) = locSol s n := by
  unfold slvL locSol
  refine mkRow_congr fun i hi => ?_
  rw [bst_lin _ _ _ _ _ _ hi, bst_lin _ _ _ _ _ _ hi]
  refine sumK_congr fun k hk => ?_
  congr 1
  show ((s.drop n).take n).getD k 0 = s.getD (n + k) 0
  simp [List.getD, List.getElem?_take, hk]
theorem sub_row {w : World} {A : Option Addr} {c : Nat} {s : List UInt8} (h : Seen w (.slice A s.length c) (bys s)) {a m : Nat} (hm : 0 < m) (ha : a + m ≤ s.length) : ∃ b off, A = some ⟨b, off, none⟩ ∧ Seen w (.slice (some ⟨b, off + a, none⟩) m (c - a)) (bys ((s.drop a).take m)) := by
  obtain ⟨A', c', e, hlc, hcm, hx⟩ := h
  rw [bys_length] at e hlc hx
  simp only [Value.slice.injEq, true_and] at e
  obtain ⟨rfl, rfl⟩ := e
  obtain ⟨b, off, rfl, hb, hc⟩ := hx (by omega)
  have hl : ((s.drop a).take m).length = m := by rw [List.length_take, List.length_drop]; omega
  refine ⟨b, off, rfl, ⟨_, c - a, by rw [bys_length, hl], by rw [bys_length, hl]; omega, by omega, fun _ => ⟨b, off + a, rfl, hb, fun i u hu => ?_⟩⟩⟩
  have hi : i < ((s.drop a).take m).length := by have := (List.getElem?_eq_some_iff.1 hu).1; simpa using this
  rw [bys_get _ i hi] at hu
  rw [← hu, Nat.add_assoc, hc (a + i) _ (bys_get s (a + i) (by omega))]
  simp [List.getElem_take, List.getElem_drop]
end G294
namespace Go.Proofs.YtblfobbeojdihaaGreatDoor
open Go.RowKit G294

theorem sliceLHb (b off len cap l h : Nat) (hlh : l ≤ h) (hc : h ≤ cap) (hlt : l < cap) (W : World) : (Instr.slice 22 (.slice (some ⟨b, off, none⟩) len cap) (some (.int .i64 (l : Int))) (some (.int .i64 (h : Int))) none).run Tryz.prog W = .ok (.slice (some ⟨b, off + l, none⟩) (h - l) (cap - l)) W := by
  have hel : (sizeOf (Tryz.prog.elem 22)).run Tryz.prog W = .ok 1 W := by kernel_rfl
  rw [run_slice_lh W 22 _ len cap (by kernel_rfl) .i64 .i64 l h (by omega) (by omega) (by omega), hel]
  simp [Result.andThen, sliced, Addr.add, show ¬ cap = l by omega]

theorem sliceLH (b off len cap l h : Nat) (hlh : l ≤ h) (hc : h ≤ cap) (hlt : l < cap) (W : World) : (Instr.sliceAt 22 (.slice (some ⟨b, off, none⟩) len cap) (some (.int .i64 (l : Int))) (some (.int .i64 (h : Int))) none).run Tryz.prog W = .ok (.slice (some ⟨b, off + l, none⟩) (h - l) (cap - l)) W := by
  rw [run_sliceAt_slice W 22 _ _ _ _ (by kernel_rfl)]
  exact sliceLHb b off len cap l h hlh hc hlt W

set_option maxRecDepth 100000 in
set_option maxHeartbeats 1000000 in
theorem hankelAt (n Bv : Nat) (s : List UInt8) (v : Value) (w : World) (hBv : Bv < w.heap.size) (hn : n ≤ 100) (hbl : 2 * n ≤ s.length) (hv : w.cell? ⟨Bv, 0, none⟩ = some v) (hs : Seen w v (bys s)) :
    GivesAt Tryz.prog 88 #[.pointer (some ⟨Bv, 0, none⟩)] n n (hanF s) w := by
  intro W i j hb hi hj
  have hv' := (hb.cell (p := ⟨Bv, 0, none⟩) hBv).trans hv
  obtain ⟨bb, off, c, rfl, hbb, hlm, hcell⟩ := seen_cellsB hs (by omega)
  obtain ⟨k, hk⟩ : ∃ k, k = i + j := ⟨_, rfl⟩
  have hib : k < s.length := by omega
  have hci := hcell W hb k _ (bys_get s k hib)
  rw [Addr.add_lit, show s[k] = s.getD k 0 by simp [List.getD, hib]] at hci
  have HF : Hid (hanF s i j = s.getD k 0) := by show s.getD (i + j) 0 = _; rw [hk]
  have hwk : IntKind.i64.wrap ((i : Int) + (j : Int)) = (k : Int) := by rw [IntWalk.i64_in _ (by omega)]; omega
  have hi' : (k : Int) < (s.length : Int) := by omega
  generalize s.getD k 0 = x at *
  generalize s.length = q at *
  clear hcell hs hv hk
  go_enter Tryz.func88, Tryz.ntmps88
  go_wp2_with fail
  go_ret
  exact ⟨by rw [HF.out]; rfl, 0, rfl⟩

set_option maxRecDepth 100000 in
set_option maxHeartbeats 1000000 in
theorem syndromeMatrix_own (n : Nat) (s : List UInt8) (v : Value) (w : World) (hs : Seen w v (bys s)) (hn : n ≤ 100) (hbl : 2 * n ≤ s.length) :
    Calls Tryz.prog 55 #[v, .int .i64 (n : Int)] w (RetMat 5 22 w (mkM n n (hanF s))) := by
  obtain ⟨qa, qb⟩ := boxes2c (w := w) (v := v) (v' := .slice none 0 0) (T := 22) (T' := 70)
  have kB : TurnIn 0 0 w ((w.alloc (.cells #[v] 22)).alloc (.cells #[.slice none 0 0] 70)) := turn_trans (turn_alloc _ _) (turn_alloc _ _) (by omega)
  have zB : ((w.alloc (.cells #[v] 22)).alloc (.cells #[.slice none 0 0] 70)).heap.size = w.heap.size + 2 := by simp
  have qf : ((w.alloc (.cells #[v] 22)).alloc (.cells #[.slice none 0 0] 70)).frozen? ⟨w.heap.size + 1, 0, none⟩ = false := by simp
  have HG := Lib.hid (hankelAt n w.heap.size s v _ (by rw [zB]; omega) hn hbl qa (hs.touch kB))
  have eg := enters_of Tryz.func88 (by kernel_rfl) rfl
  obtain ⟨A, c, rfl⟩ := hs.len
  have KB := Lib.hid kB
  clear hs kB
  generalize (bys s).length = q at *
  go_enter Tryz.func55, Tryz.ntmps55
  go_wp2_with fail
  generalize hw2 : ((w.alloc (.cells #[.slice A q c] 22)).alloc (.cells #[.slice none 0 0] 70)) = w2 at *
  clear hw2
  refine (newGridB n n _ _ _ w2 eg HG.out (by omega) (by omega)).mono ?_
  rintro e w3 ⟨v3, vs3, rfl, o3, k3⟩
  have qb3 := cell_turn k3 qb (by omega)
  have qf3 := frozen_turn k3 qf (by omega)
  obtain ⟨A', n', c', rfl⟩ := o3.isSlice
  have HF := Lib.hid (ret_store KB.out.to_below o3 k3 (w.heap.size + 1) 0 (by omega) (by omega) (.slice A' n' c'))
  clear o3 k3
  go_wp2_with fail
  refine bodyPost_ret (v := .agg #[.slice A' n' c']) (by simp [results, Tryz.results55, go_sem, qb3]) rfl ?_
  exact ⟨_, vs3, rfl, HF.out.1, HF.out.2⟩

set_option maxRecDepth 100000 in
set_option maxHeartbeats 4000000 in
theorem reverse_own (n g cp lo hi : Nat) (f : Nat → UInt8) (w : World) (ho : OwnBytes 5 w lo hi (.slice (some ⟨g, 0, none⟩) n cp) (mkRow n f)) (hn : n ≤ 1000) :
    Calls Tryz.prog 56 #[.slice (some ⟨g, 0, none⟩) n cp] w fun e w' => e = .returned (.tuple #[]) ∧ OwnBytes 5 w' lo hi (.slice (some ⟨g, 0, none⟩) n cp) (mkRow n f).reverse ∧ TurnIn lo hi w w' := by
  have ho1 := ho.1
  rw [mkRow_length, ← revF_zero] at ho1
  have hgh : g < hi := ho.2.2 g rfl
  have hgl : lo ≤ g := (ho.1.lt g rfl).1
  have hhz := ho.2.1
  have hcp : n ≤ cp ∧ cp ≤ maxLen := by
    rcases ho1.2 with ⟨hh, _⟩ | ⟨g', cap, cur, e, hbg, hg, hnc, hcm, hcs, ht⟩
    · simp at hh
    · simp only [Value.slice.injEq] at e
      exact ⟨by omega, by omega⟩
  obtain ⟨hcp1, hcp2⟩ := hcp
  unfold maxLen at hcp2
  have HML : Hid (∀ (F : Nat → UInt8), n = (mkRow n F).length) := fun F => by simp
  have HMG : Hid (∀ (F : Nat → UInt8) k, k < n → (mkRow n F).getD k 0 = F k) := fun F k hk => mkRow_getD n F k hk
  clear ho
  have hwn : IntKind.i64.wrap ((n : Int) - 1) = (n : Int) - 1 := by rw [IntWalk.i64_in _ (by omega)]
  go_enter Tryz.func56, Tryz.ntmps56
  go_wp2_with fail
  go_loopw [2, 3] (fun i j wr => ∃ (k : Nat) (q : Int), q + k + 1 = n ∧ (k : Int) ≤ q + 1 ∧ i = .int .i64 k ∧ j = .int .i64 q ∧ wr.ownsRow lo 5 1 (.slice (some ⟨g, 0, none⟩) n cp) n (bys (mkRow n (revF n f k))) ∧ TurnIn lo hi w wr)
    (fun i _ _ => n - (intOf i).toNat)
  case atStart => exact ⟨0, (n : Int) - 1, by omega, by omega, rfl, by first | rfl | rw [hwn], ho1, ⟨rfl, rfl, rfl, Nat.le_refl _, fun _ _ _ => rfl⟩⟩
  case round =>
    obtain ⟨k, q, hq, hk, rfl, rfl, ho, kr⟩ := hrel
    clear ho1
    by_cases hlt : (k : Int) < q
    · obtain ⟨j, rfl⟩ : ∃ j : Nat, q = (j : Int) := ⟨q.toNat, by omega⟩
      have hkj : k < j := by omega
      have hsum : k + j + 1 = n := by omega
      have hc1 := own_cell8 ho (HML.out _) (k := k) (by omega)
      have hc2 := own_cell8 ho (HML.out _) (k := j) (by omega)
      rw [HMG.out _ k (by omega), (revF_at hsum hkj).1] at hc1
      rw [HMG.out _ j (by omega), (revF_at hsum hkj).2] at hc2
      have hf1 := ho.frozenAt k
      have hf2 := ho.frozenAt j
      have s1 := own_set8 (own_set8 ho k (f j)) j (f k)
      rw [revF_step hsum hkj] at s1
      have HS1 := Lib.hid s1
      have hki : (k : Int) < (n : Int) := by omega
      have hji : (j : Int) < (n : Int) := by omega
      have hne1 : k ≠ j := by omega
      have hne2 : j ≠ k := by omega
      generalize f k = x at *
      generalize f j = y at *
      clear s1 ho
      go_wp2_with fail
      go_region
      have kr2 := turn_drewA (turn_trans (turn_trans kr (turn_setCell wr g k (.int .u8 (y.toNat : Int))) (by omega)) (turn_setCell _ g j (.int .u8 (x.toNat : Int))) (by omega))
      have hj1 : IntKind.i64.wrap ((j : Int) - 1) = (j : Int) - 1 := by rw [IntWalk.i64_in _ (by omega)]
      go_wp2_with fail
      go_roundw
      case rel => exact ⟨k + 1, (j : Int) - 1, by omega, by omega, by go_num, by first | rfl | rw [hj1] | go_num, HS1.out.drew, kr2⟩
      case measure => simp [intOf]; omega
    · have hnl : ¬ (k : Int) < q := hlt
      have HRV : Hid (mkRow n (revF n f k) = (mkRow n f).reverse) := by
        show _ = _
        by_cases h0 : n = 0
        · subst h0; simp [mkRow]
        · exact revF_end (i := k) (j := q.toNat) (by omega) (by omega)
      rw [HRV.out] at ho
      have HO := Lib.hid ho
      have HL : Hid ((mkRow n f).reverse.length = n) := by show _ = _; simp
      clear ho
      go_wp2_with fail
      go_end0
      refine ⟨rfl, ⟨?_, by have := kr.size; omega, fun g' e => by simp only [Value.ownBlock, Option.some.injEq] at e; omega⟩, kr⟩
      rw [HL.out]; exact HO.out

set_option maxRecDepth 100000 in
set_option maxHeartbeats 1000000 in
theorem locatorOf_own (v : Value) (s : List UInt8) (w : World) (hs : Seen w v (bys s)) (htab : Tab w) (h0 : 3 < w.heap.size) :
    Calls Tryz.prog 20 #[v] w (RetBytesOk 5 w (locR s) (locOk s)) := by
  have HS := Lib.hid hs
  have HT : Hid (∀ W, TurnIn 0 0 w W → Tab W ∧ 3 < W.heap.size) := fun W h => ⟨htab.below h.to_below h0, by have := h.size; omega⟩
  obtain ⟨A, c, rfl, hlc, hcm, _⟩ := hs
  rw [bys_length] at hlc HS
  simp only [bys_length]
  unfold maxLen at hcm
  clear htab
  have HSUB : Hid (∀ W, SeenM W (.slice A s.length c) [] → True) := fun _ _ => trivial
  have HNO : Hid (locOk s = false → locR s = []) := fun h => if_neg (by rw [h]; simp)
  have HYES : Hid (locOk s = true → locR s = locL s) := fun h => if_pos h
  have HLL : Hid (∀ n, locN s (s.length / 2) = n → locL s = 1 :: (locSol s n).reverse) := fun n h => by unfold locL; rw [h]
  have HOK : Hid (locOk s = decide (s.length % 2 = 0 ∧ s.length ≤ 8)) := rfl
  have HSR : Hid (∀ n W, 0 < n → 2 * n ≤ s.length → TurnIn 0 0 w W → ∃ b off, A = some ⟨b, off, none⟩ ∧ Seen W (.slice (some ⟨b, off + n, none⟩) n (c - n)) (bys ((s.drop n).take n))) := fun n W h1 h2 h3 => sub_row (HS.out.touch h3) h1 (by omega)
  have HSL : Hid (∀ n, 2 * n ≤ s.length → slvL (hanF s) n ((s.drop n).take n) = locSol s n ∧ ((s.drop n).take n).length = n) := fun n h => ⟨locSol_eq h, by rw [List.length_take, List.length_drop]; omega⟩
  have HSM : Hid (∀ n W, 2 * n ≤ s.length → n ≤ 100 → TurnIn 0 0 w W → Calls Tryz.prog 55 #[.slice A s.length c, .int .i64 (n : Int)] W (RetMat 5 22 W (mkM n n (hanF s)))) := fun n W h1 h2 h3 => syndromeMatrix_own n s _ W (HS.out.touch h3) h2 h1
  have HCC : Hid (Calls Tryz.prog 26 #[.int .i64 4] w fun e w' => e = .returned (.int .i64 8) ∧ w = w') := checkCount_any 4 w (by omega)
  generalize hqq : s.length = q at *
  have HQ := Lib.hid hqq
  clear hqq HSUB
  by_cases hodd : q % 2 = 0
  · have hr0 : (((q : Int) % 2) != 0) = false := by rw [show (q : Int) % 2 = 0 by omega]; rfl
    have hr2 : ((q : Int).tmod 2 != 0) = false := by rw [Int.tmod_eq_emod_of_nonneg (by omega)]; exact hr0
    by_cases h8 : q ≤ 8
    · have HO : Hid (locOk s = true) := by show _ = _; rw [HOK.out]; simp [hodd, h8]
      have h8i : ¬ (8 : Int) < (q : Int) := by omega
      obtain ⟨h, hh⟩ : ∃ h, h = q / 2 := ⟨_, rfl⟩
      have h2q : 2 * h = q := by omega
      have hquo : (q : Int) / 2 = (h : Int) := by omega
      have hquo2 : (q : Int).tdiv 2 = (h : Int) := by rw [Int.tdiv_eq_ediv_of_nonneg (by omega)]; exact hquo
      rw [← hh] at HLL
      clear hh hodd
      go_enter Tryz.func20, Tryz.ntmps20
      go_wp2_with fail
      refine HCC.out.mono ?_
      rintro e w' ⟨rfl, rfl⟩
      go_wp2_with fail
      go_loopw [4] (fun i wr => ∃ n : Nat, n ≤ h ∧ i = .int .i64 n ∧ Hid (locN s h = locN s n) ∧ TurnIn 0 0 w wr) (fun i _ => (intOf i).toNat)
      case atStart => exact ⟨h, Nat.le_refl _, rfl, rfl, TurnIn.refl _⟩
      case round =>
        obtain ⟨n, hn, rfl, HL, kr⟩ := hrel
        by_cases hlt : 0 < n
        · obtain ⟨b, off, rfl, hsr⟩ := HSR.out n wr hlt (by omega) kr
          obtain ⟨z, hz⟩ : ∃ z, z = 2 * n := ⟨_, rfl⟩
          have hmul : 2 * (n : Int) = (z : Int) := by omega
          have hzn : n ≤ z := by omega
          have hzq : z ≤ q := by omega
          have hzc : z ≤ c := by omega
          have HSZ : Hid (Seen wr (.slice (some ⟨b, off + n, none⟩) (z - n) (c - n)) (bys ((s.drop n).take n))) := by
            show Seen _ _ _
            rw [show z - n = n by omega]; exact hsr
          have HTW := HT.out
          have HE := Lib.hid (HSL.out n (by omega))
          have HSN : Hid (solB (hanF s) n = true → locL s = 1 :: (locSol s n).reverse) := fun hb => by
            obtain ⟨m, rfl⟩ : ∃ m, n = m + 1 := ⟨n - 1, by omega⟩
            exact HLL.out _ (by rw [HL.out, locN_yes hb])
          have HSX : Hid (solB (hanF s) n = false → locN s h = locN s (n - 1)) := fun hb => by
            obtain ⟨m, rfl⟩ : ∃ m, n = m + 1 := ⟨n - 1, by omega⟩
            rw [HL.out, locN_no hb]; rfl
          have HM := Lib.hid (HSM.out n wr.drew (by omega) (by omega) (turn_drewA kr))
          have KR := Lib.hid (turn_drewA kr)
          have hn16 : n ≤ 16 := by omega
          have hwz : IntKind.i64.wrap (z : Int) = (z : Int) := IntWalk.i64_in _ (by omega)
          have hwm : IntKind.i64.wrap (2 * (n : Int)) = (z : Int) := by rw [IntWalk.i64_in _ (by omega)]; exact hmul
          have hsl1 := sliceLH b off q c n z hzn hzc (by omega)
          have hsl2 := sliceLHb b off q c n z hzn hzc (by omega)
          clear hz hsr HTW HSR HSL HSM HLL
          go_wp2_with fail
          go_region_held3 (fun _ => True)
            (exact trivial)
            (first
              | (go_at_call 55; refine HM.out.mono ?_; rintro e w1 ⟨v1, vs1, rfl, o1, k1⟩; have kk1 := turn_trans KR.out k1 (by omega))
              | (go_at_call 54; refine (solveF_own n (hanF s) _ _ ((s.drop n).take n) w1 o1.seen ((show Seen wr.drew _ _ from HSZ.out).touch k1) hlt hn16 HE.out.2 (HT.out w1 kk1).1 (HT.out w1 kk1).2).mono ?_; rintro e w2 ⟨v2, rfl, o2, k2⟩; have kk2 := turn_trans kk1 k2 (by omega)))
          have z1 := kr.size
          have z1' := k1.size
          have z1d : wr.heap.size ≤ w1.heap.size := z1'
          have z2 := k2.size
          have kk := Lib.hid kk2
          clear o1 k1 k2 kk1 kk2 z1' hsl1 hsl2
          by_cases hsol : solB (hanF s) n = true
          · have HFL := Lib.hid (HSN.out hsol)
            have e2 : slvF' (hanF s) n ((s.drop n).take n) = locSol s n := by unfold slvF'; rw [if_pos hsol]; exact HE.out.1
            rw [e2] at o2
            rw [hsol]
            have HLS : Hid ((locSol s n).length = n) := by show _ = _; simp [locSol]
            obtain ⟨g, cg, rfl, hg1, hg2, hg3, hg4⟩ := o2.slice (by rw [HLS.out]; omega)
            rw [HLS.out] at hg3 o2 ⊢
            unfold maxLen at hg4
            have HRV := Lib.hid (reverse_own n g cg w1.heap.size w2.heap.size (fun i => bst (hanF s) (fun i _ => s.getD (n + i) 0) n n i 0) w2 o2 (by omega))
            clear o2 e2 hsol HSN HSX HM
            go_wp2_with fail
            refine HRV.out.mono ?_
            rintro e w3 ⟨rfl, o3, k3⟩
            have kk3 : TurnIn 0 0 w w3 := turn_trans kk.out k3 (by omega)
            have z3 := k3.size
            have o3' : OwnBytes 5 w3 w1.heap.size w2.heap.size (.slice (some ⟨g, 0, none⟩) n cg) (locSol s n).reverse := o3
            have hob : OwnBytes 5 (w3.alloc (.cells #[.int .u8 1] 5)) w3.heap.size (w3.heap.size + 1) (.slice (some ⟨w3.heap.size, 0, none⟩) 1 1) [1] := own_built w3 5 [1] (by simp)
            have ka := turn_alloc w3 (.cells #[.int .u8 1] 5)
            have za := World.size_alloc w3 (.cells #[.int .u8 1] 5)
            have o4 := o3'.keep ka (by omega)
            have kb := turn_alloc (w3.alloc (.cells #[.int .u8 1] 5)) (.cells #[.slice (some ⟨w3.heap.size, 0, none⟩) 1 1, .slice (some ⟨g, 0, none⟩) n cg] 22)
            have zb := World.size_alloc (w3.alloc (.cells #[.int .u8 1] 5)) (.cells #[.slice (some ⟨w3.heap.size, 0, none⟩) 1 1, .slice (some ⟨g, 0, none⟩) n cg] 22)
            rw [za] at zb
            have HCO := Lib.hid (concatB_own (.slice (some ⟨w3.heap.size, 0, none⟩) 1 1) (.slice (some ⟨g, 0, none⟩) n cg) [1] (locSol s n).reverse (w3.heap.size + 1) ((w3.alloc (.cells #[.int .u8 1] 5)).alloc (.cells #[.slice (some ⟨w3.heap.size, 0, none⟩) 1 1, .slice (some ⟨g, 0, none⟩) n cg] 22)) (by rw [zb]; omega) (by rw [← za]; simp) (by rw [← za]; simp) (hob.seen.touch kb) (by have := o4.seen.touch kb; exact this) (by simp) (by simp) (by rw [List.length_reverse, HLS.out]; omega) (by rw [List.length_reverse, HLS.out]; omega))
            have KK5 := Lib.hid (turn_trans (turn_trans kk3 ka (by omega)) kb (by omega))
            have ZB : Hid (w.heap.size ≤ ((w3.alloc (.cells #[.int .u8 1] 5)).alloc (.cells #[.slice (some ⟨w3.heap.size, 0, none⟩) 1 1, .slice (some ⟨g, 0, none⟩) n cg] 22)).heap.size) := by show _ ≤ _; rw [zb]; omega
            clear o3 o3' hob o4 kb zb ka za k3
            go_wp2_with fail
            refine HCO.out.mono ?_
            rintro e w6 ⟨v6, rfl, o6, k6⟩
            go_wp2_with fail
            go_ret2
            refine ⟨_, by rw [HO.out]; rfl, ?_, turn_trans KK5.out k6 (by omega)⟩
            rw [HYES.out HO.out, HFL.out]
            exact o6.wider ZB.out (Nat.le_refl _) (Nat.le_refl _)
          · have hsol' : solB (hanF s) n = false := by simpa using hsol
            have HXX : Hid (locN s h = locN s (n - 1)) := HSX.out hsol'
            rw [hsol']
            clear o2 hsol hsol' HSN HSX HM
            obtain ⟨m, hm⟩ : ∃ m, m = n - 1 := ⟨_, rfl⟩
            rw [← hm] at HXX
            have hwm1 : IntKind.i64.wrap ((n : Int) - 1) = (m : Int) := by rw [IntWalk.i64_in _ (by omega)]; omega
            have hmn : m < n := by omega
            clear hm
            go_wp2_with fail
            go_roundw
            case rel => exact ⟨m, by omega, by go_num, HXX, kk.out⟩
            case measure => simp [intOf]; omega
        · obtain rfl : n = 0 := by omega
          have HF : Hid (locL s = [1]) := by show _ = _; rw [HLL.out 0 HL.out]; rfl
          have hob := own_built wr 5 [1] (by simp)
          have HOB : Hid (OwnBytes 5 (wr.alloc (.cells #[.int .u8 1] 5)) wr.heap.size (wr.heap.size + 1) (.slice (some ⟨wr.heap.size, 0, none⟩) 1 1) [1]) := hob
          have kz := kr.size
          clear hob
          go_wp2_with fail
          go_ret2
          refine ⟨_, by rw [HO.out]; rfl, ?_, turn_trans kr (turn_alloc _ _) (by omega)⟩
          rw [HYES.out HO.out, HF.out]
          exact HOB.out.wider kz (by simp) (Nat.le_refl _)
    · have HO : Hid (locOk s = false) := by show _ = _; rw [HOK.out]; simp [h8]
      have h8i : (8 : Int) < (q : Int) := by omega
      go_enter Tryz.func20, Tryz.ntmps20
      go_wp2_with fail
      refine HCC.out.mono ?_
      rintro e w' ⟨rfl, rfl⟩
      go_wp2_with fail
      go_ret2
      exact ⟨.slice none 0 0, by rw [HO.out]; rfl, by rw [HNO.out HO.out]; exact OwnBytes.nil _ _ _, TurnIn.refl _⟩
  · have hr0 : (((q : Int) % 2) != 0) = true := by rw [show (q : Int) % 2 = 1 by omega]; rfl
    have hr2 : ((q : Int).tmod 2 != 0) = true := by rw [Int.tmod_eq_emod_of_nonneg (by omega)]; exact hr0
    have HO : Hid (locOk s = false) := by show _ = _; rw [HOK.out]; simp [hodd]
    go_enter Tryz.func20, Tryz.ntmps20
    go_wp2_with fail
    go_ret2
    exact ⟨.slice none 0 0, by rw [HO.out]; rfl, by rw [HNO.out HO.out]; exact OwnBytes.nil _ _ _, TurnIn.refl _⟩

end Go.Proofs.YtblfobbeojdihaaGreatDoor
