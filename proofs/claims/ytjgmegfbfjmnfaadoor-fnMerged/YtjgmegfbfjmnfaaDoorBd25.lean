/- Joined texts: PartWalks, Mend1, MendMath, FixMath, ErrMath, ErrLaw, FusMath. -/
import Derived.Test.YtjgmegfbfjmnfaaDoorBd06
import Derived.Test.YtjgmegfbfjmnfaaDoorBd03
import Derived.Test.YtjgmegfbfjmnfaaDoorBd04
import Derived.Test.YtjgmegfbfjmnfaaDoorBd05
import Derived.Deep.QuietTactic
import Derived.BigQuiet
import Derived.Test.YtjgmegfbfjmnfaaDoorBd15
import Derived.Test.YtjgmegfbfjmnfaaDoorBd11
import Derived.Test.YtjgmegfbfjmnfaaDoorBd13
import Derived.Test.YtjgmegfbfjmnfaaDoorBd16
import Derived.Test.YtjgmegfbfjmnfaaDoorBd17
import Derived.Test.YtjgmegfbfjmnfaaDoorBd19
import Derived.Test.YtjgmegfbfjmnfaaDoorBd22
set_option linter.unusedSimpArgs false
set_option linter.unusedVariables false
/- PartOf, the program's. -/
namespace Go.Proofs.YtjgmegfbfjmnfaaDoor
open Go.RowKit G294

end Go.Proofs.YtjgmegfbfjmnfaaDoor

/- lostInverse, the program's. -/
namespace G294
open Go Go.RowKit
/-- the columns of the lost elements in the first rows of the matrix of the parities -/
def lostF (l : List Int) : Ents := fun i j => prmF i (l.getD j 0).toNat
def liF (l : List Int) : Ents := ent (mkM l.length l.length (lostF l))
def liOk (l : List Int) (k : Nat) : Bool := chosen l k && decide ((est (liF l) l.length l.length).2 = l.length)
def liR (l : List Int) (k : Nat) : Mat := if liOk l k = true then mkM l.length l.length (bst (liF l) idF l.length l.length) else []
theorem li_mk (l : List Int) : mkM l.length l.length (liF l) = mkM l.length l.length (lostF l) := mkM_congr fun i j hi hj => ent_mkM _ _ _ i j hi hj
theorem li_inv {l : List Int} (h1 : 1 ≤ l.length) (h2 : l.length ≤ 16) : invOk (mkM l.length l.length (lostF l)) = decide ((est (liF l) l.length l.length).2 = l.length) := by
  have g : goodM (mkM l.length l.length (lostF l)) = true := good_mkM _ _ _ h1 h2 h1 h2
  unfold invOk squareM rankN
  rw [g, wid_mkM _ _ _ (by omega), mkM_length]
  have e : decide (l.length = l.length) = true := by simp
  rw [e]; rfl
theorem li_R {l : List Int} {k : Nat} (h1 : 1 ≤ l.length) (h2 : l.length ≤ 16) (hc : chosen l k = true) : invR (mkM l.length l.length (lostF l)) = liR l k ∧ invOk (mkM l.length l.length (lostF l)) = liOk l k := by
  have e := li_inv h1 h2
  have e2 : liOk l k = invOk (mkM l.length l.length (lostF l)) := by rw [e]; simp [liOk, hc]
  refine ⟨?_, e2.symm⟩
  unfold invR liR invF
  rw [e2, mkM_length]; rfl
theorem li_no {l : List Int} {k : Nat} (h : chosen l k = false) : liOk l k = false ∧ liR l k = [] := by
  have e : liOk l k = false := by simp [liOk, h]
  exact ⟨e, if_neg (by rw [e]; simp)⟩
end G294
namespace Go.Proofs.YtjgmegfbfjmnfaaDoor
open Go.RowKit G294

end Go.Proofs.YtjgmegfbfjmnfaaDoor

/- MendStripe: what is mended. -/
namespace G294
open Go Go.RowKit
def zerosL (n : Nat) : List UInt8 := mkRow n fun _ => 0
@[simp] theorem zerosL_length (n : Nat) : (zerosL n).length = n := by simp [zerosL]
/-- the first k elements of l are places: what stands there is replaced by X -/
def putAll (D : List (List UInt8)) (l : List Int) (X : Nat → List UInt8) : Nat → List (List UInt8)
  | 0 => D
  | k + 1 => (putAll D l X k).set (l.getD k 0).toNat (X k)
@[simp] theorem putAll_length (D : List (List UInt8)) (l : List Int) (X : Nat → List UInt8) (k : Nat) : (putAll D l X k).length = D.length := by
  induction k with
  | zero => rfl
  | succ k ih => simp [putAll, ih]
theorem putAll_lens {D : List (List UInt8)} {l : List Int} {X : Nat → List UInt8} {n k : Nat} (hD : ∀ t ∈ D, t.length = n) (hX : ∀ i, i < k → (X i).length = n) : ∀ t ∈ putAll D l X k, t.length = n := by
  induction k with
  | zero => exact hD
  | succ k ih =>
    intro t ht
    rcases List.mem_or_eq_of_mem_set ht with h | h
    · exact ih (fun i hi => hX i (by omega)) t h
    · rw [h]; exact hX k (by omega)
theorem putAll_get (D : List (List UInt8)) (l : List Int) (X : Nat → List UInt8) (k i : Nat) (h : ∀ j, j < k → (l.getD j 0).toNat ≠ i) : (putAll D l X k)[i]? = D[i]? := by
  induction k with
  | zero => rfl
  | succ k ih =>
    rw [putAll, List.getElem?_set_ne (h k (by omega)), ih fun j hj => h j (by omega)]
theorem putAll_same (D E : List (List UInt8)) (l : List Int) (X : Nat → List UInt8) (k : Nat) (hl : D.length = E.length) (h : ∀ i, (∀ j, j < k → (l.getD j 0).toNat ≠ i) → D[i]? = E[i]?) : putAll D l X k = putAll E l X k := by
  refine List.ext_getElem? fun i => ?_
  induction k generalizing D E with
  | zero => exact h i (fun j hj => by omega)
  | succ k ih =>
    rw [putAll, putAll]
    by_cases e : (l.getD k 0).toNat = i
    · subst e
      rw [List.getElem?_set, List.getElem?_set]
      simp only [putAll_length, hl, if_true]
    · rw [List.getElem?_set_ne e, List.getElem?_set_ne e]
      by_cases h2 : ∀ j, j < k → (l.getD j 0).toNat ≠ i
      · rw [putAll_get _ _ _ _ _ h2, putAll_get _ _ _ _ _ h2]
        refine h i fun j hj => ?_
        rcases Nat.lt_or_ge j k with h3 | h3
        · exact h2 j h3
        · obtain rfl : j = k := by omega
          exact e
      · -- the place was put
        clear h ih
        have key : ∀ (m : Nat), m ≤ k → (∃ j, j < m ∧ (l.getD j 0).toNat = i) → (putAll D l X m)[i]? = (putAll E l X m)[i]? := by
          intro m
          induction m with
          | zero => intro _ ⟨j, hj, _⟩; omega
          | succ m ihm =>
            intro hm ⟨j, hj, hji⟩
            rw [putAll, putAll]
            by_cases e2 : (l.getD m 0).toNat = i
            · subst e2
              rw [List.getElem?_set, List.getElem?_set]
              simp only [putAll_length, hl, if_true]
            · rw [List.getElem?_set_ne e2, List.getElem?_set_ne e2]
              refine ihm (by omega) ⟨j, ?_, hji⟩
              rcases Nat.lt_or_ge j m with h3 | h3
              · exact h3
              · obtain rfl : j = m := by omega
                exact absurd hji e2
        refine key k (Nat.le_refl _) ?_
        rcases Classical.em (∃ j, j < k ∧ (l.getD j 0).toNat = i) with h3 | h3
        · exact h3
        · exact absurd (fun j hj he => h3 ⟨j, hj, he⟩) h2
theorem putAll_blank (D : List (List UInt8)) (l : List Int) (X : Nat → List UInt8) (Y : Nat → List UInt8) (k : Nat) : putAll (putAll D l Y k) l X k = putAll D l X k :=
  putAll_same _ _ _ _ _ (putAll_length _ _ _ _) fun i h => putAll_get _ _ _ _ _ h
/-- the data with the lost elements blank -/
def blankT (D : List (List UInt8)) (l : List Int) (n k : Nat) : List (List UInt8) := putAll D l (fun _ => zerosL n) k
theorem plusL_comm {a b : List UInt8} (h : b.length = a.length) : plusL a 1 b = plusL b 1 a := by
  unfold plusL
  rw [h]
  exact mkRow_congr fun p _ => by rw [gmul_one_left, gmul_one_left, UInt8.xor_comm]
/-- what the lost elements contribute to the first parities -/
def leftT (s : Strp) (l : List Int) (i : Nat) : List UInt8 := plusL (s.2.getD i []) 1 (comb s.1.length (firstLen s) (prmF i) (blankT s.1 l (firstLen s) l.length))
def foundT (s : Strp) (l : List Int) (i : Nat) : List UInt8 := comb l.length (firstLen s) (bst (liF l) idF l.length l.length i) (textsF l.length (leftT s l))
def mndPre (s : Strp) (l : List Int) : Bool := strpOk s && (someOk l s.1.length && decide (l.length ≤ s.2.length))
def mndOk (s : Strp) (l : List Int) : Bool := mndPre s l && (decide (l.length = 0) || liOk l s.1.length)
def mndS (s : Strp) (l : List Int) : Strp := (putAll s.1 l (foundT s l) l.length, s.2)
def mndR (s : Strp) (l : List Int) : Strp := if mndOk s l = true then mndS s l else ([], [])
theorem mndR_no {s : Strp} {l : List Int} (h : mndOk s l = false) : mndR s l = ([], []) := if_neg (by rw [h]; simp)
theorem mndR_yes {s : Strp} {l : List Int} (h : mndOk s l = true) : mndR s l = mndS s l := if_pos h
theorem mndR_len (s : Strp) (l : List Int) : (mndR s l).1.length + (mndR s l).2.length ≤ 20 := by
  unfold mndR; split
  · rename_i h
    simp only [mndOk, mndPre, Bool.and_eq_true] at h
    have := strpOk_b h.1.1
    simp only [mndS, putAll_length]; omega
  · simp
end G294

/- FnMended's mathematics: a change keeps a right stripe right and a wrong one wrong; a right stripe is mended to itself. -/
namespace G294
open Go Go.RowKit
theorem x_cancel {a b c : UInt8} (h : a ^^^ c = b ^^^ c) : a = b := by
  have e : ∀ y : UInt8, (y ^^^ c) ^^^ c = y := fun y => by rw [UInt8.xor_assoc, UInt8.xor_self, UInt8.xor_zero]
  rw [← e a, h, e]
theorem x_back (a b : UInt8) : a ^^^ (a ^^^ b) = b := by rw [← UInt8.xor_assoc, UInt8.xor_self, UInt8.zero_xor]
theorem ent_set {T : List (List UInt8)} {q : Nat} {x : List UInt8} (hq : q < T.length) (j p : Nat) : ent (T.set q x) j p = if j = q then x.getD p 0 else ent T j p := by
  unfold ent
  by_cases h : j = q
  · subst h; simp [List.getD, hq]
  · rw [if_neg h]
    have : (T.set q x).getD j [] = T.getD j [] := by simp only [List.getD, List.getElem?_set_ne (Ne.symm h)]
    rw [this]
/-- one text of a sum is put in another's place -/
theorem combF_set {T : List (List UInt8)} {q n : Nat} {x : List UInt8} (f : Nat → UInt8) (hq : q < T.length) (hn : q < n) (p : Nat) : combF n f (T.set q x) p = combF n f T p ^^^ gmul (f q) (ent T q p ^^^ x.getD p 0) := by
  unfold combF
  have e : ∀ j, j < n → gmul (f j) (ent (T.set q x) j p) = gmul (f j) (ent T j p) ^^^ (if j = q then gmul (f q) (ent T q p ^^^ x.getD p 0) else 0) := fun j _ => by
    rw [ent_set hq]
    by_cases h : j = q
    · subst h
      rw [if_pos rfl, if_pos rfl, gmul_xor, x_back]
    · rw [if_neg h, if_neg h, UInt8.xor_zero]
  rw [sumK_congr e, sumK_xor, sumK_one (k := q) _ hn (fun l _ hne => if_neg hne), if_pos rfl]
theorem zerosL_get (n p : Nat) : (zerosL n).getD p 0 = 0 := by
  by_cases h : p < n
  · rw [zerosL, mkRow_getD _ _ _ h]
  · simp [zerosL, mkRow, List.getD, h]
def apartL (l : List Int) : Prop := ∀ a b, a < b → b < l.length → (l.getD a 0).toNat ≠ (l.getD b 0).toNat
theorem blank_comb {D : List (List UInt8)} {l : List Int} {n0 : Nat} (hd : apartL l) (hin : ∀ j, j < l.length → (l.getD j 0).toNat < D.length) (f : Nat → UInt8) (p : Nat) : ∀ k, k ≤ l.length →
    combF D.length f (blankT D l n0 k) p = combF D.length f D p ^^^ sumK k fun t => gmul (f (l.getD t 0).toNat) (ent D (l.getD t 0).toNat p) := by
  intro k
  induction k with
  | zero => intro _; simp [blankT, putAll, sumK]
  | succ k ih =>
    intro hk
    have hz := hin k (by omega)
    have e1 : blankT D l n0 (k + 1) = (blankT D l n0 k).set (l.getD k 0).toNat (zerosL n0) := rfl
    have hl : (blankT D l n0 k).length = D.length := putAll_length _ _ _ _
    have e2 : ent (blankT D l n0 k) (l.getD k 0).toNat p = ent D (l.getD k 0).toNat p := by
      have hp := putAll_get D l (fun _ => zerosL n0) k (l.getD k 0).toNat fun j hj => hd j k hj (by omega)
      unfold ent blankT
      generalize (l.getD k 0).toNat = z at hp ⊢
      have e : (putAll D l (fun _ => zerosL n0) k).getD z [] = D.getD z [] := by simp only [List.getD, hp]
      rw [e]
    rw [e1, combF_set f (by rw [hl]; exact hz) hz, ih (by omega), zerosL_get, UInt8.xor_zero, e2, UInt8.xor_assoc]
    rfl
theorem some_apart {l : List Int} {size : Nat} (h : someOk l size = true) : apartL l := by
  have h' := (someOk_iff l size).1 h
  intro a b hab hb
  have mono : ∀ d, a + d < l.length → 0 < d → l.getD a 0 < l.getD (a + d) 0 := fun d => by
    induction d with
    | zero => intro _ h0; omega
    | succ d ih =>
      intro hlt _
      have h3 := (h' (a + (d + 1)) hlt).2.2 (by omega)
      have e : a + (d + 1) - 1 = a + d := by omega
      rw [e] at h3
      rcases Nat.eq_zero_or_pos d with h0 | h0
      · subst h0; exact h3
      · exact Int.lt_trans (ih (by omega) h0) h3
  have h1 := mono (b - a) (by omega) (by omega)
  have e : a + (b - a) = b := by omega
  rw [e] at h1
  have h2 := (h' a (by omega)).1
  omega
theorem right_par {u : Strp} (h : strpOk u = true) (hr : rightR u = true) {i : Nat} (hi : i < u.2.length) : u.2.getD i [] = comb u.1.length (firstLen u) (prmF i) u.1 := by
  rw [rightR_yes h, decide_eq_true_eq] at hr
  have e : u.2.getD i [] = ((mkS u.1 u.2.length).2).getD i [] := by rw [hr]
  rw [e]
  show (rowsT u.2.length u.1.length (u.1.getD 0 []).length prmF u.1).getD i [] = _
  rw [← textsF_rows, textsF_getD _ _ _ hi]; rfl
/-- what a right stripe's lost elements contribute -/
theorem left_sum {u : Strp} {l : List Int} (h : strpOk u = true) (hr : rightR u = true) (hl : l.length ≤ u.2.length) (hd : apartL l) (hin : ∀ j, j < l.length → (l.getD j 0).toNat < u.1.length) {i p : Nat} (hi : i < l.length) (hp : p < firstLen u) :
    (leftT u l i).getD p 0 = sumK l.length fun t => gmul (lostF l i t) (ent u.1 (l.getD t 0).toNat p) := by
  have h2 := strp_len2 h (show i < u.2.length by omega)
  unfold leftT plusL
  rw [h2, mkRow_getD _ _ _ hp, gmul_one_left, right_par h hr (by omega)]
  unfold comb
  rw [mkRow_getD _ _ _ hp, mkRow_getD _ _ _ hp, blank_comb hd hin (prmF i) p l.length (Nat.le_refl _), x_back]
  rfl
theorem found_right {u : Strp} {l : List Int} (h : strpOk u = true) (hr : rightR u = true) (hl : l.length ≤ u.2.length) (hd : apartL l) (hin : ∀ j, j < l.length → (l.getD j 0).toNat < u.1.length) (hf : (est (liF l) l.length l.length).2 = l.length) {k : Nat} (hk : k < l.length) :
    foundT u l k = u.1.getD (l.getD k 0).toNat [] := by
  have hlen := strp_len1 h (hin k hk)
  rw [← mkRow_self (u.1.getD (l.getD k 0).toNat []), hlen]
  unfold foundT comb
  refine mkRow_congr fun p hp => ?_
  unfold combF
  have e1 : ∀ i, i < l.length → gmul (bst (liF l) idF l.length l.length k i) (ent (textsF l.length (leftT u l)) i p) = sumK l.length fun t => gmul (gmul (bst (liF l) idF l.length l.length k i) (liF l i t)) (ent u.1 (l.getD t 0).toNat p) := fun i hi => by
    have e : ent (textsF l.length (leftT u l)) i p = (leftT u l i).getD p 0 := by unfold ent; rw [textsF_getD _ _ _ hi]
    rw [e, left_sum h hr hl hd hin hi hp, ← sumK_mul]
    refine sumK_congr fun t ht => ?_
    have e2 : liF l i t = lostF l i t := ent_mkM _ _ _ i t hi ht
    rw [e2, gmul_assoc]
  rw [sumK_congr e1, sumK_swap]
  have e2 : ∀ t, t < l.length → (sumK l.length fun i => gmul (gmul (bst (liF l) idF l.length l.length k i) (liF l i t)) (ent u.1 (l.getD t 0).toNat p)) = gmul (idF k t) (ent u.1 (l.getD t 0).toNat p) := fun t ht => by
    rw [sumK_mulr, inv_left hf hk ht]
  rw [sumK_congr e2, sumK_one (k := k) _ hk (fun t ht hne => by simp only [idF]; rw [if_neg (fun e => hne e.symm)]; exact zero_gmul _)]
  simp only [idF, if_true]
  rw [one_gmul]; rfl
theorem putAll_id {D : List (List UInt8)} {l : List Int} {X : Nat → List UInt8} : ∀ k, (∀ i, i < k → (l.getD i 0).toNat < D.length ∧ X i = D.getD (l.getD i 0).toNat []) → putAll D l X k = D := by
  intro k
  induction k with
  | zero => intro _; rfl
  | succ k ih =>
    intro h
    obtain ⟨h1, h2⟩ := h k (by omega)
    rw [putAll, ih fun i hi => h i (by omega), h2]
    generalize (l.getD k 0).toNat = z at h1 ⊢
    simp [List.getD, h1]
theorem mended_same {u : Strp} {l : List Int} (h : mndOk u l = true) (hr : rightR u = true) : mndR u l = u := by
  rw [mndR_yes h]
  have h' := h
  simp only [mndOk, mndPre, Bool.and_eq_true, Bool.or_eq_true, decide_eq_true_eq] at h'
  obtain ⟨⟨h1, h2, h3⟩, h4⟩ := h'
  have hin : ∀ j, j < l.length → (l.getD j 0).toNat < u.1.length := fun j hj => by
    have := (someOk_iff l u.1.length).1 h2 j hj
    have a := this.1; have b := this.2.1
    omega
  unfold mndS
  rw [putAll_id]
  intro i hi
  refine ⟨hin i hi, ?_⟩
  have h5 : liOk l u.1.length = true := by
    rcases h4 with h4 | h4
    · omega
    · exact h4
  simp only [liOk, Bool.and_eq_true, decide_eq_true_eq] at h5
  exact found_right h1 hr h3 (some_apart h2) hin h5.2 hi
theorem mkRow_inj {n : Nat} {f g : Nat → UInt8} : mkRow n f = mkRow n g ↔ ∀ p, p < n → f p = g p := by
  refine ⟨fun h p hp => ?_, mkRow_congr⟩
  rw [← mkRow_getD n f p hp, h, mkRow_getD n g p hp]
theorem rows_iff {m n n0 : Nat} {D P : List (List UInt8)} (hP : P.length = m) : rowsT m n n0 prmF D = P ↔ ∀ i, i < m → comb n n0 (prmF i) D = P.getD i [] := by
  rw [← textsF_rows]
  constructor
  · intro h i hi
    rw [← h, textsF_getD _ _ _ hi]
  · intro h
    refine List.ext_getElem (by rw [textsF_length, hP]) fun i h1 h2 => ?_
    rw [textsF_length] at h1
    have := h i h1
    have e : P.getD i [] = P[i] := by simp [List.getD, h2]
    rw [e] at this
    rw [← this]
    simp [textsF]
theorem changed_ok {s : Strp} {i : Int} {t : List UInt8} (h : chgOk s i t = true) : strpOk (chgR s i t) = true ∧ rightR (chgR s i t) = rightR s ∧ (chgR s i t).1.getD i.toNat [] = t ∧ i.toNat < (chgR s i t).1.length := by
  obtain ⟨hs, hi, ht⟩ := chgOk_b h
  obtain ⟨j, rfl⟩ := Int.eq_ofNat_of_zero_le hi.1
  have hj : j < s.1.length := by omega
  rw [chgR_yes h]
  have b := strpOk_b hs
  have hl1 : ∀ x ∈ s.1.set j t, x.length = firstLen s := fun x hx => by
    rcases List.mem_or_eq_of_mem_set hx with hm | hm
    · exact (strpOk_len hs).1 x hm
    · rw [hm, ht]
  have hF : ∀ k, k < s.2.length → (plusL (s.2.getD k []) (prmF k j) (plusL (s.1.getD j []) 1 t)).length = firstLen s := fun k hk => by rw [plusL_length, strp_len2 hs hk]
  have hl2 : ∀ x ∈ textsF s.2.length (fun k => plusL (s.2.getD k []) (prmF k j) (plusL (s.1.getD j []) 1 t)), x.length = firstLen s := fun x hx => by
    simp only [textsF, List.mem_map, List.mem_range] at hx
    obtain ⟨k, hk, rfl⟩ := hx
    exact hF k hk
  have h0 : ((s.1.set j t).getD 0 []).length = firstLen s := hl1 _ (getD_mem (by simp; omega))
  have h40 := strp_len40 hs
  have hok : strpOk (chgS s j t) = true := by
    have hs' := hs
    simp only [strpOk, Bool.and_eq_true] at hs' ⊢
    refine ⟨by simpa [chgS] using hs'.1, by simpa [chgS] using hs'.2.1, textsOk_all.2 fun x hx => ?_⟩
    simp only [chgS] at hx ⊢
    rw [getD_head_append (by simp; omega), h0]
    rcases List.mem_append.1 hx with hx | hx
    · rw [hl1 x hx]; exact ⟨rfl, h40⟩
    · rw [hl2 x hx]; exact ⟨rfl, h40⟩
  refine ⟨hok, ?_, ?_, ?_⟩
  · rw [rightR_yes hok, rightR_yes hs]
    refine decide_eq_decide.2 ?_
    show rowsT (textsF s.2.length _).length (s.1.set j t).length ((s.1.set j t).getD 0 []).length prmF (s.1.set j t) = textsF s.2.length _ ↔ rowsT s.2.length s.1.length (firstLen s) prmF s.1 = s.2
    rw [h0, textsF_length, List.length_set, rows_iff (textsF_length _ _), rows_iff rfl]
    refine forall_congr' fun k => imp_congr_right fun hk => ?_
    have hk2 := strp_len2 hs hk
    rw [textsF_getD _ _ _ hk, ← mkRow_self (s.2.getD k []), hk2]
    unfold comb plusL
    rw [mkRow_length, mkRow_inj, mkRow_inj]
    refine forall_congr' fun p => imp_congr_right fun hp => ?_
    rw [combF_set _ hj hj, mkRow_getD _ _ _ hp, mkRow_getD _ _ _ (by rw [strp_len1 hs hj]; exact hp), gmul_one_left]
    exact ⟨fun e => x_cancel e, fun e => by rw [e]; rfl⟩
  · simp [chgS, List.getD, hj]
  · simp [chgS]; exact hj
end G294

/- Chapter 8: what the functions answer: generators, remainders, syndromes, words. -/
namespace G294
def mulF (r : UInt8) (a : List UInt8) (i : Nat) (p : Nat) : UInt8 := (if p = 0 then 0 else if p - 1 < i then a.getD (p - 1) 0 else 0) ^^^ (if p < i then gmul (a.getD p 0) r else 0)
/-- a polynomial times x + r -/
def mulR (r : UInt8) (a : List UInt8) : List UInt8 := mkRow (a.length + 1) (mulF r a a.length)
@[simp] theorem mulR_length (r : UInt8) (a : List UInt8) : (mulR r a).length = a.length + 1 := by simp [mulR]
theorem mulF_zero (r : UInt8) (a : List UInt8) (p : Nat) : mulF r a 0 p = 0 := by
  unfold mulF; simp
theorem mulF_step (r : UInt8) (a : List UInt8) (i : Nat) (p : Nat) :
    (if p = i + 1 then mulF r a i (i + 1) ^^^ gmul (a.getD i 0) 1 else if p = i then mulF r a i i ^^^ gmul (a.getD i 0) r else mulF r a i p) = mulF r a (i + 1) p := by
  unfold mulF
  rw [gmul_one]
  by_cases h1 : p = i + 1
  · subst h1; simp [show ¬ i + 1 < i by omega]
  · by_cases h2 : p = i
    · subst h2
      by_cases h3 : p = 0
      · subst h3; simp
      · simp [h3, show p - 1 < p by omega, show p - 1 < p + 1 by omega]
    · rw [if_neg h1, if_neg h2]
      by_cases h3 : p = 0
      · subst h3; simp [show 0 < i by omega]
      · by_cases h4 : p < i
        · simp [h3, h4, show p - 1 < i by omega, show p - 1 < i + 1 by omega, show p < i + 1 by omega]
        · simp [h3, h4, show ¬ p - 1 < i by omega, show ¬ p - 1 < i + 1 by omega, show ¬ p < i + 1 by omega]
theorem mulF_end (r : UInt8) (a : List UInt8) (p : Nat) : mulF r a a.length p = (if p = 0 then 0 else a.getD (p - 1) 0) ^^^ gmul (a.getD p 0) r := by
  unfold mulF
  have e1 : (if p - 1 < a.length then a.getD (p - 1) 0 else 0) = a.getD (p - 1) 0 := by
    split
    · rfl
    · rename_i h; simp [List.getD, List.getElem?_eq_none (Nat.not_lt.1 h)]
  have e2 : (if p < a.length then gmul (a.getD p 0) r else 0) = gmul (a.getD p 0) r := by
    split
    · rfl
    · rename_i h; simp [List.getD, List.getElem?_eq_none (Nat.not_lt.1 h), zero_gmul]
  rw [e1, e2]
theorem mulR_getD (r : UInt8) (a : List UInt8) (p : Nat) (hp : p < a.length + 1) : (mulR r a).getD p 0 = (if p = 0 then 0 else a.getD (p - 1) 0) ^^^ gmul (a.getD p 0) r := by
  unfold mulR; rw [mkRow_getD _ _ _ hp, mulF_end]
/-- the generator: a factor for each of the first n powers of 3 -/
def genL : Nat → List UInt8
  | 0 => [1]
  | n + 1 => mulR (powB 3 (n + 1)) (genL n)
@[simp] theorem genL_length : ∀ n, (genL n).length = n + 1
  | 0 => rfl
  | n + 1 => by rw [genL, mulR_length, genL_length n]
theorem ext_getD {l m : List UInt8} (hl : l.length = m.length) (h : ∀ j, j < l.length → l.getD j 0 = m.getD j 0) : l = m := by
  refine List.ext_getElem hl fun j h1 h2 => ?_
  have := h j h1
  simpa [List.getD, h1, h2] using this
theorem wr_pad (r : UInt8) (a : List UInt8) (h : a.length ≤ 19) : wrC r (pad20 a) = pad20 (mulR r a) := by
  have hp : (pad20 a).length = 20 := pad20_length (by omega)
  have hw : (0 :: (pad20 a).take 19).length = (pad20 a).length := by simp [hp]
  have hwl : (wrC r (pad20 a)).length = 20 := by
    unfold wrC; rw [addL_lenS _ _ (by rw [scaleL_lenS]; exact hw), hw, hp]
  refine ext_getD (by rw [hwl, pad20_length (by simp; omega)]) fun j hj => ?_
  rw [hwl] at hj
  rw [pad20_getD]
  unfold wrC
  rw [addL_getD _ _ (by rw [scaleL_lenS]; exact hw), getD_scale, pad20_getD, gmul_comm r]
  have e1 : (0 :: (pad20 a).take 19).getD j 0 = if j = 0 then 0 else a.getD (j - 1) 0 := by
    cases j with
    | zero => rfl
    | succ j =>
      rw [if_neg (by omega), Nat.add_sub_cancel, ← pad20_getD a j]
      simp [List.getD, List.getElem?_take, show j < 19 by omega]
  rw [e1]
  rcases Nat.lt_or_ge j (a.length + 1) with h1 | h1
  · rw [mulR_getD r a j h1]
  · have e2 : (mulR r a).getD j 0 = 0 := by simp [List.getD, List.getElem?_eq_none (show (mulR r a).length ≤ j by simpa using h1)]
    have e3 : ∀ q, a.length ≤ q → a.getD q 0 = 0 := fun q hq => by simp [List.getD, List.getElem?_eq_none hq]
    rw [e2, e3 j (by omega), if_neg (by omega), e3 (j - 1) (by omega), zero_gmul]; rfl
theorem pad_take (a : List UInt8) : (pad20 a).take a.length = a := by simp [pad20]
/-- t wrong bytes -/
def errT (t : Int) : Bool := decide (1 ≤ t ∧ t ≤ 4)
def genR (t : Int) : List UInt8 := if errT t = true then genL (2 * t.toNat) else []
theorem genR_len (t : Int) : (genR t).length ≤ 9 := by
  unfold genR; split
  · rename_i h
    simp only [errT, decide_eq_true_eq] at h
    simp; omega
  · simp
def rootsL (n : Nat) : List UInt8 := mkRow n fun i => powB 3 (i + 1)
def synL (w : List UInt8) (n : Nat) : List UInt8 := mkRow n fun i => hor (powB 3 (i + 1)) w
def fitW (w : List UInt8) (t : Int) : Bool := errT t && decide (2 * t + 1 ≤ w.length ∧ w.length ≤ 24)
def synR (w : List UInt8) (t : Int) : List UInt8 := if fitW w t = true then synL w (2 * t.toNat) else []
theorem synR_yes {w : List UInt8} {t : Int} (h : fitW w t = true) : synR w t = synL w (2 * t.toNat) := if_pos h
theorem synR_no {w : List UInt8} {t : Int} (h : fitW w t = false) : synR w t = [] := if_neg (by rw [h]; simp)
theorem synR_len (w : List UInt8) (t : Int) : (synR w t).length ≤ 8 := by
  unfold synR; split
  · rename_i h
    simp only [fitW, errT, Bool.and_eq_true, decide_eq_true_eq] at h
    simp [synL]; omega
  · simp
def zeroL (l : List UInt8) : Bool := decide (∀ i, i < l.length → l.getD i 0 = 0)
def isWR (w : List UInt8) (t : Int) : Bool := fitW w t && zeroL (synL w (2 * t.toNat))
def dataR (w : List UInt8) (t : Int) : List UInt8 := if isWR w t = true then w.drop (2 * t.toNat) else []
theorem dataR_len (w : List UInt8) (t : Int) : (dataR w t).length ≤ 24 := by
  unfold dataR; split
  · rename_i h
    simp only [isWR, fitW, Bool.and_eq_true, decide_eq_true_eq] at h
    simp; omega
  · simp
def distN (a b : List UInt8) : Nat → Nat
  | 0 => 0
  | k + 1 => if a.getD k 0 = b.getD k 0 then distN a b k else distN a b k + 1
theorem distN_le (a b : List UInt8) : ∀ k, distN a b k ≤ k
  | 0 => Nat.le_refl _
  | k + 1 => by unfold distN; have := distN_le a b k; split <;> omega
def distOk (a b : List UInt8) : Bool := decide (a.length = b.length ∧ a.length ≤ 24)
def distR (a b : List UInt8) : Int := if distOk a b = true then (distN a b a.length : Int) else 0
/-- one step of a division: f times the divisor g, added from a on; the first j elements of it -/
def remI (g : List UInt8) (a : Nat) (f : UInt8) (F : Nat → UInt8) (j : Nat) (p : Nat) : UInt8 := if a ≤ p ∧ p < a + j then F p ^^^ gmul f (g.getD (p - a) 0) else F p
theorem remI_zero (g : List UInt8) (a : Nat) (f : UInt8) (F : Nat → UInt8) (p : Nat) : remI g a f F 0 p = F p := by
  unfold remI; rw [if_neg (by omega)]
theorem remI_at (g : List UInt8) (a : Nat) (f : UInt8) (F : Nat → UInt8) (j : Nat) : remI g a f F j (a + j) = F (a + j) := by
  unfold remI; rw [if_neg (by omega)]
theorem remI_step (g : List UInt8) (a : Nat) (f : UInt8) (F : Nat → UInt8) (j p : Nat) : (if p = a + j then F (a + j) ^^^ gmul f (g.getD j 0) else remI g a f F j p) = remI g a f F (j + 1) p := by
  unfold remI
  by_cases h : p = a + j
  · subst h; rw [if_pos rfl, if_pos (by omega)]; simp
  · rw [if_neg h]
    by_cases h2 : a ≤ p ∧ p < a + j
    · rw [if_pos h2, if_pos (by omega)]
    · rw [if_neg h2, if_neg (by omega)]
/-- n elements F0, behind m steps of the division by g -/
def remF (g : List UInt8) (n : Nat) (F0 : Nat → UInt8) : Nat → Nat → UInt8
  | 0 => F0
  | m + 1 => remI g (n - m - g.length) (remF g n F0 m (n - 1 - m)) (remF g n F0 m) g.length
/-- what is left of l by g -/
def leftL (l g : List UInt8) : List UInt8 := mkRow (g.length - 1) (remF g l.length (fun i => l.getD i 0) (l.length + 1 - g.length))
@[simp] theorem leftL_length (l g : List UInt8) : (leftL l g).length = g.length - 1 := by simp [leftL]
def zerosN (n : Nat) : List UInt8 := List.replicate n 0
def encOk8 (d : List UInt8) (t : Int) : Bool := errT t && decide (1 ≤ d.length ∧ d.length + 2 * t ≤ 24)
def encL8 (d : List UInt8) (n : Nat) : List UInt8 := leftL (zerosN n ++ d) (genL n) ++ d
def encR8 (d : List UInt8) (t : Int) : List UInt8 := if encOk8 d t = true then encL8 d (2 * t.toNat) else []
theorem encR8_len (d : List UInt8) (t : Int) : (encR8 d t).length ≤ 24 := by
  unfold encR8; split
  · rename_i h
    simp only [encOk8, errT, Bool.and_eq_true, decide_eq_true_eq] at h
    simp [encL8]; omega
  · simp
end G294

/- Chapter 8's mathematics: code words and their distance, located and corrected errors (Peterson; Gorenstein and Zierler). -/
namespace G294
theorem powB_add (x : UInt8) (m n : Nat) : powB x (m + n) = gmul (powB x m) (powB x n) := by
  induction n with
  | zero => rw [Nat.add_zero, powB_zero, gmul_one]
  | succ n ih => rw [← Nat.add_assoc, powB_succ, ih, powB_succ, gmul_assoc]
theorem powB_pow (x : UInt8) (m n : Nat) : powB (powB x m) n = powB x (m * n) := by
  induction n with
  | zero => rw [Nat.mul_zero, powB_zero, powB_zero]
  | succ n ih => rw [powB_succ, ih, Nat.mul_succ, powB_add]
theorem powB_swap (x : UInt8) (m n : Nat) : powB (powB x m) n = powB (powB x n) m := by rw [powB_pow, powB_pow, Nat.mul_comm]
theorem powB_ne {x : UInt8} (h : x ≠ 0) (n : Nat) : powB x n ≠ 0 := by
  induction n with
  | zero => rw [powB_zero]; decide
  | succ n ih => rw [powB_succ]; exact g_ne ih h
theorem powB_inv {x : UInt8} (h : x ≠ 0) (n : Nat) : gmul (powB x n) (powB (ginv x) n) = 1 := by
  induction n with
  | zero => rw [powB_zero, powB_zero, gmul_one]
  | succ n ih =>
    rw [powB_succ, powB_succ, gmul_assoc, gmul_comm (powB (ginv x) n), ← gmul_assoc x, gmul_ginv h, one_gmul, ih]
theorem pow3_ne (n : Nat) : powB 3 n ≠ 0 := powB_ne (by decide) n
theorem pow3_inj {i j : Nat} (hi : i < 255) (hj : j < 255) (h : powB 3 i = powB 3 j) : i = j := by
  have := congrArg UInt8.toNat h
  rw [powB_toNat, powB_toNat] at this
  exact gp_inj hi hj this
theorem hor_sum (x : UInt8) (l : List UInt8) : hor x l = sumK l.length fun p => gmul (l.getD p 0) (powB x p) := by
  conv => lhs; rw [eq_mkRow l]
  rw [hor_mk]
  exact sumK_congr fun p _ => gmul_comm _ _
theorem hor_sum' (x : UInt8) (n : Nat) (f : Nat → UInt8) : hor x (mkRow n f) = sumK n fun p => gmul (f p) (powB x p) := by
  rw [hor_mk]; exact sumK_congr fun p _ => gmul_comm _ _
/-- a sum of powers that vanishes for the first m exponents vanishes for every polynomial -/
theorem poly_sum {n m : Nat} (c X : Nat → UInt8) (h : ∀ i, i < m → sumK n (fun p => gmul (c p) (powB (X p) (i + 1))) = 0) (l : List UInt8) (hl : l.length ≤ m) :
    sumK n (fun p => gmul (c p) (gmul (X p) (hor (X p) l))) = 0 := by
  have e : ∀ p, gmul (c p) (gmul (X p) (hor (X p) l)) = sumK l.length fun j => gmul (l.getD j 0) (gmul (c p) (powB (X p) (j + 1))) := fun p => by
    rw [gmul_comm (X p)]
    conv => lhs; rw [eq_mkRow l]
    rw [hor_up, ← sumK_mul]
    exact sumK_congr fun j _ => by rw [gmul_comm _ (l.getD j 0), gmul_left_comm]
  rw [sumK_congr (g := fun p => sumK l.length fun j => gmul (l.getD j 0) (gmul (c p) (powB (X p) (j + 1)))) (fun p _ => e p), sumK_swap]
  rw [sumK_congr (g := fun _ => 0) (fun j hj => by rw [sumK_mul, h j (by omega), gmul_zero]), sumK_zero]
/-- so every term of it vanishes -/
theorem dual_zero {n m : Nat} {c X : Nat → UInt8} (ha : apartX X n) (h0 : ∀ p, p < n → X p ≠ 0) (h : ∀ i, i < m → sumK n (fun p => gmul (c p) (powB (X p) (i + 1))) = 0) (hnm : n ≤ m) :
    ∀ q, q < n → c q = 0 := by
  intro q hq
  obtain ⟨l, hl, hv⟩ := (upK_poly X q n).2 hq
  replace hv : ∀ x, upK X q x n = hor x l := hv
  have hs := poly_sum c X h l (by omega)
  rw [sumK_one _ hq (fun p hp hne => by rw [← hv, upK_zero hne n hp, gmul_zero, gmul_zero]), ← hv, gmul_comm] at hs
  exact g_cancel (g_ne (h0 q hq) (upK_ne n fun j hj hne => apart_ne ha hq hj (Ne.symm hne))) hs
theorem full_ker {F : Ents} {n : Nat} {u : Nat → UInt8} (h : (est F n n).2 = n) (hk : kerAt F n n u) : ∀ j, j < n → u j = 0 := by
  intro j hj
  have e : sumK n (fun l => gmul (idF j l) (u l)) = u j := by
    rw [sumK_one _ hj (fun l _ hne => by simp [idF, show ¬ j = l from fun e => hne e.symm, zero_gmul])]
    simp [idF, one_gmul]
  rw [← e, sumK_congr (g := fun l => sumK n fun i => gmul (bst F idF n n j i) (gmul (F i l) (u l))) (fun l hl => by
    rw [← inv_left h hj hl, ← sumK_mulr]; exact sumK_congr fun i _ => gmul_assoc _ _ _), sumK_swap]
  rw [sumK_congr (g := fun _ => 0) (fun i hi => by rw [sumK_mul, hk i hi, gmul_zero]), sumK_zero]
/-- the one solution -/
theorem full_sol {F : Ents} {n : Nat} {b x : Nat → UInt8} (h : (est F n n).2 = n) (hx : ∀ i, i < n → sumK n (fun j => gmul (F i j) (x j)) = b i) {i : Nat} (hi : i < n) :
    bst F (fun i _ => b i) n n i 0 = x i := by
  rw [bst_lin F _ n n i 0 hi, sumK_congr (g := fun l => sumK n fun j => gmul (bst F idF n n i l) (gmul (F l j) (x j))) (fun l hl => by
    show gmul _ (b l) = _
    rw [← hx l hl, sumK_mul]), sumK_swap]
  rw [sumK_congr (g := fun j => gmul (idF i j) (x j)) (fun j hj => by
    rw [← inv_left h hi hj, ← sumK_mulr]; exact sumK_congr fun l _ => (gmul_assoc _ _ _).symm)]
  rw [sumK_one _ hi (fun l _ hne => by simp [idF, show ¬ i = l from fun e => hne e.symm, zero_gmul])]
  simp [idF, one_gmul]
/-- a polynomial times x + r has that value -/
theorem hor_mulR (x r : UInt8) (a : List UInt8) : hor x (mulR r a) = gmul (hor x a) (x ^^^ r) := by
  have e : mulR r a = addL (0 :: a) (scaleL r a ++ [0]) := by
    refine ext_getD (by rw [addL_lenS _ _ (by simp [scaleL])]; simp) fun j hj => ?_
    rw [mulR_getD r a j (by simpa using hj), addL_getD _ _ (by simp [scaleL])]
    congr 1
    · cases j <;> simp [List.getD]
    · rw [gmul_comm]
      rcases Nat.lt_or_ge j a.length with h | h
      · rw [← getD_scale]; simp [List.getD, List.getElem?_append, scaleL, h]
      · have hj' : j = a.length := by have : j < a.length + 1 := by simpa using hj
                                      omega
        subst hj'
        simp [List.getD, List.getElem?_append, scaleL, gmul_zero]
  rw [e, hor_addL _ _ _ (by simp [scaleL]), hor_cons0]
  have e2 : hor x (scaleL r a ++ [0]) = gmul r (hor x a) := by
    rw [hor_snoc, gmul_zero, UInt8.xor_zero, hor_scaleL]
  rw [e2, gmul_xor, gmul_comm r]
theorem mulR_monic (r : UInt8) (q : List UInt8) : ∃ q', q'.length = q.length + 1 ∧ mulR r (q ++ [1]) = q' ++ [1] := by
  refine ⟨(mulR r (q ++ [1])).take (q.length + 1), by simp, ?_⟩
  have hl : (mulR r (q ++ [1])).length = q.length + 1 + 1 := by simp
  have h1 : (mulR r (q ++ [1])).getD (q.length + 1) 0 = 1 := by
    rw [mulR_getD _ _ _ (by simp), if_neg (by omega)]
    simp [List.getD, zero_gmul]
  conv => lhs; rw [← List.take_append_drop (q.length + 1) (mulR r (q ++ [1]))]
  congr 1
  rw [List.drop_eq_getElem_cons (by omega), List.drop_of_length_le (by omega)]
  have : (mulR r (q ++ [1]))[q.length + 1]'(by omega) = 1 := by simpa [List.getD, hl] using h1
  rw [this]
/-- the product of all x + X k is monic -/
theorem prK_monic (X : Nat → UInt8) : ∀ v, ∃ q : List UInt8, q.length = v ∧ ∀ x, prK X x v = hor x (q ++ [1])
  | 0 => ⟨[], rfl, fun x => by simp [prK, hor, zero_gmul]⟩
  | v + 1 => by
    obtain ⟨q, hq, h⟩ := prK_monic X v
    obtain ⟨q', hq', h'⟩ := mulR_monic (X v) q
    refine ⟨q', by omega, fun x => ?_⟩
    rw [← h', hor_mulR, ← h, prK]
theorem genL_monic : ∀ n, ∃ q : List UInt8, q.length = n ∧ genL n = q ++ [1]
  | 0 => ⟨[], rfl, rfl⟩
  | n + 1 => by
    obtain ⟨q, hq, h⟩ := genL_monic n
    obtain ⟨q', hq', h'⟩ := mulR_monic (powB 3 (n + 1)) q
    exact ⟨q', by omega, by rw [genL, h, h']⟩
theorem genL_root : ∀ n i, i < n → hor (powB 3 (i + 1)) (genL n) = 0
  | 0, i, h => by omega
  | n + 1, i, h => by
    rw [genL, hor_mulR]
    by_cases e : i = n
    · subst e; rw [UInt8.xor_self, gmul_zero]
    · rw [genL_root n i (by omega), zero_gmul]
/-- the syndromes s are those of v errors c at the places X -/
structure Errs (s : List UInt8) (v : Nat) (c X : Nat → UInt8) : Prop where
  apart : apartX X v
  ne : ∀ k, k < v → X k ≠ 0
  cne : ∀ k, k < v → c k ≠ 0
  at' : ∀ i, i < s.length → s.getD i 0 = sumK v fun k => gmul (c k) (powB (X k) (i + 1))
def hanF (s : List UInt8) : Ents := fun i j => s.getD (i + j) 0
theorem han_sum {s : List UInt8} {v : Nat} {c X : Nat → UInt8} (h : Errs s v c X) (u : Nat → UInt8) {i n : Nat} (hn : i + n ≤ s.length) :
    sumK n (fun j => gmul (hanF s i j) (u j)) = sumK v fun k => gmul (gmul (c k) (hor (X k) (mkRow n u))) (powB (X k) (i + 1)) := by
  rw [sumK_congr (g := fun j => sumK v fun k => gmul (gmul (c k) (powB (X k) (i + j + 1))) (u j)) (fun j hj => by
    show gmul (s.getD (i + j) 0) (u j) = _
    rw [h.at' (i + j) (by omega), ← sumK_mulr]), sumK_swap]
  refine sumK_congr fun k _ => ?_
  rw [hor_sum', gmul_assoc, ← sumK_mulr, ← sumK_mul]
  refine sumK_congr fun j _ => ?_
  rw [show i + j + 1 = j + (i + 1) by omega, powB_add, gmul_assoc, gmul_assoc, gmul_comm (u j), gmul_assoc, gmul_comm (powB (X k) (i + 1)) (u j), ← gmul_assoc (powB (X k) j)]
theorem han_many {s : List UInt8} {v : Nat} {c X : Nat → UInt8} (h : Errs s v c X) {n : Nat} (hn : v < n) (hs : 2 * n ≤ s.length) : (est (hanF s) n n).2 ≠ n := by
  intro hf
  obtain ⟨q, hq, hp⟩ := prK_monic X v
  have hk : kerAt (hanF s) n n (fun j => (q ++ [1]).getD j 0) := fun i hi => by
    rw [han_sum h _ (by omega), sumK_congr (g := fun _ => 0) (fun k hk => by
      have e : hor (X k) (mkRow n fun j => (q ++ [1]).getD j 0) = 0 := by
        have hm : mkRow n (fun j => (q ++ [1]).getD j 0) = (q ++ [1]) ++ List.replicate (n - (v + 1)) 0 := by
          refine ext_getD (by simp; omega) fun j hj => ?_
          rw [mkRow_getD _ _ _ (by simpa using hj)]
          simp only [List.getD, List.getElem?_append (l₁ := q ++ [1])]
          split
          · rfl
          · rename_i hh
            rw [List.getElem?_eq_none (by omega)]
            simp only [List.getElem?_replicate]
            split <;> rfl
        rw [hm, hor_pad, ← hp, prK_zero v hk]
      rw [e, gmul_zero, zero_gmul]), sumK_zero]
  have hz := full_ker hf hk 0 (by omega)
  have h0 : prK X 0 v ≠ 0 := prK_ne v fun j hj e => h.ne j hj e.symm
  rw [hp] at h0
  cases hqq : q ++ [1] with
  | nil => simp at hqq
  | cons a l =>
    rw [hqq] at h0 hz
    rw [hor_at0] at h0
    exact h0 (by simpa using hz)
theorem han_full {s : List UInt8} {v : Nat} {c X : Nat → UInt8} (h : Errs s v c X) (hs : 2 * v ≤ s.length) : (est (hanF s) v v).2 = v := by
  refine rank_full (Nat.le_refl _) fun u hu j hj => ?_
  have hd := dual_zero (c := fun k => gmul (c k) (hor (X k) (mkRow v u))) h.apart h.ne (m := v) (fun i hi => by
    have := hu i hi
    rwa [han_sum h _ (by omega)] at this) (Nat.le_refl _)
  have hz := hor_root ((List.range v).map X) (mkRow v u) (by simp) (apart_nodup h.apart) (fun x hx => by
    obtain ⟨i, hi, rfl⟩ := List.mem_map.1 hx
    have hi := List.mem_range.1 hi
    exact g_cancel (h.cne i hi) (hd i hi))
  have hl : j < (mkRow v u).length := by simpa using hj
  have := hz _ (List.getElem_mem hl)
  rwa [mkRow_get] at this
/-- the equations' solution is the product of all x + X k, but for its leading 1 -/
theorem han_sol {s : List UInt8} {v : Nat} {c X : Nat → UInt8} (h : Errs s v c X) (hs : 2 * v ≤ s.length) :
    ∃ q : List UInt8, q.length = v ∧ (∀ x, prK X x v = hor x (q ++ [1])) ∧ ∀ i, i < v → bst (hanF s) (fun i _ => s.getD (v + i) 0) v v i 0 = q.getD i 0 := by
  obtain ⟨q, hq, hp⟩ := prK_monic X v
  refine ⟨q, hq, hp, fun i hi => full_sol (b := fun i => s.getD (v + i) 0) (x := fun i => q.getD i 0) (han_full h hs) (fun l hl => ?_) hi⟩
  have hk : sumK (v + 1) (fun j => gmul (hanF s l j) ((q ++ [1]).getD j 0)) = 0 := by
    rw [han_sum h _ (by omega), sumK_congr (g := fun _ => 0) (fun k hk => by
      have hm : mkRow (v + 1) (fun j => (q ++ [1]).getD j 0) = q ++ [1] := by
        have := eq_mkRow (q ++ [1])
        rw [show (q ++ [(1 : UInt8)]).length = v + 1 by simp [hq]] at this
        exact this.symm
      rw [hm, ← hp, prK_zero v hk, gmul_zero, zero_gmul]), sumK_zero]
  rw [sumK] at hk
  have e1 : (q ++ [1]).getD v 0 = 1 := by simp [List.getD, ← hq]
  rw [e1, gmul_one] at hk
  have := x_eq hk
  rw [show v + l = l + v by omega]
  show _ = hanF s l v
  rw [← this]
  exact sumK_congr fun j hj => by simp [List.getD, List.getElem?_append, hq, hj]
theorem hor_rev {x : UInt8} (hx : x ≠ 0) : ∀ l : List UInt8, gmul (powB x l.length) (hor (ginv x) l.reverse) = gmul x (hor x l)
  | [] => by simp [hor, gmul_zero]
  | c :: l => by
    rw [List.reverse_cons, hor_snoc, gmul_xor, List.length_cons, List.length_reverse, powB_succ, gmul_comm (powB x l.length) x, gmul_assoc x, gmul_assoc x, hor_rev hx l, ← gmul_assoc (powB x l.length), powB_inv hx, one_gmul, hor, gmul_xor, gmul_comm x (hor x l)]
theorem rev_root {x : UInt8} (hx : x ≠ 0) (l : List UInt8) : hor (ginv x) l.reverse = 0 ↔ hor x l = 0 := by
  have h := hor_rev hx l
  constructor
  · intro e
    rw [e, gmul_zero] at h
    exact g_cancel hx h.symm
  · intro e
    rw [e, gmul_zero] at h
    exact g_cancel (powB_ne hx _) h
/-- the powers of the places, as a square matrix -/
def plcF (X : Nat → UInt8) : Ents := fun i j => powB (X j) (i + 1)
theorem plc_full {X : Nat → UInt8} {v : Nat} (ha : apartX X v) (h0 : ∀ k, k < v → X k ≠ 0) : (est (plcF X) v v).2 = v := by
  refine rank_full (Nat.le_refl _) fun u hu => dual_zero ha h0 (m := v) (fun i hi => ?_) (Nat.le_refl _)
  rw [← hu i hi]
  exact sumK_congr fun j _ => gmul_comm _ _
theorem plc_sol {s : List UInt8} {v : Nat} {c X : Nat → UInt8} (h : Errs s v c X) (hs : v ≤ s.length) {i : Nat} (hi : i < v) : bst (plcF X) (fun i _ => s.getD i 0) v v i 0 = c i :=
  full_sol (plc_full h.apart h.ne) (fun l hl => by
    rw [h.at' l (by omega)]; exact sumK_congr fun j _ => gmul_comm _ _) hi
end G294

/- What is merged or added is right as it was. -/
namespace G294
open Go Go.RowKit
theorem sumK_add (a b : Nat) (f : Nat → UInt8) : sumK (a + b) f = sumK a f ^^^ sumK b fun j => f (a + j) := by
  induction b with
  | zero => show sumK a f = sumK a f ^^^ 0; simp
  | succ b ih =>
    show sumK (a + b) f ^^^ f (a + b) = sumK a f ^^^ ((sumK b fun j => f (a + j)) ^^^ f (a + b))
    rw [ih, UInt8.xor_assoc]
theorem ent_left {A B : List (List UInt8)} {j : Nat} (h : j < A.length) (p : Nat) : ent (A ++ B) j p = ent A j p := by
  unfold ent; simp [List.getD, List.getElem?_append_left h]
theorem ent_right {A B : List (List UInt8)} (j p : Nat) : ent (A ++ B) (A.length + j) p = ent B j p := by
  unfold ent; simp [List.getD, List.getElem?_append_right (show A.length ≤ A.length + j by omega)]
theorem combF_append (A B : List (List UInt8)) (n : Nat) (f : Nat → UInt8) (p : Nat) : combF (A.length + n) f (A ++ B) p = combF A.length f A p ^^^ combF n (fun j => f (A.length + j)) B p := by
  unfold combF
  rw [sumK_add]
  congr 1
  · exact sumK_congr fun j hj => by rw [ent_left hj]
  · exact sumK_congr fun j hj => by rw [ent_right]
theorem prm_shift (i k n : Nat) (T : List (List UInt8)) (p : Nat) : combF n (fun j => prmF i (k + j)) T p = gmul (prmF i k) (combF n (prmF i) T p) := by
  unfold combF
  rw [← sumK_mul]
  refine sumK_congr fun j _ => ?_
  show gmul (powB (powB 3 i) (k + j)) _ = gmul (powB (powB 3 i) k) (gmul (powB (powB 3 i) j) _)
  rw [powB_add, gmul_assoc]
theorem merged_right {a b : Strp} (h : mrgOk a b = true) (ha : rightR a = true) (hb : rightR b = true) : rightR (mrgR a b) = true ∧ mkR (a.1 ++ b.1) (a.2.length : Int) = mrgR a b := by
  obtain ⟨h1, h2, h3, h4, h5⟩ := mrgOk_b h
  rw [mrgR_yes h]
  have hok : strpOk (mrgS a b) = true := by rw [mrg_spec h1 h2 h4]; simpa using h5
  have b1 := strpOk_b h1
  have e0 : ((a.1 ++ b.1).getD 0 []).length = firstLen a := by rw [head_len b1.1.1]; rfl
  have key : rowsT a.2.length (a.1 ++ b.1).length ((a.1 ++ b.1).getD 0 []).length prmF (a.1 ++ b.1) = textsF a.2.length (mrgP a b) := by
    rw [← textsF_rows, e0]
    refine textsF_congr fun i hi => ?_
    unfold comb mrgP plusL
    rw [strp_len2 h1 hi]
    refine mkRow_congr fun p hp => ?_
    rw [List.length_append, combF_append, prm_shift, right_par h1 ha hi, right_par h2 hb (by omega)]
    unfold comb
    rw [mkRow_getD _ _ _ hp, mkRow_getD _ _ _ (by rw [← h4]; exact hp)]
  refine ⟨?_, ?_⟩
  · rw [rightR_yes hok]
    refine decide_eq_true ?_
    show rowsT (textsF a.2.length (mrgP a b)).length (a.1 ++ b.1).length ((a.1 ++ b.1).getD 0 []).length prmF (a.1 ++ b.1) = textsF a.2.length (mrgP a b)
    rw [textsF_length]; exact key
  · have hm : mkOk (a.1 ++ b.1) (a.2.length : Int) = true := by
      have := strp_make hok
      simpa [mrgS] using this
    rw [mkR_yes hm]
    show (a.1 ++ b.1, rowsT a.2.length (a.1 ++ b.1).length ((a.1 ++ b.1).getD 0 []).length prmF (a.1 ++ b.1)) = (a.1 ++ b.1, textsF a.2.length (mrgP a b))
    rw [key]
theorem sad_len {A B : List (List UInt8)} {n : Nat} (hA : ∀ t ∈ A, t.length = n) : ∀ t ∈ sadT A B, t.length = n := by
  intro t ht
  simp only [sadT, textsF, List.mem_map, List.mem_range] at ht
  obtain ⟨i, hi, rfl⟩ := ht
  rw [plusL_length]
  exact hA _ (getD_mem hi)
theorem added_ok {a b : Strp} (h : sadOk a b = true) : strpOk (sadS a b) = true := by
  obtain ⟨h1, h2, h3, h4, h5⟩ := sadOk_b h
  have b1 := strpOk_b h1
  have l1 := strpOk_len h1
  have s1 : ∀ t ∈ sadT a.1 b.1, t.length = firstLen a := sad_len l1.1
  have s2 : ∀ t ∈ sadT a.2 b.2, t.length = firstLen a := sad_len l1.2.1
  have h0 : ((sadT a.1 b.1).getD 0 []).length = firstLen a := s1 _ (getD_mem (by simp [sadT]; omega))
  have h40 := strp_len40 h1
  have hs' := h1
  simp only [strpOk, Bool.and_eq_true] at hs' ⊢
  refine ⟨by simpa [sadS, sadT] using hs'.1, by simpa [sadS, sadT] using hs'.2.1, textsOk_all.2 fun x hx => ?_⟩
  simp only [sadS] at hx ⊢
  rw [getD_head_append (by simp [sadT]; omega), h0]
  rcases List.mem_append.1 hx with hx | hx
  · rw [s1 x hx]; exact ⟨rfl, h40⟩
  · rw [s2 x hx]; exact ⟨rfl, h40⟩
theorem ent_sad {A B : List (List UInt8)} {j p : Nat} (hj : j < A.length) (hp : p < (A.getD j []).length) : ent (sadT A B) j p = ent A j p ^^^ ent B j p := by
  unfold ent sadT
  rw [textsF_getD _ _ _ hj]
  unfold plusL
  rw [mkRow_getD _ _ _ hp, gmul_one_left]
theorem combF_sad {A B : List (List UInt8)} (f : Nat → UInt8) {p : Nat} (hp : ∀ j, j < A.length → p < (A.getD j []).length) : combF A.length f (sadT A B) p = combF A.length f A p ^^^ combF A.length f B p := by
  unfold combF
  rw [← sumK_xor]
  exact sumK_congr fun j hj => by rw [ent_sad hj (hp j hj), gmul_xor]
theorem x_left {a b c : UInt8} : (a ^^^ b = a ^^^ c) ↔ b = c := by
  refine ⟨fun e => ?_, fun e => by rw [e]⟩
  rw [← x_back a b, e, x_back]
theorem added_right {a b : Strp} (h : sadOk a b = true) (ha : rightR a = true) : rightR (sadR a b) = rightR b := by
  obtain ⟨h1, h2, h3, h4, h5⟩ := sadOk_b h
  have hok := added_ok h
  have b1 := strpOk_b h1
  have h0 : ((sadT a.1 b.1).getD 0 []).length = firstLen a := (sad_len (B := b.1) (strpOk_len h1).1) _ (getD_mem (by simp [sadT]; omega))
  rw [sadR_yes h, rightR_yes hok, rightR_yes h2]
  refine decide_eq_decide.2 ?_
  show rowsT (sadT a.2 b.2).length (sadT a.1 b.1).length ((sadT a.1 b.1).getD 0 []).length prmF (sadT a.1 b.1) = sadT a.2 b.2 ↔ rowsT b.2.length b.1.length (firstLen b) prmF b.1 = b.2
  have e1 : (sadT a.2 b.2).length = a.2.length := by simp [sadT]
  have e2 : (sadT a.1 b.1).length = a.1.length := by simp [sadT]
  rw [h0, e1, e2, rows_iff e1, rows_iff rfl, ← h4, ← h3, ← h5]
  refine forall_congr' fun i => imp_congr_right fun hi => ?_
  have k1 := strp_len2 h1 hi
  have k2 := strp_len2 h2 (show i < b.2.length by omega)
  have e3 : (sadT a.2 b.2).getD i [] = plusL (a.2.getD i []) 1 (b.2.getD i []) := by unfold sadT; rw [textsF_getD _ _ _ hi]
  rw [e3, ← mkRow_self (b.2.getD i []), k2, ← h5]
  unfold comb plusL
  rw [k1, mkRow_inj, mkRow_inj]
  refine forall_congr' fun p => imp_congr_right fun hp => ?_
  rw [combF_sad (prmF i) (fun j hj => by rw [strp_len1 h1 hj]; exact hp), right_par h1 ha hi]
  unfold comb
  rw [mkRow_getD _ _ _ hp, gmul_one_left, mkRow_getD _ _ _ hp]
  exact x_left
end G294
