/- Joined texts: FixMath. -/
import Derived.Test.YtfglkgeeelapgaaDoorBd27
import Derived.Test.YtfglkgeeelapgaaDoorBd22
import Derived.Test.YtfglkgeeelapgaaDoorBd01
set_option linter.unusedSimpArgs false
set_option linter.unusedVariables false
/- FnMended's mathematics: a change keeps a right stripe right and a wrong one wrong; a right stripe is mended to itself. -/
namespace G294
open Go Go.RowKit
theorem x_cancel {a b c : UInt8} (h : a ^^^ c = b ^^^ c) : a = b := by
  have e : ∀ y : UInt8, (y ^^^ c) ^^^ c = y := fun y => by rw [UInt8.xor_assoc, UInt8.xor_self, UInt8.xor_zero]
  rw [← e a, h, e]
theorem x_back (a b : UInt8) : a ^^^ (a ^^^ b) = b := by rw [← UInt8.xor_assoc, UInt8.xor_self, UInt8.zero_xor]
theorem ent_set {T : List (List UInt8)} {q : Nat} {x : List UInt8} (hq : q < T.length) (j p : Nat) : ent (T.set q x) j p = if j = q then x.getD p 0 else ent T j p := by
  unfold ent
  by_cases h : j = q
  · subst h; simp [List.getD, hq]
  · rw [if_neg h]
    have : (T.set q x).getD j [] = T.getD j [] := by simp only [List.getD, List.getElem?_set_ne (Ne.symm h)]
    rw [this]
/-- one text of a sum is put in another's place -/
theorem combF_set {T : List (List UInt8)} {q n : Nat} {x : List UInt8} (f : Nat → UInt8) (hq : q < T.length) (hn : q < n) (p : Nat) : combF n f (T.set q x) p = combF n f T p ^^^ gmul (f q) (ent T q p ^^^ x.getD p 0) := by
  unfold combF
  have e : ∀ j, j < n → gmul (f j) (ent (T.set q x) j p) = gmul (f j) (ent T j p) ^^^ (if j = q then gmul (f q) (ent T q p ^^^ x.getD p 0) else 0) := fun j _ => by
    rw [ent_set hq]
    by_cases h : j = q
    · subst h
      rw [if_pos rfl, if_pos rfl, gmul_xor, x_back]
    · rw [if_neg h, if_neg h, UInt8.xor_zero]
  rw [sumK_congr e, sumK_xor, sumK_one (k := q) _ hn (fun l _ hne => if_neg hne), if_pos rfl]
theorem zerosL_get (n p : Nat) : (zerosL n).getD p 0 = 0 := by
  by_cases h : p < n
  · rw [zerosL, mkRow_getD _ _ _ h]
  · simp [zerosL, mkRow, List.getD, h]
def apartL (l : List Int) : Prop := ∀ a b, a < b → b < l.length → (l.getD a 0).toNat ≠ (l.getD b 0).toNat
theorem blank_comb {D : List (List UInt8)} {l : List Int} {n0 : Nat} (hd : apartL l) (hin : ∀ j, j < l.length → (l.getD j 0).toNat < D.length) (f : Nat → UInt8) (p : Nat) : ∀ k, k ≤ l.length →
    combF D.length f (blankT D l n0 k) p = combF D.length f D p ^^^ sumK k fun t => gmul (f (l.getD t 0).toNat) (ent D (l.getD t 0).toNat p) := by
  intro k
  induction k with
  | zero => intro _; simp [blankT, putAll, sumK]
  | succ k ih =>
    intro hk
    have hz := hin k (by omega)
    have e1 : blankT D l n0 (k + 1) = (blankT D l n0 k).set (l.getD k 0).toNat (zerosL n0) := rfl
    have hl : (blankT D l n0 k).length = D.length := putAll_length _ _ _ _
    have e2 : ent (blankT D l n0 k) (l.getD k 0).toNat p = ent D (l.getD k 0).toNat p := by
      have hp := putAll_get D l (fun _ => zerosL n0) k (l.getD k 0).toNat fun j hj => hd j k hj (by omega)
      unfold ent blankT
      generalize (l.getD k 0).toNat = z at hp ⊢
      have e : (putAll D l (fun _ => zerosL n0) k).getD z [] = D.getD z [] := by simp only [List.getD, hp]
      rw [e]
    rw [e1, combF_set f (by rw [hl]; exact hz) hz, ih (by omega), zerosL_get, UInt8.xor_zero, e2, UInt8.xor_assoc]
    rfl
theorem some_apart {l : List Int} {size : Nat} (h : someOk l size = true) : apartL l := by
  have h' := (someOk_iff l size).1 h
  intro a b hab hb
  have mono : ∀ d, a + d < l.length → 0 < d → l.getD a 0 < l.getD (a + d) 0 := fun d => by
    induction d with
    | zero => intro _ h0; omega
    | succ d ih =>
      intro hlt _
      have h3 := (h' (a + (d + 1)) hlt).2.2 (by omega)
      have e : a + (d + 1) - 1 = a + d := by omega
      rw [e] at h3
      rcases Nat.eq_zero_or_pos d with h0 | h0
      · subst h0; exact h3
      · exact Int.lt_trans (ih (by omega) h0) h3
  have h1 := mono (b - a) (by omega) (by omega)
  have e : a + (b - a) = b := by omega
  rw [e] at h1
  have h2 := (h' a (by omega)).1
  omega
theorem right_par {u : Strp} (h : strpOk u = true) (hr : rightR u = true) {i : Nat} (hi : i < u.2.length) : u.2.getD i [] = comb u.1.length (firstLen u) (prmF i) u.1 := by
  rw [rightR_yes h, decide_eq_true_eq] at hr
  have e : u.2.getD i [] = ((mkS u.1 u.2.length).2).getD i [] := by rw [hr]
  rw [e]
  show (rowsT u.2.length u.1.length (u.1.getD 0 []).length prmF u.1).getD i [] = _
  rw [← textsF_rows, textsF_getD _ _ _ hi]; rfl
/-- what a right stripe's lost elements contribute -/
theorem left_sum {u : Strp} {l : List Int} (h : strpOk u = true) (hr : rightR u = true) (hl : l.length ≤ u.2.length) (hd : apartL l) (hin : ∀ j, j < l.length → (l.getD j 0).toNat < u.1.length) {i p : Nat} (hi : i < l.length) (hp : p < firstLen u) :
    (leftT u l i).getD p 0 = sumK l.length fun t => gmul (lostF l i t) (ent u.1 (l.getD t 0).toNat p) := by
  have h2 := strp_len2 h (show i < u.2.length by omega)
  unfold leftT plusL
  rw [h2, mkRow_getD _ _ _ hp, gmul_one_left, right_par h hr (by omega)]
  unfold comb
  rw [mkRow_getD _ _ _ hp, mkRow_getD _ _ _ hp, blank_comb hd hin (prmF i) p l.length (Nat.le_refl _), x_back]
  rfl
theorem found_right {u : Strp} {l : List Int} (h : strpOk u = true) (hr : rightR u = true) (hl : l.length ≤ u.2.length) (hd : apartL l) (hin : ∀ j, j < l.length → (l.getD j 0).toNat < u.1.length) (hf : (est (liF l) l.length l.length).2 = l.length) {k : Nat} (hk : k < l.length) :
    foundT u l k = u.1.getD (l.getD k 0).toNat [] := by
  have hlen := strp_len1 h (hin k hk)
  rw [← mkRow_self (u.1.getD (l.getD k 0).toNat []), hlen]
  unfold foundT comb
  refine mkRow_congr fun p hp => ?_
  unfold combF
  have e1 : ∀ i, i < l.length → gmul (bst (liF l) idF l.length l.length k i) (ent (textsF l.length (leftT u l)) i p) = sumK l.length fun t => gmul (gmul (bst (liF l) idF l.length l.length k i) (liF l i t)) (ent u.1 (l.getD t 0).toNat p) := fun i hi => by
    have e : ent (textsF l.length (leftT u l)) i p = (leftT u l i).getD p 0 := by unfold ent; rw [textsF_getD _ _ _ hi]
    rw [e, left_sum h hr hl hd hin hi hp, ← sumK_mul]
    refine sumK_congr fun t ht => ?_
    have e2 : liF l i t = lostF l i t := ent_mkM _ _ _ i t hi ht
    rw [e2, gmul_assoc]
  rw [sumK_congr e1, sumK_swap]
  have e2 : ∀ t, t < l.length → (sumK l.length fun i => gmul (gmul (bst (liF l) idF l.length l.length k i) (liF l i t)) (ent u.1 (l.getD t 0).toNat p)) = gmul (idF k t) (ent u.1 (l.getD t 0).toNat p) := fun t ht => by
    rw [sumK_mulr, inv_left hf hk ht]
  rw [sumK_congr e2, sumK_one (k := k) _ hk (fun t ht hne => by simp only [idF]; rw [if_neg (fun e => hne e.symm)]; exact zero_gmul _)]
  simp only [idF, if_true]
  rw [one_gmul]; rfl
theorem putAll_id {D : List (List UInt8)} {l : List Int} {X : Nat → List UInt8} : ∀ k, (∀ i, i < k → (l.getD i 0).toNat < D.length ∧ X i = D.getD (l.getD i 0).toNat []) → putAll D l X k = D := by
  intro k
  induction k with
  | zero => intro _; rfl
  | succ k ih =>
    intro h
    obtain ⟨h1, h2⟩ := h k (by omega)
    rw [putAll, ih fun i hi => h i (by omega), h2]
    generalize (l.getD k 0).toNat = z at h1 ⊢
    simp [List.getD, h1]
theorem mended_same {u : Strp} {l : List Int} (h : mndOk u l = true) (hr : rightR u = true) : mndR u l = u := by
  rw [mndR_yes h]
  have h' := h
  simp only [mndOk, mndPre, Bool.and_eq_true, Bool.or_eq_true, decide_eq_true_eq] at h'
  obtain ⟨⟨h1, h2, h3⟩, h4⟩ := h'
  have hin : ∀ j, j < l.length → (l.getD j 0).toNat < u.1.length := fun j hj => by
    have := (someOk_iff l u.1.length).1 h2 j hj
    have a := this.1; have b := this.2.1
    omega
  unfold mndS
  rw [putAll_id]
  intro i hi
  refine ⟨hin i hi, ?_⟩
  have h5 : liOk l u.1.length = true := by
    rcases h4 with h4 | h4
    · omega
    · exact h4
  simp only [liOk, Bool.and_eq_true, decide_eq_true_eq] at h5
  exact found_right h1 hr h3 (some_apart h2) hin h5.2 hi
theorem mkRow_inj {n : Nat} {f g : Nat → UInt8} : mkRow n f = mkRow n g ↔ ∀ p, p < n → f p = g p := by
  refine ⟨fun h p hp => ?_, mkRow_congr⟩
  rw [← mkRow_getD n f p hp, h, mkRow_getD n g p hp]
theorem rows_iff {m n n0 : Nat} {D P : List (List UInt8)} (hP : P.length = m) : rowsT m n n0 prmF D = P ↔ ∀ i, i < m → comb n n0 (prmF i) D = P.getD i [] := by
  rw [← textsF_rows]
  constructor
  · intro h i hi
    rw [← h, textsF_getD _ _ _ hi]
  · intro h
    refine List.ext_getElem (by rw [textsF_length, hP]) fun i h1 h2 => ?_
    rw [textsF_length] at h1
    have := h i h1
    have e : P.getD i [] = P[i] := by simp [List.getD, h2]
    rw [e] at this
    rw [← this]
    simp [textsF]
theorem changed_ok {s : Strp} {i : Int} {t : List UInt8} (h : chgOk s i t = true) : strpOk (chgR s i t) = true ∧ rightR (chgR s i t) = rightR s ∧ (chgR s i t).1.getD i.toNat [] = t ∧ i.toNat < (chgR s i t).1.length := by
  obtain ⟨hs, hi, ht⟩ := chgOk_b h
  obtain ⟨j, rfl⟩ := Int.eq_ofNat_of_zero_le hi.1
  have hj : j < s.1.length := by omega
  rw [chgR_yes h]
  have b := strpOk_b hs
  have hl1 : ∀ x ∈ s.1.set j t, x.length = firstLen s := fun x hx => by
    rcases List.mem_or_eq_of_mem_set hx with hm | hm
    · exact (strpOk_len hs).1 x hm
    · rw [hm, ht]
  have hF : ∀ k, k < s.2.length → (plusL (s.2.getD k []) (prmF k j) (plusL (s.1.getD j []) 1 t)).length = firstLen s := fun k hk => by rw [plusL_length, strp_len2 hs hk]
  have hl2 : ∀ x ∈ textsF s.2.length (fun k => plusL (s.2.getD k []) (prmF k j) (plusL (s.1.getD j []) 1 t)), x.length = firstLen s := fun x hx => by
    simp only [textsF, List.mem_map, List.mem_range] at hx
    obtain ⟨k, hk, rfl⟩ := hx
    exact hF k hk
  have h0 : ((s.1.set j t).getD 0 []).length = firstLen s := hl1 _ (getD_mem (by simp; omega))
  have h40 := strp_len40 hs
  have hok : strpOk (chgS s j t) = true := by
    have hs' := hs
    simp only [strpOk, Bool.and_eq_true] at hs' ⊢
    refine ⟨by simpa [chgS] using hs'.1, by simpa [chgS] using hs'.2.1, textsOk_all.2 fun x hx => ?_⟩
    simp only [chgS] at hx ⊢
    rw [getD_head_append (by simp; omega), h0]
    rcases List.mem_append.1 hx with hx | hx
    · rw [hl1 x hx]; exact ⟨rfl, h40⟩
    · rw [hl2 x hx]; exact ⟨rfl, h40⟩
  refine ⟨hok, ?_, ?_, ?_⟩
  · rw [rightR_yes hok, rightR_yes hs]
    refine decide_eq_decide.2 ?_
    show rowsT (textsF s.2.length _).length (s.1.set j t).length ((s.1.set j t).getD 0 []).length prmF (s.1.set j t) = textsF s.2.length _ ↔ rowsT s.2.length s.1.length (firstLen s) prmF s.1 = s.2
    rw [h0, textsF_length, List.length_set, rows_iff (textsF_length _ _), rows_iff rfl]
    refine forall_congr' fun k => imp_congr_right fun hk => ?_
    have hk2 := strp_len2 hs hk
    rw [textsF_getD _ _ _ hk, ← mkRow_self (s.2.getD k []), hk2]
    unfold comb plusL
    rw [mkRow_length, mkRow_inj, mkRow_inj]
    refine forall_congr' fun p => imp_congr_right fun hp => ?_
    rw [combF_set _ hj hj, mkRow_getD _ _ _ hp, mkRow_getD _ _ _ (by rw [strp_len1 hs hj]; exact hp), gmul_one_left]
    exact ⟨fun e => x_cancel e, fun e => by rw [e]; rfl⟩
  · simp [chgS, List.getD, hj]
  · simp [chgS]; exact hj
end G294
