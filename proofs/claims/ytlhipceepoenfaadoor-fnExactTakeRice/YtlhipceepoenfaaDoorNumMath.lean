/- Numbers and their codes: binary digits, Gamma, Delta and Rice codes; what is taken back whatever follows. -/
import Derived.Test.YtlhipceepoenfaaDoorVitMath
set_option linter.unusedSimpArgs false
set_option linter.unusedVariables false
namespace G294
/-- the last c binary digits -/
def lowL (n : Nat) : Nat → List UInt8
  | 0 => []
  | c + 1 => lowL (n / 2) c ++ [chB (n % 2)]
theorem lowL_len : ∀ (c n : Nat), (lowL n c).length = c
  | 0, _ => rfl
  | c + 1, n => by simp [lowL, lowL_len c]
theorem lowL_all : ∀ (c n : Nat), (lowL n c).all isBitC = true
  | 0, _ => rfl
  | c + 1, n => by
    rw [lowL, List.all_append, lowL_all c]
    have : n % 2 = 0 ∨ n % 2 = 1 := by omega
    rcases this with h | h <;> rw [h] <;> decide
theorem lowL_get : ∀ (c n j : Nat), j < c → (lowL n c).getD j 0 = chB (n / 2 ^ (c - 1 - j) % 2)
  | 0, _, _, h => by omega
  | c + 1, n, j, h => by
    rw [lowL, List.getD_eq_getElem?_getD]
    by_cases e : j = c
    · subst e
      rw [List.getElem?_append_right (by rw [lowL_len]; omega), lowL_len, Nat.sub_self]
      simp
    · rw [List.getElem?_append_left (by rw [lowL_len]; omega), ← List.getD_eq_getElem?_getD, lowL_get c (n / 2) j (by omega), Nat.div_div_eq_div_mul]
      have : c + 1 - 1 - j = (c - 1 - j) + 1 := by omega
      rw [this, Nat.pow_succ, Nat.mul_comm 2]
theorem lowL_zero : ∀ c, lowL 0 c = List.replicate c 48
  | 0 => rfl
  | c + 1 => by rw [lowL, Nat.zero_div, lowL_zero c, List.replicate_succ']; rfl
theorem lowL_zeros : ∀ (c n k : Nat), n < 2 ^ c → lowL n (k + c) = List.replicate k 48 ++ lowL n c
  | 0, n, k, h => by
    obtain rfl : n = 0 := by simpa using h
    rw [Nat.add_zero, lowL_zero]; simp [lowL]
  | c + 1, n, k, h => by
    rw [show k + (c + 1) = (k + c) + 1 from by omega, lowL, lowL_zeros c (n / 2) k (by rw [Nat.pow_succ] at h; omega), lowL, List.append_assoc]
/-- how many binary digits -/
def ndF : Nat → Nat → Nat
  | 0, _ => 0
  | f + 1, n => if n = 0 then 0 else ndF f (n / 2) + 1
def nd (n : Nat) : Nat := ndF 64 n
theorem ndF_lt : ∀ (f n : Nat), n < 2 ^ f → n < 2 ^ ndF f n
  | 0, n, h => by simpa [ndF] using h
  | f + 1, n, h => by
    by_cases e : n = 0
    · subst e; simp [ndF]
    · rw [ndF, if_neg e, Nat.pow_succ]
      have := ndF_lt f (n / 2) (by rw [Nat.pow_succ] at h; omega)
      omega
theorem ndF_ge : ∀ (f n : Nat), n < 2 ^ f → 1 ≤ n → 1 ≤ ndF f n ∧ 2 ^ (ndF f n - 1) ≤ n
  | 0, n, h, h1 => by simp at h; omega
  | f + 1, n, h, h1 => by
    have e : n ≠ 0 := by omega
    rw [ndF, if_neg e]
    refine ⟨by omega, ?_⟩
    by_cases e2 : n / 2 = 0
    · have : ndF f (n / 2) = 0 := by rw [e2]; cases f <;> simp [ndF]
      rw [this]; simpa using h1
    · obtain ⟨h3, h4⟩ := ndF_ge f (n / 2) (by rw [Nat.pow_succ] at h; omega) (by omega)
      rw [Nat.add_sub_cancel]
      obtain ⟨q, hq⟩ : ∃ q, ndF f (n / 2) = q + 1 := ⟨_, (Nat.sub_add_cancel h3).symm⟩
      rw [hq] at h4 ⊢
      rw [Nat.add_sub_cancel] at h4
      rw [Nat.pow_succ]; omega
theorem ndF_fuel : ∀ (f n : Nat), n < 2 ^ f → ∀ g, f ≤ g → ndF g n = ndF f n
  | 0, n, h, g, _ => by
    obtain rfl : n = 0 := by simpa using h
    cases g <;> simp [ndF]
  | f + 1, n, h, g, hg => by
    obtain ⟨g', rfl⟩ : ∃ g', g = g' + 1 := ⟨g - 1, by omega⟩
    simp only [ndF]
    rw [ndF_fuel f (n / 2) (by rw [Nat.pow_succ] at h; omega) g' (by omega)]
theorem nd_lt {n : Nat} (h : n < 2 ^ 63) : n < 2 ^ nd n := ndF_lt 64 n (Nat.lt_trans h (by decide))
theorem nd_pos {n : Nat} (h : n < 2 ^ 63) (h1 : 1 ≤ n) : 1 ≤ nd n := (ndF_ge 64 n (Nat.lt_trans h (by decide)) h1).1
theorem nd_ge {n : Nat} (h : n < 2 ^ 63) (h1 : 1 ≤ n) : 2 ^ (nd n - 1) ≤ n := (ndF_ge 64 n (Nat.lt_trans h (by decide)) h1).2
theorem nd_half {n : Nat} (h : n < 2 ^ 63) (h1 : 2 ≤ n) : nd n = nd (n / 2) + 1 := by
  show ndF (63 + 1) n = _
  rw [ndF, if_neg (by omega)]
  rw [nd, ndF_fuel 63 (n / 2) (by omega) 64 (by omega)]
theorem nd_one : nd 1 = 1 := by decide
theorem nd_le {n k : Nat} (h : n < 2 ^ 63) (h1 : 1 ≤ n) (hk : n < 2 ^ k) : nd n ≤ k := by
  have := nd_ge h h1
  rcases Nat.lt_or_ge k (nd n) with h3 | h3
  · have : 2 ^ k ≤ 2 ^ (nd n - 1) := Nat.pow_le_pow_right (by decide) (by omega)
    omega
  · exact h3
theorem nd_uniq {n k : Nat} (h : n < 2 ^ 63) (hk : n < 2 ^ (k + 1)) (hk2 : 2 ^ k ≤ n) : nd n = k + 1 := by
  have h0 : 0 < 2 ^ k := Nat.two_pow_pos k
  have h1 := nd_le h (by omega) hk
  have h2 := nd_lt h
  rcases Nat.lt_or_ge (nd n) (k + 1) with h3 | h3
  · have : 2 ^ nd n ≤ 2 ^ k := Nat.pow_le_pow_right (by decide) (by omega)
    omega
  · omega
/-- a number that is valid -/
def okN (n : Int) : Bool := decide (1 ≤ n) && decide (n ≤ 1000000)
theorem okN_iff {n : Int} : okN n = true ↔ 1 ≤ n ∧ n ≤ 1000000 := by simp [okN]
theorem nd_okN {n : Nat} (h1 : 1 ≤ n) (h2 : n ≤ 1000000) : 1 ≤ nd n ∧ nd n ≤ 20 := ⟨nd_pos (by omega) h1, nd_le (by omega) h1 (by omega)⟩
/-- binary digits -/
def binL (n : Nat) : List UInt8 := lowL n (nd n)
theorem binL_half {n : Nat} (h : n < 2 ^ 63) (h1 : 2 ≤ n) : binL n = binL (n / 2) ++ [chB (n % 2)] := by rw [binL, nd_half h h1, lowL]; rfl
theorem binL_one : binL 1 = [chB 1] := by decide
/-- the codes -/
def gamL (n : Nat) : List UInt8 := lowL n (2 * nd n - 1)
theorem gamL_eq {n : Nat} (h : n < 2 ^ 63) (h1 : 1 ≤ n) : gamL n = List.replicate (nd n - 1) 48 ++ binL n := by
  have := nd_pos h h1
  rw [gamL, show 2 * nd n - 1 = (nd n - 1) + nd n from by omega, lowL_zeros _ _ _ (nd_lt h)]; rfl
theorem gamL_len (n : Nat) : (gamL n).length = 2 * nd n - 1 := lowL_len _ _
theorem binL_cons {n : Nat} (h : n < 2 ^ 63) (h1 : 1 ≤ n) : binL n = 49 :: lowL n (nd n - 1) := by
  have h2 := nd_pos h h1
  have h3 := nd_ge h h1
  have h4 := nd_lt h
  have e1 : ∀ (k n : Nat), 2 ^ k ≤ n → n < 2 ^ (k + 1) → lowL n (k + 1) = 49 :: lowL n k := by
    intro k
    induction k with
    | zero => intro n a b; obtain rfl : n = 1 := by simp at a b; omega
              rfl
    | succ k ih =>
      intro n a b
      rw [lowL, ih (n / 2) (by rw [Nat.pow_succ] at a; omega) (by rw [Nat.pow_succ] at b; omega), List.cons_append]
      rfl
  have := e1 (nd n - 1) n h3 (by rw [Nat.sub_add_cancel h2]; exact h4)
  rw [Nat.sub_add_cancel h2] at this
  exact this
def delL (n : Nat) : List UInt8 := gamL (nd n) ++ lowL n (nd n - 1)
def ricL (n k : Nat) : List UInt8 := List.replicate ((n - 1) / 2 ^ k) 49 ++ [48] ++ lowL (n - 1) k
def okRice (n : Int) (k : Int) : Bool := okN n && (decide (0 ≤ k) && (decide (k ≤ 10) && decide (((n - 1).toNat / 2 ^ k.toNat : Nat) + 1 + k ≤ 2000)))
theorem ricL_len (n k : Nat) : (ricL n k).length = (n - 1) / 2 ^ k + 1 + k := by simp [ricL, lowL_len]; omega
/-- what digits make -/
def valL (l : List UInt8) : Nat := l.foldl (fun a c => 2 * a + bv c) 0
theorem valL_snoc (l : List UInt8) (c : UInt8) : valL (l ++ [c]) = 2 * valL l + bv c := by simp [valL]
theorem bv_le (c : UInt8) : bv c ≤ 1 := by unfold bv; split <;> omega
theorem valL_ltn : ∀ (n : Nat) (l : List UInt8), l.length = n → valL l < 2 ^ n
  | 0, l, h => by rw [List.length_eq_zero_iff.1 h]; decide
  | n + 1, l, h => by
    rcases List.eq_nil_or_concat l with rfl | ⟨t, c, rfl⟩
    · simp at h
    · rw [List.concat_eq_append] at h ⊢
      rw [valL_snoc, Nat.pow_succ]
      have := valL_ltn n t (by simpa using h)
      have := bv_le c
      omega
theorem valL_lt (l : List UInt8) : valL l < 2 ^ l.length := valL_ltn _ l rfl
theorem bv_chM (n : Nat) : bv (chB (n % 2)) = n % 2 := by
  have : n % 2 = 0 ∨ n % 2 = 1 := by omega
  rcases this with h | h <;> rw [h] <;> decide
theorem valL_low : ∀ (c n : Nat), valL (lowL n c) = n % 2 ^ c
  | 0, n => by simp [lowL, valL, Nat.mod_one]
  | c + 1, n => by
    rw [lowL, valL_snoc, valL_low c, bv_chM, Nat.pow_succ, Nat.mul_comm (2 ^ c), Nat.mod_mul]
    have := Nat.mod_lt n (show 0 < 2 by decide)
    omega
theorem valL_rep0 (k : Nat) : valL (List.replicate k 48) = 0 := by
  rw [← lowL_zero, valL_low]; simp
theorem valL_appn (a : List UInt8) : ∀ (n : Nat) (b : List UInt8), b.length = n → valL (a ++ b) = valL a * 2 ^ n + valL b
  | 0, b, h => by rw [List.length_eq_zero_iff.1 h]; simp [valL]
  | n + 1, b, h => by
    rcases List.eq_nil_or_concat b with rfl | ⟨t, c, rfl⟩
    · simp at h
    · rw [List.concat_eq_append] at h ⊢
      rw [← List.append_assoc, valL_snoc, valL_appn a n t (by simpa using h), valL_snoc, Nat.pow_succ]
      rw [Nat.mul_add, Nat.mul_comm (2 ^ n) 2, ← Nat.mul_assoc (valL a), Nat.mul_comm (valL a) 2, Nat.mul_assoc]
      omega
theorem valL_append (a b : List UInt8) : valL (a ++ b) = valL a * 2 ^ b.length + valL b := valL_appn a _ b rfl
theorem valL_cons (c : UInt8) (l : List UInt8) : valL (c :: l) = bv c * 2 ^ l.length + valL l := by
  rw [show c :: l = [c] ++ l from rfl, valL_append]; simp [valL]
/-- are there so many digits in front? -/
def rdB (l : List UInt8) (c m : Nat) : Bool := decide (c ≤ l.length) && (decide (c ≤ m) && (l.take c).all isBitC)
def rdN (l : List UInt8) (c : Nat) : Nat := valL (l.take c)
theorem rdB_iff {l : List UInt8} {c m : Nat} : rdB l c m = true ↔ c ≤ l.length ∧ c ≤ m ∧ (l.take c).all isBitC = true := by
  rw [rdB, Bool.and_eq_true, Bool.and_eq_true, decide_eq_true_eq, decide_eq_true_eq]
theorem rdN_lt {l : List UInt8} {c : Nat} (h : c ≤ l.length) : rdN l c < 2 ^ c := by
  have := valL_lt (l.take c)
  rwa [List.length_take, Nat.min_eq_left h] at this
/-- how many of a character stand in front -/
def ldC (c : UInt8) : List UInt8 → Nat
  | [] => 0
  | x :: l => if x = c then ldC c l + 1 else 0
theorem ldC_le (c : UInt8) : ∀ l, ldC c l ≤ l.length
  | [] => Nat.le_refl _
  | x :: l => by
    have := ldC_le c l
    simp only [ldC, List.length_cons]; split <;> omega
theorem ldC_rep (c x : UInt8) (l : List UInt8) (h : x ≠ c) : ∀ k, ldC c (List.replicate k c ++ x :: l) = k
  | 0 => by simp [ldC, h]
  | k + 1 => by rw [List.replicate_succ, List.cons_append, ldC, if_pos rfl, ldC_rep c x l h k]
theorem ldC_next (c : UInt8) : ∀ (l : List UInt8) (h : ldC c l < l.length), l[ldC c l] ≠ c
  | [], h => by simp at h
  | x :: l, h => by
    by_cases e : x = c
    · have e1 : ldC c (x :: l) = ldC c l + 1 := by simp [ldC, e]
      have h2 : ldC c l < l.length := by rw [e1] at h; simpa using h
      have := ldC_next c l h2
      simpa [e1] using this
    · have e1 : ldC c (x :: l) = 0 := by simp [ldC, e]
      simpa [e1] using e
theorem ldC_before (c : UInt8) : ∀ (l : List UInt8) (j : Nat) (h : j < ldC c l), l.getD j 0 = c
  | [], j, h => by simp [ldC] at h
  | x :: l, j, h => by
    by_cases e : x = c
    · subst e
      have e1 : ldC x (x :: l) = ldC x l + 1 := by simp [ldC]
      cases j with
      | zero => rfl
      | succ j => exact ldC_before x l j (by omega)
    · simp [ldC, e] at h
theorem ldC_uniq (c : UInt8) {l : List UInt8} {k : Nat} (hk : k ≤ l.length) (h : ∀ j, j < k → l.getD j 0 = c) (h2 : k = l.length ∨ l.getD k 0 ≠ c) : ldC c l = k := by
  induction l generalizing k with
  | nil => simp at hk; simp [ldC, hk]
  | cons x l ih =>
    cases k with
    | zero =>
      rcases h2 with h2 | h2
      · simp at h2
      · have : x ≠ c := by simpa using h2
        simp [ldC, this]
    | succ k =>
      have hx : x = c := by simpa using h 0 (by omega)
      rw [ldC, if_pos hx, ih (k := k) (by simpa using hk) (fun j hj => by simpa using h (j + 1) (by omega)) (by simpa using h2)]
/-- taking a Gamma code: the number and the length -/
def tkG (l : List UInt8) : Option (Nat × Nat) :=
  if rdB (l.drop (ldC 48 l)) (ldC 48 l + 1) 30 = true ∧ okN (rdN (l.drop (ldC 48 l)) (ldC 48 l + 1)) = true then some (rdN (l.drop (ldC 48 l)) (ldC 48 l + 1), 2 * ldC 48 l + 1) else none
/-- a first digit of one makes a number of so many digits -/
theorem val_big {l : List UInt8} {c : Nat} (hc : c + 1 ≤ l.length) (hb : (l.take (c + 1)).all isBitC = true) (h0 : l.getD 0 0 ≠ 48) : 2 ^ c ≤ rdN l (c + 1) := by
  cases l with
  | nil => simp at hc
  | cons x l =>
    have hx : isBitC x = true := by
      rw [List.take_succ_cons, List.all_cons, Bool.and_eq_true] at hb
      exact hb.1
    have hx1 : x = 49 := by
      have : x ≠ 48 := by simpa using h0
      simp only [isBitC, Bool.or_eq_true, beq_iff_eq] at hx
      rcases hx with h | h
      · exact absurd h this
      · exact h
    subst hx1
    rw [rdN, List.take_succ_cons, valL_cons, List.length_take, Nat.min_eq_left (by simpa using hc)]
    have : bv 49 = 1 := by decide
    rw [this]; omega
/-- the program's bound of twenty digits is no other -/
theorem rd_20 {l : List UInt8} {c : Nat} (h0 : c = 0 ∨ l.getD 0 0 ≠ 48) : (rdB l c 20 && okN (rdN l c)) = (rdB l c 30 && okN (rdN l c)) := by
  by_cases h1 : c ≤ l.length
  · by_cases h2 : (l.take c).all isBitC = true
    · by_cases h3 : c ≤ 20
      · have e1 : rdB l c 20 = true := rdB_iff.2 ⟨h1, h3, h2⟩
        have e2 : rdB l c 30 = true := rdB_iff.2 ⟨h1, by omega, h2⟩
        rw [e1, e2]
      · have e1 : okN (rdN l c) = false := by
          obtain ⟨d, rfl⟩ : ∃ d, c = d + 1 := ⟨c - 1, by omega⟩
          have h4 := val_big h1 h2 (h0.resolve_left (by omega))
          have : 2 ^ 20 ≤ 2 ^ d := Nat.pow_le_pow_right (by decide) (by omega)
          cases hk : okN (rdN l (d + 1)) with
          | false => rfl
          | true => have := okN_iff.1 hk; omega
        rw [e1]; simp
    · have e1 : ∀ m, rdB l c m = false := fun m => by
        cases hk : rdB l c m with
        | false => rfl
        | true => exact absurd (rdB_iff.1 hk).2.2 h2
      rw [e1, e1]
  · have e1 : ∀ m, rdB l c m = false := fun m => by
      cases hk : rdB l c m with
      | false => rfl
      | true => exact absurd (rdB_iff.1 hk).1 h1
    rw [e1, e1]
theorem drop_ld (c : UInt8) (l : List UInt8) : l.length = ldC c l ∨ (l.drop (ldC c l)).getD 0 0 ≠ c := by
  have h1 := ldC_le c l
  rcases Nat.lt_or_ge (ldC c l) l.length with h | h
  · right
    have := ldC_next c l h
    rw [List.getD_eq_getElem?_getD, List.getElem?_drop, Nat.add_zero, List.getElem?_eq_getElem h]
    exact this
  · left; omega
/-- the code of a number is taken back whatever follows -/
theorem take_all {a b : List UInt8} {c : Nat} (h : a.length = c) (ha : a.all isBitC = true) (m : Nat) (hm : c ≤ m) : rdB (a ++ b) c m = true ∧ rdN (a ++ b) c = valL a ∧ (a ++ b).drop c = b := by
  subst h
  refine ⟨rdB_iff.2 ⟨by simp, hm, by rw [List.take_left]; exact ha⟩, by rw [rdN, List.take_left], List.drop_left⟩
theorem tkG_gam {n : Nat} (h1 : 1 ≤ n) (h2 : n ≤ 1000000) (r : List UInt8) : tkG (gamL n ++ r) = some (n, (gamL n).length) := by
  have hn : n < 2 ^ 63 := by omega
  obtain ⟨h3, h4⟩ := nd_okN h1 h2
  have e0 : gamL n ++ r = List.replicate (nd n - 1) 48 ++ 49 :: (lowL n (nd n - 1) ++ r) := by
    rw [gamL_eq hn h1, List.append_assoc, binL_cons hn h1, List.cons_append]
  have e1 : ldC 48 (gamL n ++ r) = nd n - 1 := by rw [e0, ldC_rep 48 49 _ (by decide)]
  have e2 : (gamL n ++ r).drop (nd n - 1) = binL n ++ r := by
    rw [gamL_eq hn h1, List.append_assoc, List.drop_append_of_le_length (by simp), List.drop_of_length_le (by simp), List.nil_append]
  obtain ⟨t1, t2, _⟩ := take_all (a := binL n) (b := r) (c := nd n) (lowL_len _ _) (lowL_all _ _) 30 (by omega)
  have e3 : valL (binL n) = n := by rw [binL, valL_low, Nat.mod_eq_of_lt (nd_lt hn)]
  rw [tkG, e1, e2, Nat.sub_add_cancel h3, t1, t2, e3, if_pos ⟨rfl, okN_iff.2 ⟨by omega, by omega⟩⟩, gamL_len]
  congr 2; omega
/-- taking a Delta code -/
def tkD (l : List UInt8) : Option (Nat × Nat) :=
  match tkG l with
  | none => none
  | some (b, a) => if b ≤ 20 ∧ rdB (l.drop a) (b - 1) 30 = true ∧ okN ((rdN (l.drop a) (b - 1) + 2 ^ (b - 1) : Nat)) = true then some (rdN (l.drop a) (b - 1) + 2 ^ (b - 1), a + b - 1) else none
theorem tkD_del {n : Nat} (h1 : 1 ≤ n) (h2 : n ≤ 1000000) (r : List UInt8) : tkD (delL n ++ r) = some (n, (delL n).length) := by
  have hn : n < 2 ^ 63 := by omega
  obtain ⟨h3, h4⟩ := nd_okN h1 h2
  have e1 : tkG (delL n ++ r) = some (nd n, (gamL (nd n)).length) := by
    rw [delL, List.append_assoc]; exact tkG_gam h3 (by omega) _
  have e2 : (delL n ++ r).drop (gamL (nd n)).length = lowL n (nd n - 1) ++ r := by
    rw [delL, List.append_assoc, List.drop_left]
  obtain ⟨t1, t2, _⟩ := take_all (a := lowL n (nd n - 1)) (b := r) (c := nd n - 1) (lowL_len _ _) (lowL_all _ _) 30 (by omega)
  have h5 := nd_ge hn h1
  have h6 := nd_lt hn
  have e3 : valL (lowL n (nd n - 1)) + 2 ^ (nd n - 1) = n := by
    rw [valL_low]
    obtain ⟨q, hq⟩ : ∃ q, nd n = q + 1 := ⟨nd n - 1, by omega⟩
    rw [hq] at h5 h6 ⊢
    rw [Nat.add_sub_cancel] at h5 ⊢
    rw [Nat.pow_succ] at h6
    have : n = (n - 2 ^ q) + 2 ^ q := by omega
    rw [this, Nat.add_mod_right, Nat.mod_eq_of_lt (by omega)]
  rw [tkD, e1]
  simp only [e2, t1, t2, e3]
  rw [if_pos ⟨h4, trivial, okN_iff.2 ⟨by omega, by omega⟩⟩]
  congr 2
  rw [delL, List.length_append, lowL_len]; omega
/-- taking a Rice code -/
def okK (k : Int) : Bool := decide (0 ≤ k) && decide (k ≤ 10)
def tkR (l : List UInt8) (k : Nat) : Option (Nat × Nat) :=
  if ldC 49 l < l.length ∧ l.getD (ldC 49 l) 0 = 48 ∧ ldC 49 l + 1 + k ≤ 2000 ∧ rdB (l.drop (ldC 49 l + 1)) k 30 = true ∧ okN ((ldC 49 l * 2 ^ k + rdN (l.drop (ldC 49 l + 1)) k + 1 : Nat)) = true then some (ldC 49 l * 2 ^ k + rdN (l.drop (ldC 49 l + 1)) k + 1, ldC 49 l + 1 + k) else none
theorem tkR_ric {n k : Nat} (h1 : 1 ≤ n) (h2 : n ≤ 1000000) (hk : k ≤ 10) (h3 : (n - 1) / 2 ^ k + 1 + k ≤ 2000) (r : List UInt8) : tkR (ricL n k ++ r) k = some (n, (ricL n k).length) := by
  have e0 : ricL n k ++ r = List.replicate ((n - 1) / 2 ^ k) 49 ++ 48 :: (lowL (n - 1) k ++ r) := by simp [ricL]
  rw [ricL_len, e0]
  have e1 := ldC_rep 49 48 (lowL (n - 1) k ++ r) (by decide) ((n - 1) / 2 ^ k)
  have e2 : (List.replicate ((n - 1) / 2 ^ k) (49 : UInt8) ++ 48 :: (lowL (n - 1) k ++ r)).drop ((n - 1) / 2 ^ k + 1) = lowL (n - 1) k ++ r := by
    rw [List.drop_append, List.drop_of_length_le (by simp), List.nil_append, List.length_replicate, Nat.add_sub_cancel_left]; rfl
  have e3 : (List.replicate ((n - 1) / 2 ^ k) (49 : UInt8) ++ 48 :: (lowL (n - 1) k ++ r)).getD ((n - 1) / 2 ^ k) 0 = 48 := by
    rw [List.getD_eq_getElem?_getD, List.getElem?_append_right (by simp)]; simp
  obtain ⟨t1, t2, _⟩ := take_all (a := lowL (n - 1) k) (b := r) (c := k) (lowL_len _ _) (lowL_all _ _) 30 (by omega)
  have e4 : (n - 1) / 2 ^ k * 2 ^ k + valL (lowL (n - 1) k) + 1 = n := by
    rw [valL_low]
    have := Nat.div_add_mod (n - 1) (2 ^ k)
    rw [Nat.mul_comm] at this; omega
  rw [tkR, e1, e2, e3, t1, t2, e4, if_pos ⟨by simp, rfl, h3, rfl, okN_iff.2 ⟨by omega, by omega⟩⟩]
end G294
