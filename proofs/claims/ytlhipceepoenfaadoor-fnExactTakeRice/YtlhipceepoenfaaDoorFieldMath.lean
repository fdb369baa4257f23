/- The program's and the model's ways of computing in GF(256), in plain numbers: each equals the product, power, inverse and logarithm of Gf. -/
import Derived.Test.YtlhipceepoenfaaDoorGf
set_option linter.unusedSimpArgs false
set_option linter.unusedVariables false
namespace G294

/-- the program's product of polynomials, after k bits -/
def pp (a b : Nat) : Nat → Nat
  | 0 => 0
  | k + 1 => if bit b k = 1 then pp a b k ^^^ (a * 2 ^ k) else pp a b k
def tabN (k : Nat) : Nat := [27, 54, 108, 216, 171, 77, 154].getD k 0
/-- the program's reduction, after k overflowing bits -/
def rd (p : Nat) : Nat → Nat
  | 0 => p % 256
  | k + 1 => if bit p (8 + k) = 1 then rd p k ^^^ tabN k else rd p k

theorem tabN_lt (k : Nat) : tabN k < 256 := by
  unfold tabN
  rcases Nat.lt_or_ge k 7 with h | h
  · have : k = 0 ∨ k = 1 ∨ k = 2 ∨ k = 3 ∨ k = 4 ∨ k = 5 ∨ k = 6 := by omega
    rcases this with rfl | rfl | rfl | rfl | rfl | rfl | rfl <;> decide
  · have e : ([27, 54, 108, 216, 171, 77, 154] : List Nat)[k]? = none := List.getElem?_eq_none (by simpa using h)
    simp [List.getD, e]
theorem pp_lt {a : Nat} (ha : a < 256) (b : Nat) : ∀ k, k ≤ 8 → pp a b k < 65536 := by
  intro k
  induction k with
  | zero => intro _; simp [pp]
  | succ k ih =>
    intro hk
    have h2 : a * 2 ^ k < 65536 := by
      have : 2 ^ k ≤ 2 ^ 7 := Nat.pow_le_pow_right (by decide) (by omega)
      calc a * 2 ^ k ≤ a * 2 ^ 7 := Nat.mul_le_mul_left _ this
        _ < 65536 := by omega
    unfold pp
    split
    · exact Nat.xor_lt_two_pow (n := 16) (ih (by omega)) h2
    · exact ih (by omega)
theorem shl_lt {a k : Nat} (ha : a < 256) (hk : k < 8) : a * 2 ^ k < 65536 := by
  have : 2 ^ k ≤ 2 ^ 7 := Nat.pow_le_pow_right (by decide) (by omega)
  calc a * 2 ^ k ≤ a * 2 ^ 7 := Nat.mul_le_mul_left _ this
    _ < 65536 := by omega
theorem rd_lt (p : Nat) (k : Nat) : rd p k < 256 := by
  induction k with
  | zero => unfold rd; omega
  | succ k ih =>
    unfold rd
    split
    · exact xor_lt ih (tabN_lt k)
    · exact ih
theorem rd_xor (p q k : Nat) : rd (p ^^^ q) k = rd p k ^^^ rd q k := by
  induction k with
  | zero => unfold rd; exact Nat.xor_mod_two_pow (n := 8)
  | succ k ih =>
    have hx := bit_xor p q (8 + k)
    unfold rd
    rcases bit_01 p (8 + k) with h1 | h1 <;> rcases bit_01 q (8 + k) with h2 | h2 <;> simp [hx, h1, h2, ih, Nat.xor_assoc, Nat.xor_comm, xlc, xcancel]
theorem shl_xor (a b k : Nat) : (a ^^^ b) * 2 ^ k = (a * 2 ^ k) ^^^ (b * 2 ^ k) := by
  have := Nat.shiftLeft_xor_distrib (a := a) (b := b) (i := k)
  simpa [Nat.shiftLeft_eq] using this
theorem rd_basis : ∀ k, k < 8 → ∀ i, i < 8 → rd (2 ^ i * 2 ^ k) 7 = xts k (2 ^ i) := by decide
theorem rd_shl {a : Nat} (ha : a < 256) (k : Nat) (hk : k < 8) : rd (a * 2 ^ k) 7 = xts k a :=
  additive_ext (f := fun a => rd (a * 2 ^ k) 7) (g := xts k) (by simp [rd, bit]) (xts_zero k) (fun x y => by simp only [shl_xor, rd_xor]) (xts_xor k)
    (fun i hi => rd_basis k hk i hi) ha
theorem rd_zero : rd 0 7 = 0 := by decide
theorem rd_pp {a : Nat} (ha : a < 256) (b : Nat) : ∀ k, k ≤ 8 → rd (pp a b k) 7 = st a b k := by
  intro k
  induction k with
  | zero => intro _; unfold pp st; exact rd_zero
  | succ k ih =>
    intro hk
    unfold pp st
    split
    · rw [rd_xor, ih (by omega), rd_shl ha k (by omega)]
    · exact ih (by omega)
theorem rd_pp8 {a : Nat} (ha : a < 256) (b : Nat) : rd (pp a b 8) 7 = gm a b := rd_pp ha b 8 (by omega)

/-- the model's step -/
def xs (x : Nat) : Nat := if 255 < x * 2 then (x * 2) ^^^ 283 else x * 2
theorem xs_xt : ∀ x, x < 256 → xs x = xt x := by decide +kernel
theorem st_stop (a b : Nat) : ∀ j k, b / 2 ^ k = 0 → st a b (k + j) = st a b k := by
  intro j
  induction j with
  | zero => intro k _; rfl
  | succ j ih =>
    intro k h
    have hb : bit b (k + j) = 0 := by
      unfold bit
      have : b / 2 ^ (k + j) = 0 := by rw [Nat.pow_add, ← Nat.div_div_eq_div_mul, h]; simp
      rw [this]
    have e : st a b (k + j + 1) = st a b (k + j) := by
      rw [st, if_neg (by omega)]
    exact e.trans (ih k h)
theorem st_end (a b k : Nat) (hk : k ≤ 8) (h : b / 2 ^ k = 0) : st a b k = gm a b := by
  have := st_stop a b (8 - k) k h
  rw [show k + (8 - k) = 8 by omega] at this
  exact this.symm
theorem div_step (b k : Nat) : b / 2 ^ k / 2 = b / 2 ^ (k + 1) := by rw [Nat.div_div_eq_div_mul, ← Nat.pow_succ]
theorem div_8 {b : Nat} (hb : b < 256) : b / 2 ^ 8 = 0 := by omega
theorem k_lt_8 {b k : Nat} (hb : b < 256) (h : 0 < b / 2 ^ k) : k < 8 := by
  rcases Nat.lt_or_ge k 8 with h' | h'
  · exact h'
  · exfalso
    have h2 : (2 : Nat) ^ 8 ≤ 2 ^ k := Nat.pow_le_pow_right (by decide) h'
    have : b / 2 ^ k = 0 := Nat.div_eq_of_lt (by omega)
    omega

/-- square and multiply -/
theorem gp_step {a n p : Nat} (ha : a < 256) (hp : p < 256) (hn : 0 < n) :
    gm p (gp a n) = gm (if n % 2 = 1 then gm p a else p) (gp (gm a a) (n / 2)) := by
  rw [gp_sq ha]
  have h2 : gp a (2 * (n / 2)) < 256 := gp_lt ha _
  by_cases h : n % 2 = 1
  · rw [if_pos h]
    have e : n = 1 + 2 * (n / 2) := by omega
    have h3 : gp a n = gm a (gp a (2 * (n / 2))) := by
      conv => lhs; rw [e, gp_add ha]
      simp only [gp]; rw [gm_one_left ha]
    rw [h3, gm_assoc hp ha h2]
  · rw [if_neg h]
    have e : 2 * (n / 2) = n := by omega
    rw [e]
theorem gp_zero_left (n : Nat) (h : 0 < n) : gp 0 n = 0 := by
  cases n with
  | zero => omega
  | succ n => simp [gp, gm_zero_right]
theorem gi_zero : gi 0 = 0 := gp_zero_left 254 (by omega)

/-- logarithms -/
def logs : Nat → Nat → Option Nat
  | 0, _ => none
  | n + 1, a => match logs n a with
    | some k => some k
    | none => if gp 3 n = a then some n else none
/-- the powers of 3, one after the other -/
def pows : Nat → Nat → List Nat
  | 0, _ => []
  | n + 1, x => x :: pows n (gm x 3)
theorem pows_get (n x i : Nat) (h : i < n) : (pows n x)[i]? = some (Nat.rec x (fun _ y => gm y 3) i) := by
  induction n generalizing x i with
  | zero => omega
  | succ n ih =>
    cases i with
    | zero => rfl
    | succ i =>
      simp only [pows, List.getElem?_cons_succ]
      rw [ih _ _ (by omega)]
      congr 1
      clear h
      induction i with
      | zero => rfl
      | succ i ih2 => simp only [ih2]
theorem rec_gp (i : Nat) : (Nat.rec 1 (fun _ y => gm y 3) i : Nat) = gp 3 i := by
  induction i with
  | zero => rfl
  | succ i ih => simp only [gp]; rw [← ih]
theorem pows_gp (i : Nat) (h : i < 255) : (pows 255 1)[i]? = some (gp 3 i) := by rw [pows_get _ _ _ h, rec_gp]
theorem pows_nodup : (pows 255 1).Nodup := by decide +kernel
theorem pows_all : ∀ a, a < 256 → a ≠ 0 → a ∈ pows 255 1 := by decide +kernel
theorem pows_len : (pows 255 1).length = 255 := by decide +kernel
theorem log_some {a : Nat} (ha : a < 256) (h0 : a ≠ 0) : ∃ k, k < 255 ∧ gp 3 k = a := by
  obtain ⟨k, hk, e⟩ := List.mem_iff_getElem.1 (pows_all a ha h0)
  have hk' : k < 255 := by rw [pows_len] at hk; exact hk
  refine ⟨k, hk', ?_⟩
  have := pows_gp k hk'
  rw [List.getElem?_eq_getElem hk] at this
  rw [← e]; exact (Option.some.inj this).symm
theorem gp_inj {i j : Nat} (hi : i < 255) (hj : j < 255) (h : gp 3 i = gp 3 j) : i = j := by
  have h1 := pows_gp i hi
  have h2 := pows_gp j hj
  rw [h] at h1
  have li : i < (pows 255 1).length := by rw [pows_len]; exact hi
  have lj : j < (pows 255 1).length := by rw [pows_len]; exact hj
  rw [List.getElem?_eq_getElem li] at h1
  rw [List.getElem?_eq_getElem lj] at h2
  have : (pows 255 1)[i] = (pows 255 1)[j] := by rw [Option.some.inj h1, Option.some.inj h2]
  exact (List.getElem_inj pows_nodup).1 this
theorem gp_3_255 : gp 3 255 = 1 := by
  have h : (pows 256 1)[255]? = some (gp 3 255) := by rw [pows_get _ _ _ (by omega), rec_gp]
  have h2 : (pows 256 1)[255]? = some 1 := by decide +kernel
  rw [h2] at h; exact (Option.some.inj h).symm
theorem gp_3_ne (k : Nat) (hk : k < 255) : gp 3 k ≠ 0 := by
  intro h
  have h1 := List.mem_of_getElem? (pows_gp k hk)
  rw [h] at h1
  exact absurd h1 (by decide +kernel)
/-- the logarithm: the k below 255 with 3 to the k being a, and 0 where there is none -/
def gl (a : Nat) : Nat := ((List.range 255).find? fun k => gp 3 k == a).getD 0
theorem gl_spec {a : Nat} (ha : a < 256) (h0 : a ≠ 0) : gl a < 255 ∧ gp 3 (gl a) = a := by
  obtain ⟨k, hk, e⟩ := log_some ha h0
  unfold gl
  cases h : (List.range 255).find? fun k => gp 3 k == a with
  | none =>
    rw [List.find?_eq_none] at h
    exact absurd (by simp [e]) (h k (by simpa using hk))
  | some j =>
    have h1 := List.find?_some h
    have h2 := List.mem_of_find?_eq_some h
    simp only [Option.getD_some]
    exact ⟨by simpa using h2, by simpa using h1⟩
theorem gl_uniq {a k : Nat} (ha : a < 256) (h0 : a ≠ 0) (hk : k < 255) (h : gp 3 k = a) : gl a = k := by
  obtain ⟨h1, h2⟩ := gl_spec ha h0
  exact gp_inj h1 hk (by rw [h2, h])
theorem gl_first {a k : Nat} (ha : a < 256) (h0 : a ≠ 0) (hk : k < gl a) : gp 3 k ≠ a := by
  intro h
  have h1 := gl_spec ha h0
  have := gl_uniq ha h0 (by omega) h
  omega
theorem gm_gi {a : Nat} (ha : a < 256) (h0 : a ≠ 0) : gm a (gi a) = 1 := by
  obtain ⟨k, hk, rfl⟩ := log_some ha h0
  have h3 : (3 : Nat) < 256 := by decide
  have pw : ∀ n, gp (gp 3 k) n = gp 3 (k * n) := by
    intro n
    induction n with
    | zero => rfl
    | succ n ih => simp only [gp]; rw [ih, Nat.mul_succ, gp_add h3]
  have p1 : ∀ m, gp 3 (255 * m) = 1 := by
    intro m
    induction m with
    | zero => rfl
    | succ m ih => rw [Nat.mul_succ, gp_add h3, ih, gp_3_255]; decide
  unfold gi
  rw [pw, ← gp_add h3, show k + k * 254 = 255 * k by omega, p1]
end G294
