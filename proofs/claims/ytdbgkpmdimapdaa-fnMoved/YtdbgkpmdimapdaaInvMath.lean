/- Elimination's mathematics: a full rank leaves the identity, the inverse on the left, kernels; Cauchy's matrix has no kernel. -/
import Derived.Test.YtdbgkpmdimapdaaMatMath
set_option linter.unusedSimpArgs false
set_option linter.unusedVariables false
namespace G294
theorem g_cancel {a b : UInt8} (ha : a ≠ 0) (h : gmul a b = 0) : b = 0 := by
  have := congrArg (gmul (ginv a)) h
  rwa [← gmul_assoc, ginv_gmul ha, one_gmul, gmul_zero] at this
theorem g_ne {a b : UInt8} (ha : a ≠ 0) (hb : b ≠ 0) : gmul a b ≠ 0 := fun h => hb (g_cancel ha h)
theorem ginv_ne {a : UInt8} (ha : a ≠ 0) : ginv a ≠ 0 := fun h => by
  have := gmul_ginv ha
  rw [h, gmul_zero] at this
  exact absurd this (by decide)
theorem x_self (a : UInt8) : a ^^^ a = 0 := by simp
theorem x_eq {a b : UInt8} (h : a ^^^ b = 0) : a = b := by
  have := congrArg (· ^^^ b) h
  simpa [UInt8.xor_assoc] using this
theorem x_ne {a b : UInt8} (h : a ≠ b) : a ^^^ b ≠ 0 := fun e => h (x_eq e)
/-- full rank at column k: the first k columns are those of the identity -/
theorem est_unit {F : Ents} {r : Nat} : ∀ k, (est F r k).2 = k → ∀ j, j < k → ∀ i, i < r → (est F r k).1 i j = idF i j := by
  intro k
  induction k with
  | zero => intro _ j hj; omega
  | succ k ih =>
    intro hk j hj i hi
    have hle := est_le F r k
    rcases piv_cases (est F r k).1 r (est F r k).2 k with ⟨e, _⟩ | ⟨p, e, h1, h2, h3, _⟩
    · rw [est_none e] at hk; omega
    · rw [est_some e] at hk ⊢
      simp only at hk ⊢
      have hk' : (est F r k).2 = k := by omega
      have ih := ih hk'
      rw [hk'] at h1 ⊢
      have hkr : k < r := by omega
      unfold opF opAt clF scF swF
      simp only
      have s1 : sw k p k = p := by simp [sw]
      by_cases hjk : j = k
      · subst hjk
        by_cases hij : i = j
        · subst hij
          simp only [if_true, s1, idF, ginv_gmul h3]
        · simp only [hij, if_false, if_true, s1, idF, ginv_gmul h3, gmul_one, x_self]
      · have hj' : j < k := by omega
        have z1 : (est F r k).1 p j = 0 := by rw [ih j hj' p (by omega)]; simp [idF, show ¬ p = j by omega]
        by_cases hik : i = k
        · subst hik
          simp only [if_true, s1, z1, gmul_zero, idF, show ¬ i = j by omega, if_false]
        · simp only [hik, if_false, if_true, s1, z1, gmul_zero, UInt8.xor_zero]
          have hsw : sw k p i < r := sw_lt hkr h2 hi
          rw [ih j hj' _ hsw]
          unfold idF sw
          rw [if_neg hik]
          by_cases hip : i = p
          · subst hip; simp [show ¬ k = j by omega, show ¬ i = j by omega]
          · simp [hip]
/-- the inverse on the left -/
theorem inv_left {F : Ents} {k : Nat} (h : (est F k k).2 = k) {i j : Nat} (hi : i < k) (hj : j < k) : sumK k (fun l => gmul (bst F idF k k i l) (F l j)) = idF i j := by
  rw [← bst_lin F F k k i j hi, bst_self]
  exact est_unit k h j hj i hi
/-- an operation takes no kernel away and adds none -/
def kerAt (F : Ents) (r c : Nat) (v : Nat → UInt8) : Prop := ∀ i, i < r → sumK c (fun j => gmul (F i j) (v j)) = 0
theorem op_ker {o : Op} {F : Ents} {r c : Nat} {v : Nat → UInt8} (ha : o.a < r) (hp : o.p < r) (hs : o.s ≠ 0) (h : kerAt (opF o F) r c v) : kerAt F r c v := by
  have row : ∀ i, i < r → sumK c (fun j => gmul (F (sw o.a o.p i) j) (v j)) = 0 := by
    have ra : sumK c (fun j => gmul (F (sw o.a o.p o.a) j) (v j)) = 0 := by
      have := h o.a ha
      have e : (fun j => gmul (opF o F o.a j) (v j)) = fun j => gmul o.s (gmul (F (sw o.a o.p o.a) j) (v j)) := by
        funext j; simp [opF, clF, scF, swF, gmul_assoc]
      rw [e, sumK_mul] at this
      exact g_cancel hs this
    intro i hi
    by_cases hia : i = o.a
    · rw [hia]; exact ra
    · have := h i hi
      have e : (fun j => gmul (opF o F i j) (v j)) = fun j => gmul (F (sw o.a o.p i) j) (v j) ^^^ gmul (gmul (o.fs i) o.s) (gmul (F (sw o.a o.p o.a) j) (v j)) := by
        funext j; simp [opF, clF, scF, swF, hia, gmul_assoc, xor_gmul]
      rw [e, sumK_xor, sumK_mul, ra, gmul_zero, UInt8.xor_zero] at this
      exact this
  intro i hi
  have e : sw o.a o.p (sw o.a o.p i) = i := by
    unfold sw
    by_cases h1 : i = o.a
    · by_cases h2 : o.p = o.a <;> simp [h1, h2]
    · by_cases h2 : i = o.p
      · simp [h2]
      · simp [h1, h2]
  have := row (sw o.a o.p i) (sw_lt ha hp hi)
  rwa [e] at this
theorem est_ker {F : Ents} {r c : Nat} {v : Nat → UInt8} : ∀ k, kerAt (est F r k).1 r c v → kerAt F r c v := by
  intro k
  induction k with
  | zero => exact id
  | succ k ih =>
    intro h
    rcases piv_cases (est F r k).1 r (est F r k).2 k with ⟨e, _⟩ | ⟨p, e, h1, h2, h3, _⟩
    · rw [est_none e] at h; exact ih h
    · rw [est_some e] at h
      exact ih (op_ker (o := opAt (est F r k).1 (est F r k).2 k p) (by show (est F r k).2 < r; omega) h2 (ginv_ne h3) h)
/-- the rank falls short somewhere: the first column without a pivot -/
theorem est_short {F : Ents} {r : Nat} : ∀ k, (est F r k).2 ≠ k → ∃ c, c < k ∧ (est F r c).2 = c ∧ piv (est F r c).1 r c c = none := by
  intro k
  induction k with
  | zero => intro h; exact absurd rfl h
  | succ k ih =>
    intro h
    by_cases hk : (est F r k).2 = k
    · rcases piv_cases (est F r k).1 r (est F r k).2 k with ⟨e, _⟩ | ⟨p, e, _⟩
      · exact ⟨k, by omega, hk, by rw [hk] at e; exact e⟩
      · rw [est_some e] at h; simp only at h; omega
    · obtain ⟨c, h1, h2⟩ := ih hk
      exact ⟨c, by omega, h2⟩
theorem piv_none_at {F : Ents} {r a j : Nat} (h : piv F r a j = none) : ∀ i, a ≤ i → i < r → F i j = 0 := by
  rcases piv_cases F r a j with ⟨_, h'⟩ | ⟨p, e, _⟩
  · exact h'
  · rw [h] at e; cases e
theorem sumK_split {n c : Nat} (f : Nat → UInt8) (hc : c < n) (h : ∀ l, c < l → l < n → f l = 0) : sumK n f = sumK c f ^^^ f c := by
  induction n with
  | zero => omega
  | succ n ih =>
    show sumK n f ^^^ f n = _
    by_cases e : n = c
    · subst e; rfl
    · rw [ih (by omega) (fun l h1 h2 => h l h1 (by omega)), h n (by omega) (by omega), UInt8.xor_zero]
/-- no kernel: full rank -/
theorem rank_full {F : Ents} {r n : Nat} (hn : n ≤ r) (h : ∀ v, kerAt F r n v → ∀ j, j < n → v j = 0) : (est F r n).2 = n := by
  by_cases hk : (est F r n).2 = n
  · exact hk
  · exfalso
    obtain ⟨c, hc, hcc, hp⟩ := est_short n hk
    have hz := piv_none_at hp
    have hu := est_unit c hcc
    have hv := h (fun j => if j < c then (est F r c).1 j c else if j = c then 1 else 0) (est_ker c fun i hi => by
      rw [sumK_split _ hc (fun l h1 h2 => by simp [show ¬ l < c by omega, show ¬ l = c by omega, gmul_zero])]
      simp only [Nat.lt_irrefl, if_false, if_true, gmul_one]
      have e : sumK c (fun j => gmul ((est F r c).1 i j) (if j < c then (est F r c).1 j c else if j = c then 1 else 0)) = sumK c (fun j => gmul (idF i j) ((est F r c).1 j c)) := sumK_congr fun l hl => by
        rw [if_pos hl, hu l hl i hi]
      rw [e]
      by_cases hic : i < c
      · rw [sumK_one _ hic (fun l _ hne => by simp [idF, show ¬ i = l from fun e => hne e.symm, zero_gmul])]
        simp [idF, one_gmul]
      · rw [sumK_congr (g := fun _ => 0) (fun l hl => by simp [idF, show ¬ i = l by omega, zero_gmul]), sumK_zero, hz i (by omega) hi]
        rfl) c hc
    simp at hv
end G294
