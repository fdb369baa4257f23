/- The mathematics of the laws of chapter 7. -/
import Derived.Test.YtgbhcjfnkjhkiaaDoorShaDef
set_option linter.unusedSimpArgs false
set_option linter.unusedVariables false
namespace G294
/-- shares of a polynomial determine it -/
theorem lag_of {t : List Sr} {p : List UInt8} {k : Nat} (ha : apartX (xF t) t.length) (hk : k ≤ t.length) (hp : p.length ≤ k) (h : ∀ i, i < k → yF t i = hor (xF t i) p) (x : UInt8) : lag (xF t) (yF t) x k = hor x p :=
  lag_eq (fun i j hij hj => ha i j hij (by omega)) (polyF.upto ⟨p, rfl, fun x => rfl⟩ hp) (fun i hi => (h i hi).symm) x
theorem xF_sha (s : UInt8) (l : List UInt8) (n i : Nat) (h : i < n) : xF (shaL s l n) i = UInt8.ofNat (i + 1) := by simp [xF, List.getD, shaL_get s l n i h]
theorem yF_sha (s : UInt8) (l : List UInt8) (n i : Nat) (h : i < n) : yF (shaL s l n) i = hor (xF (shaL s l n) i) (s :: l) := by
  rw [xF_sha s l n i h]; simp [yF, List.getD, shaL_get s l n i h]
theorem sha_ok (s : UInt8) (l : List UInt8) {n : Nat} (hn : n ≤ 20) : shrOk (shaL s l n) = true := by
  rw [shrOk_iff]
  refine ⟨by simpa using hn, fun i hi => ?_⟩
  rw [shaL_length] at hi
  rw [xF_sha s l n i hi]
  unfold prX
  split
  · subst i; decide
  · rw [xF_sha s l n (i - 1) (by omega), UInt8.lt_iff_toNat_lt, UInt8.toNat_ofNat', UInt8.toNat_ofNat']
    omega
/-- the polynomial of the random bytes passes through the shares -/
theorem rnd_pass {l : List Sr} (h : shrOk l = true) (h19 : l.length ≤ 19) (s : UInt8) {i : Nat} (hi : i < l.length) : hor (xF l i) (s :: rndL l s) = yF l i := by
  rw [← rnd_at h h19 s hi, rnd_val h h19]; rfl
/-- no other random bytes fit -/
theorem rnd_only {l : List Sr} (h : shrOk l = true) (s : UInt8) {q r : List UInt8} (hq : q.length = l.length) (hr : r.length = l.length) (e : ∀ i, i < l.length → hor (xF l i) (s :: q) = hor (xF l i) (s :: r)) : q = r := by
  have := hor_inj (l := s :: q) (m := s :: r) (xs := 0 :: (List.range l.length).map (xF l)) (by simp [hq, hr]) (by simp [hq]) (by
    rw [List.nodup_cons]
    refine ⟨fun hm => ?_, apart_nodup (shr_apart h)⟩
    obtain ⟨i, hi, e0⟩ := List.mem_map.1 hm
    exact shr_pos h i (List.mem_range.1 hi) e0) (fun x hx => by
    rcases List.mem_cons.1 hx with rfl | hx
    · rw [hor_at0, hor_at0]
    · obtain ⟨i, hi, rfl⟩ := List.mem_map.1 hx
      exact e i (List.mem_range.1 hi))
  exact (List.cons.inj this).2
theorem xF_ads (a b : List Sr) (i : Nat) (h : i < a.length) : xF (adsL a b) i = xF a i := by
  have : xF (adsL a b) i = ((adsL a b)[i]?.getD (0, 0)).1 := by simp [xF, List.getD]
  rw [this, adsL_get a b i h]; rfl
theorem yF_ads (a b : List Sr) (i : Nat) (h : i < a.length) : yF (adsL a b) i = yF a i ^^^ yF b i := by
  have : yF (adsL a b) i = ((adsL a b)[i]?.getD (0, 0)).2 := by simp [yF, List.getD]
  rw [this, adsL_get a b i h]; rfl
theorem xF_ref (a : List Sr) (r : List UInt8) (i : Nat) (h : i < a.length) : xF (refL a r) i = xF a i := by
  have : xF (refL a r) i = ((refL a r)[i]?.getD (0, 0)).1 := by simp [xF, List.getD]
  rw [this, refL_get a r i h]; rfl
theorem yF_ref (a : List Sr) (r : List UInt8) (i : Nat) (h : i < a.length) : yF (refL a r) i = yF a i ^^^ hor (xF a i) (0 :: r) := by
  have : yF (refL a r) i = ((refL a r)[i]?.getD (0, 0)).2 := by simp [yF, List.getD]
  rw [this, refL_get a r i h]; rfl
theorem shr_same {a b : List Sr} (h : shrOk a = true) (hl : b.length = a.length) (hx : ∀ i, i < a.length → xF b i = xF a i) : shrOk b = true := by
  rw [shrOk_iff] at h ⊢
  refine ⟨by omega, fun i hi => ?_⟩
  have := h.2 i (by omega)
  rw [hx i (by omega)]
  unfold prX at this ⊢
  split
  · simpa [*] using this
  · rw [hx (i - 1) (by omega)]
    simpa [*] using this
/-- added shares share the sum -/
theorem ads_lag {a b : List Sr} (h : adsOk a b = true) (x : UInt8) : shrOk (adsL a b) = true ∧ lag (xF (adsL a b)) (yF (adsL a b)) x (adsL a b).length = lag (xF a) (yF a) x a.length ^^^ lag (xF b) (yF b) x b.length := by
  simp only [adsOk, sameX, Bool.and_eq_true, decide_eq_true_eq] at h
  obtain ⟨⟨h1, h2⟩, h3, h4⟩ := h
  refine ⟨shr_same h1 (by simp) fun i hi => xF_ads a b i hi, ?_⟩
  rw [adsL_length, lag_congr (fun j hj => xF_ads a b j hj) (fun j hj => yF_ads a b j hj), lag_xor, ← h3]
  exact congrArg (fun z => lag (xF a) (yF a) x a.length ^^^ z) (lag_congr h4 (fun _ _ => rfl))
/-- refreshed shares share the same secret -/
theorem ref_lag {l : List Sr} {r : List UInt8} (h : refOk l r = true) (hr : r.length < l.length) : shrOk (refL l r) = true ∧ lag (xF (refL l r)) (yF (refL l r)) 0 (refL l r).length = lag (xF l) (yF l) 0 l.length := by
  simp only [refOk, Bool.and_eq_true, decide_eq_true_eq] at h
  refine ⟨shr_same h.1 (by simp) fun i hi => xF_ref l r i hi, ?_⟩
  rw [refL_length, lag_congr (fun j hj => xF_ref l r j hj) (fun j hj => yF_ref l r j hj), lag_xor]
  rw [lag_eq (Y := fun i => hor (xF l i) (0 :: r)) (f := fun x => hor x (0 :: r)) (shr_apart h.1) (polyF.upto ⟨0 :: r, rfl, fun x => rfl⟩ (by simp; omega)) (fun i _ => rfl)]
  rw [hor_at0, UInt8.xor_zero]
end G294
