/- The random bytes that fit to shares: one solution of equations of powers. -/
import Derived.Test.YtjgmegfbfjmnfaaShaMath
set_option linter.unusedSimpArgs false
set_option linter.unusedVariables false
namespace G294
theorem powB_zero (x : UInt8) : powB x 0 = 1 := by
  apply UInt8.toNat_inj.1; rw [powB_toNat]; rfl
theorem powB_succ (x : UInt8) (n : Nat) : powB x (n + 1) = gmul (powB x n) x := by
  apply UInt8.toNat_inj.1
  rw [gmul_toNat, powB_toNat, powB_toNat]; rfl
theorem hor_snoc (x c : UInt8) (l : List UInt8) : hor x (l ++ [c]) = hor x l ^^^ gmul (powB x l.length) c := by
  induction l with
  | nil => simp [hor, zero_gmul, powB_zero, one_gmul]
  | cons d l ih =>
    rw [List.cons_append, hor, ih, hor, List.length_cons, powB_succ, xor_gmul, gmul_assoc, gmul_assoc, gmul_comm c x]
    rw [UInt8.xor_assoc, UInt8.xor_assoc, UInt8.xor_comm d]
theorem hor_mk (x : UInt8) (f : Nat → UInt8) (n : Nat) : hor x (mkRow n f) = sumK n fun j => gmul (powB x j) (f j) := by
  induction n with
  | zero => rfl
  | succ n ih => rw [mkRow_succ, hor_snoc, ih, sumK]; simp
theorem hor_up (x : UInt8) (f : Nat → UInt8) (n : Nat) : gmul (hor x (mkRow n f)) x = sumK n fun j => gmul (powB x (j + 1)) (f j) := by
  rw [hor_mk, ← sumK_mulr]
  exact sumK_congr fun j _ => by rw [powB_succ, gmul_assoc, gmul_assoc, gmul_comm x]
def rndF (l : List Sr) : Ents := fun i j => powB (xF l i) (j + 1)
theorem rnd_full {l : List Sr} (h : shrOk l = true) : (est (rndF l) l.length l.length).2 = l.length := by
  refine rank_full (Nat.le_refl _) fun v hv j hj => ?_
  have hz := hor_root ((List.range l.length).map (xF l)) (mkRow l.length v) (by simp) (apart_nodup (shr_apart h)) (fun x hx => by
    obtain ⟨i, hi, rfl⟩ := List.mem_map.1 hx
    have hi := List.mem_range.1 hi
    have := hv i hi
    simp only [rndF] at this
    rw [← hor_up, gmul_comm] at this
    exact g_cancel (shr_pos h i hi) this)
  have hl : j < (mkRow l.length v).length := by simpa using hj
  have := hz _ (List.getElem_mem hl)
  rwa [mkRow_get] at this
def rndP (l : List Sr) (s : UInt8) : List UInt8 := thr ((0, s) :: l)
theorem rnd_apart {l : List Sr} (h : shrOk l = true) (s : UInt8) : apartX (xF ((0, s) :: l)) ((0, s) :: l).length := by
  intro i j hij hj
  obtain ⟨j, rfl⟩ : ∃ j', j = j' + 1 := ⟨j - 1, by omega⟩
  have hj' : j < l.length := by simpa using hj
  cases i with
  | zero => exact fun e => shr_pos h j hj' e.symm
  | succ i => exact shr_apart h i j (by omega) hj'
theorem rnd_len (l : List Sr) (s : UInt8) : (rndP l s).length = 20 := thr_len _
theorem rnd_cons {l : List Sr} (h : shrOk l = true) (h19 : l.length ≤ 19) (s : UInt8) : ∃ T, rndP l s = s :: T ∧ T.length = 19 ∧ ∀ j, l.length ≤ j → T.getD j 0 = 0 := by
  have hl := rnd_len l s
  have h0 := thr_at (l := (0, s) :: l) (by simp; omega) (rnd_apart h s) (i := 0) (by simp)
  have hh := fun j (hj : l.length ≤ j) => thr_high (l := (0, s) :: l) (by simp; omega) (rnd_apart h s) (j := j + 1) (by simp; omega)
  change hor 0 (rndP l s) = s at h0
  change ∀ j, l.length ≤ j → (rndP l s).getD (j + 1) 0 = 0 at hh
  generalize rndP l s = P at *
  cases P with
  | nil => simp at hl
  | cons p T =>
    rw [hor_at0] at h0
    exact ⟨T, by rw [h0], by simpa using hl, hh⟩
theorem take_mkRow (T : List UInt8) (n : Nat) (h : n ≤ T.length) : T.take n = mkRow n (fun j => T.getD j 0) := by
  apply List.ext_getElem
  · simp; omega
  · intro i h1 h2
    have hi : i < T.length := by simp at h1; omega
    rw [mkRow_get, List.getElem_take]
    simp [List.getD, hi]
theorem rnd_val {l : List Sr} (h : shrOk l = true) (h19 : l.length ≤ 19) (s x : UInt8) : hor x (rndP l s) = gmul (hor x (mkRow l.length fun j => (rndP l s).getD (j + 1) 0)) x ^^^ s := by
  obtain ⟨T, hT, hl, hz⟩ := rnd_cons h h19 s
  rw [hT, hor, ← hor_take x T l.length hz, take_mkRow T _ (by omega)]
  rfl
theorem rnd_at {l : List Sr} (h : shrOk l = true) (h19 : l.length ≤ 19) (s : UInt8) {i : Nat} (hi : i < l.length) : hor (xF l i) (rndP l s) = yF l i :=
  thr_at (l := (0, s) :: l) (by simp; omega) (rnd_apart h s) (i := i + 1) (by simpa using hi)
theorem rnd_left {l : List Sr} (h : shrOk l = true) (h19 : l.length ≤ 19) (s : UInt8) {i : Nat} (hi : i < l.length) : sumK l.length (fun j => gmul (rndF l i j) ((rndP l s).getD (j + 1) 0)) = yF l i ^^^ s := by
  have h1 := rnd_at h h19 s hi
  rw [rnd_val h h19, hor_up] at h1
  rw [← h1, UInt8.xor_assoc, UInt8.xor_self, UInt8.xor_zero]
  rfl
theorem rnd_sol {l : List Sr} (h : shrOk l = true) (h19 : l.length ≤ 19) (s : UInt8) {i : Nat} (hi : i < l.length) :
    sumK l.length (fun k => gmul (bst (rndF l) idF l.length l.length i k) (yF l k ^^^ s)) = (rndP l s).getD (i + 1) 0 := by
  have e : sumK l.length (fun k => gmul (bst (rndF l) idF l.length l.length i k) (yF l k ^^^ s)) = sumK l.length (fun k => sumK l.length fun j => gmul (gmul (bst (rndF l) idF l.length l.length i k) (rndF l k j)) ((rndP l s).getD (j + 1) 0)) :=
    sumK_congr fun k hk => by
      rw [← rnd_left h h19 s hk, ← sumK_mul]
      exact sumK_congr fun j _ => by rw [gmul_assoc]
  rw [e, sumK_swap]
  rw [sumK_congr (g := fun j => gmul (idF i j) ((rndP l s).getD (j + 1) 0)) (fun j hj => by rw [sumK_mulr, inv_left (rnd_full h) hi hj])]
  rw [sumK_one _ hi fun j _ hne => by rw [show idF i j = 0 from if_neg (Ne.symm hne), zero_gmul]]
  rw [show idF i i = 1 from if_pos rfl, one_gmul]
end G294
