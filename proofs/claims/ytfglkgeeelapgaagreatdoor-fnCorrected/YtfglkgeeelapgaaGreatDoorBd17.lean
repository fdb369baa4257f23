/- Joined texts: CorLaw. -/
import Derived.Test.YtfglkgeeelapgaaGreatDoorBd14
import Derived.Test.YtfglkgeeelapgaaGreatDoorBd15
import Derived.Test.YtfglkgeeelapgaaGreatDoorBd06
set_option linter.unusedSimpArgs false
set_option linter.unusedVariables false
/- Chapter 8's mathematics for FnCorrected: few errors corrected, what CorrectWord answers is near. -/
namespace G294
open Go
theorem dist_self (a : List UInt8) : ∀ k, distN a a k = 0
  | 0 => rfl
  | k + 1 => by rw [distN_same rfl, dist_self a k]
theorem dist_low {a b : List UInt8} {p : Nat} {v : UInt8} : ∀ k, k ≤ p → distN (a.set p v) b k = distN a b k
  | 0, _ => rfl
  | k + 1, h => by
    have e : (a.set p v).getD k 0 = a.getD k 0 := by simp [List.getD, List.getElem?_set, show ¬ p = k by omega]
    by_cases hz : a.getD k 0 = b.getD k 0
    · rw [distN_same (by rw [e]; exact hz), distN_same hz, dist_low k (by omega)]
    · rw [distN_more (by rw [e]; exact hz), distN_more hz, dist_low k (by omega)]
/-- a byte more that differs -/
theorem dist_set {a b : List UInt8} {p : Nat} {v : UInt8} (hp : p < a.length) (he : a.getD p 0 = b.getD p 0) (hv : v ≠ b.getD p 0) : ∀ k, p < k → distN (a.set p v) b k = distN a b k + 1
  | 0, h => by omega
  | k + 1, h => by
    by_cases hk : k = p
    · subst hk
      have e : (a.set k v).getD k 0 = v := by simp [List.getD, hp]
      rw [distN_more (by rw [e]; exact hv), distN_same he, dist_low k (Nat.le_refl _)]
    · have e : (a.set p v).getD k 0 = a.getD k 0 := by simp [List.getD, List.getElem?_set, show ¬ p = k by omega]
      by_cases hz : a.getD k 0 = b.getD k 0
      · rw [distN_same (by rw [e]; exact hz), distN_same hz, dist_set hp he hv k (by omega)]
      · rw [distN_more (by rw [e]; exact hz), distN_more hz, dist_set hp he hv k (by omega)]
/-- the word of data -/
theorem enc_word {l : List UInt8} {t : Int} (h : encOk8 l t = true) : ∃ m : Nat, t = m ∧ 1 ≤ m ∧ m ≤ 4 ∧ encR8 l t = encL8 l (2 * m) ∧ (encR8 l t).length = 2 * m + l.length ∧ (encR8 l t).length ≤ 24 ∧ 1 ≤ l.length ∧ isWR (encR8 l t) t = true ∧ dataR (encR8 l t) t = l ∧ errT t = true ∧ (genR t).length = 2 * m + 1 ∧ (∀ i, i < 2 * m → hor (powB 3 (i + 1)) (encR8 l t) = 0) := by
  have hx := h
  simp only [encOk8, Bool.and_eq_true, decide_eq_true_eq] at hx
  obtain ⟨he, h1, h2⟩ := hx
  have he' := he
  simp only [errT, decide_eq_true_eq] at he'
  obtain ⟨m, rfl⟩ : ∃ m : Nat, t = m := ⟨t.toNat, by omega⟩
  have e : encR8 l (m : Int) = encL8 l (2 * m) := by unfold encR8; rw [if_pos h]; simp
  have el : (encR8 l (m : Int)).length = 2 * m + l.length := by rw [e]; simp [encL8]
  have hr : ∀ i, i < 2 * m → hor (powB 3 (i + 1)) (encR8 l (m : Int)) = 0 := fun i hi => by rw [e]; exact enc_root hi h1
  have hf : fitW (encR8 l (m : Int)) (m : Int) = true := by
    unfold fitW; rw [he, Bool.true_and, decide_eq_true_eq, el]; omega
  have hw : isWR (encR8 l (m : Int)) (m : Int) = true := by
    unfold isWR; rw [hf, Bool.true_and, zeroL_iff]
    intro i hi
    have hi' : i < 2 * m := by simpa using hi
    rw [Int.toNat_natCast, synL_getD _ _ _ hi', hr i hi']
  refine ⟨m, rfl, by omega, by omega, e, el, by omega, h1, hw, ?_, he, ?_, hr⟩
  · unfold dataR; rw [if_pos hw, Int.toNat_natCast, e]
    unfold encL8
    exact List.drop_left' (by simp)
  · unfold genR; rw [if_pos he]; simp
/-- few wrong bytes are corrected -/
theorem enc_corrected {x u : List UInt8} {m : Nat} (h1 : 1 ≤ m) (h4 : m ≤ 4) (hl : x.length = u.length) (h24 : u.length ≤ 24) (hm : 2 * m + 1 ≤ u.length) (hu : ∀ i, i < 2 * m → hor (powB 3 (i + 1)) u = 0) (hd : distN x u x.length ≤ m) :
    corR x (m : Int) = u ∧ corN x (m : Int) = (distN x u x.length : Nat) ∧ corOk x (m : Int) = true := by
  have hf : fitW x (m : Int) = true := by
    simp only [fitW, errT, Bool.and_eq_true, decide_eq_true_eq]; omega
  have e : corO x (m : Int) = some (u, distN x u x.length) := by
    unfold corO; rw [if_pos hf, Int.toNat_natCast]; exact corrected hl (by omega) hu hd
  unfold corR corN corOk
  rw [e]; exact ⟨rfl, rfl, rfl⟩
theorem put_dif {w : List UInt8} {L : List UInt8} {E : Nat → UInt8} (hE : ∀ j, j < (plcs w.length L).length → E j ≠ 0) :
    distN w (putE w (plcs w.length L) E (plcs w.length L).length) w.length = (plcs w.length L).length := by
  rw [dist_nz]
  obtain ⟨h1, h2⟩ := putE_getD (w := w) (P := plcs w.length L) (E := E) plcs_lt (fun j hj => plcs_at hj) _ (Nat.le_refl _)
  have e : nzK w.length (difF w (putE w (plcs w.length L) E (plcs w.length L).length)) = plcs w.length L := by
    unfold nzK
    show _ = (List.range w.length).filter _
    refine List.filter_congr fun p hp => ?_
    have hpl : p < w.length := by simpa using hp
    by_cases hm : p ∈ plcs w.length L
    · obtain ⟨j, hj, hjp⟩ := List.getElem_of_mem hm
      have hjd : (plcs w.length L).getD j 0 = p := by simp [List.getD, hj, hjp]
      have hd : difF w (putE w (plcs w.length L) E (plcs w.length L).length) p = E j := by
        unfold difF
        rw [← hjd, h1 j hj, ← UInt8.xor_assoc, UInt8.xor_self, UInt8.zero_xor]
      rw [hd, (plcs_mem.1 hm).2]
      simpa using hE j hj
    · have hd : difF w (putE w (plcs w.length L) E (plcs w.length L).length) p = 0 := by
        unfold difF
        rw [h2 p (fun j hj e => hm (by rw [← e]; rw [show (plcs w.length L).getD j 0 = (plcs w.length L)[j] by simp [List.getD, hj]]; exact List.getElem_mem hj)), UInt8.xor_self]
      have hn : hor (ginv (powB 3 p)) L ≠ 0 := fun h => hm (plcs_mem.2 ⟨hpl, h⟩)
      rw [hd]
      simpa using hn
  rw [e]
/-- what CorrectWord answers is a code word near by -/
theorem cor_near {u : List UInt8} {t : Int} (h : corOk u t = true) : ∃ (m n : Nat), t = m ∧ m ≤ 4 ∧ n ≤ m ∧ corN u t = n ∧ isWR (corR u t) t = true ∧ fitW (corR u t) t = true ∧ distR u (corR u t) = n ∧ distOk u (corR u t) = true := by
  by_cases hf : fitW u t = true
  · obtain ⟨m, rfl, hm1, hm4, hm2, hl24, _⟩ := fitW_m hf
    by_cases hz : isWR u (m : Int) = true
    · obtain ⟨e1, e2, e3⟩ := cor_right hz
      have hok : distOk u u = true := by simp [distOk, hl24]
      refine ⟨m, 0, rfl, hm4, Nat.zero_le _, e2, by rw [e1]; exact hz, by rw [e1]; exact hf, ?_, by rw [e1]; exact hok⟩
      rw [e1]
      unfold distR; rw [if_pos hok, dist_self]
    · have hz' : isWR u (m : Int) = false := by simpa using hz
      by_cases hs : (plcs u.length (locL (synL u (2 * m)))).length = 0 ∨ (plcs u.length (locL (synL u (2 * m)))).length ≠ locN (synL u (2 * m)) ((synL u (2 * m)).length / 2)
      · have := (cor_short hz' hf hs).2.2; rw [h] at this; cases this
      · have h0 : (plcs u.length (locL (synL u (2 * m)))).length ≠ 0 := fun e => hs (.inl e)
        have hd : (plcs u.length (locL (synL u (2 * m)))).length = locN (synL u (2 * m)) ((synL u (2 * m)).length / 2) := by
          by_cases e : (plcs u.length (locL (synL u (2 * m)))).length = locN (synL u (2 * m)) ((synL u (2 * m)).length / 2)
          · exact e
          · exact absurd (.inr e) hs
        obtain ⟨hy, hn⟩ := cor_long hz' hf rfl h0 hd
        by_cases hzz : zeroL (synL (putE u (plcs u.length (locL (synL u (2 * m)))) (corE (synL u (2 * m)) (plcs u.length (locL (synL u (2 * m))))) (plcs u.length (locL (synL u (2 * m)))).length) (2 * m)) = true
        · obtain ⟨e1, e2, e3⟩ := hy hzz
          have hE := no_zero hl24 (by omega) hd h0 hzz
          have hlen : (putE u (plcs u.length (locL (synL u (2 * m)))) (corE (synL u (2 * m)) (plcs u.length (locL (synL u (2 * m))))) (plcs u.length (locL (synL u (2 * m)))).length).length = u.length := putE_length _ _ _ _
          have hf2 : fitW (putE u (plcs u.length (locL (synL u (2 * m)))) (corE (synL u (2 * m)) (plcs u.length (locL (synL u (2 * m))))) (plcs u.length (locL (synL u (2 * m)))).length) (m : Int) = true := (fitW_len hlen).trans hf
          have hok : distOk u (putE u (plcs u.length (locL (synL u (2 * m)))) (corE (synL u (2 * m)) (plcs u.length (locL (synL u (2 * m))))) (plcs u.length (locL (synL u (2 * m)))).length) = true := by simp [distOk, hlen, hl24]
          refine ⟨m, (plcs u.length (locL (synL u (2 * m)))).length, rfl, hm4, ?_, e2, ?_, by rw [e1]; exact hf2, ?_, by rw [e1]; exact hok⟩
          · rw [hd]
            have := locN_le (synL u (2 * m)) ((synL u (2 * m)).length / 2)
            simp only [synL_length] at this ⊢
            omega
          · rw [e1]; unfold isWR; rw [hf2, Bool.true_and, Int.toNat_natCast]; exact hzz
          · rw [e1]; unfold distR; rw [if_pos hok, put_dif hE]
        · have := (hn (by simpa using hzz)).2.2; rw [h] at this; cases this
  · have := (cor_unfit (l := u) (t := t) (by simpa using hf)).2.2; rw [h] at this; cases this
end G294
