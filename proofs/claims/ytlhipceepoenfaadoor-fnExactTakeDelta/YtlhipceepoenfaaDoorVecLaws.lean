/- Bilinearity of the products of vectors: plain functions. -/
import Derived.Test.YtlhipceepoenfaaDoorVecMath
set_option linter.unusedSimpArgs false
set_option linter.unusedVariables false
namespace G294
theorem u8_ext {a b : UInt8} (h : a.toNat = b.toNat) : a = b := UInt8.toNat_inj.1 h
theorem gmul_comm (a b : UInt8) : gmul a b = gmul b a := u8_ext (by rw [gmul_toNat, gmul_toNat]; exact gm_comm a.toNat_lt b.toNat_lt)
theorem gmul_assoc (a b c : UInt8) : gmul (gmul a b) c = gmul a (gmul b c) := u8_ext (by simp only [gmul_toNat]; exact gm_assoc a.toNat_lt b.toNat_lt c.toNat_lt)
theorem gmul_xor (a b c : UInt8) : gmul a (b ^^^ c) = gmul a b ^^^ gmul a c := u8_ext (by rw [gmul_toNat, UInt8.toNat_xor, UInt8.toNat_xor, gmul_toNat, gmul_toNat]; exact gm_right_xor _ _ _)
theorem xor_gmul (a b c : UInt8) : gmul (a ^^^ b) c = gmul a c ^^^ gmul b c := by rw [gmul_comm, gmul_xor, gmul_comm c a, gmul_comm c b]
theorem gmul_zero (a : UInt8) : gmul a 0 = 0 := u8_ext (by rw [gmul_toNat]; exact gm_zero_right _)
theorem zero_gmul (a : UInt8) : gmul 0 a = 0 := by rw [gmul_comm, gmul_zero]
theorem gmul_one (a : UInt8) : gmul a 1 = a := u8_ext (by rw [gmul_toNat]; exact gm_one_right _)
theorem one_gmul (a : UInt8) : gmul 1 a = a := by rw [gmul_comm, gmul_one]
theorem xor_self8 (a : UInt8) : a ^^^ a = 0 := by simp
theorem getD_scale (a : UInt8) (l : List UInt8) (k : Nat) : (scaleL a l).getD k 0 = gmul a (l.getD k 0) := by
  rcases Nat.lt_or_ge k l.length with h | h
  · simp [scaleL, List.getD, h]
  · simp [scaleL, List.getD, List.getElem?_eq_none h, gmul_zero]
theorem dotK_scale (a : UInt8) (l m : List UInt8) (k : Nat) : dotK (scaleL a l) m k = gmul a (dotK l m k) := by
  induction k with
  | zero => exact (gmul_zero a).symm
  | succ k ih => rw [dotK, dotK, ih, getD_scale, gmul_assoc, ← gmul_xor]
theorem dotL_scale (a : UInt8) (l m : List UInt8) : dotL (scaleL a l) m = gmul a (dotL l m) := by
  unfold dotL; rw [dotK_scale]; simp [scaleL]
theorem getD_add (l m : List UInt8) (h : l.length = m.length) (k : Nat) : (addL l m).getD k 0 = l.getD k 0 ^^^ m.getD k 0 := by
  rcases Nat.lt_or_ge k l.length with h1 | h1
  · have h2 : k < m.length := by omega
    have h3 : k < (List.zipWith (fun x y => x ^^^ y) l m).length := by simp; omega
    simp [addL, List.getD, h1, h2, List.getElem?_eq_getElem h3]
  · have h2 : m.length ≤ k := by omega
    have h3 : (List.zipWith (fun x y => x ^^^ y) l m).length ≤ k := by simp; omega
    simp [addL, List.getD, List.getElem?_eq_none h1, List.getElem?_eq_none h2, List.getElem?_eq_none h3]
theorem sq_add (x y : UInt8) : gmul (x ^^^ y) (x ^^^ y) = gmul x x ^^^ gmul y y := by
  rw [gmul_xor, xor_gmul, xor_gmul, gmul_comm y x, UInt8.xor_assoc, ← UInt8.xor_assoc (gmul x y), xor_self8]
  simp
theorem dotK_sq (l m : List UInt8) (h : l.length = m.length) (k : Nat) : dotK (addL l m) (addL l m) k = dotK l l k ^^^ dotK m m k := by
  induction k with
  | zero => simp [dotK]
  | succ k ih =>
    rw [dotK, dotK, dotK, ih, getD_add l m h, sq_add]
    simp only [UInt8.xor_assoc]
    congr 1
    rw [← UInt8.xor_assoc, ← UInt8.xor_assoc, UInt8.xor_comm (dotK m m k)]
theorem dotL_sq (l m : List UInt8) (h : l.length = m.length) : dotL (addL l m) (addL l m) = dotL l l ^^^ dotL m m := by
  have e : (addL l m).length = l.length := by simp [addL, h]
  unfold dotL
  rw [e, dotK_sq l m h, h]
theorem addL_back (l m : List UInt8) (h : l.length = m.length) : addL (addL l m) m = l := by
  apply List.ext_getElem
  · simp [addL, h]
  · intro i h1 h2
    simp [addL, UInt8.xor_assoc]
end G294
