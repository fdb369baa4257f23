/- The table of bits.Len. -/
import Derived.Test.YtlhipceepoenfaaDoorNumMath
set_option linter.unusedSimpArgs false
set_option linter.unusedVariables false
namespace G294
def lenTab : ByteArray := ⟨#[0, 1, 2, 2, 3, 3, 3, 3, 4, 4, 4, 4, 4, 4, 4, 4, 5, 5, 5, 5, 5, 5, 5, 5, 5, 5, 5, 5, 5, 5, 5, 5,
  6, 6, 6, 6, 6, 6, 6, 6, 6, 6, 6, 6, 6, 6, 6, 6, 6, 6, 6, 6, 6, 6, 6, 6, 6, 6, 6, 6, 6, 6, 6, 6,
  7, 7, 7, 7, 7, 7, 7, 7, 7, 7, 7, 7, 7, 7, 7, 7, 7, 7, 7, 7, 7, 7, 7, 7, 7, 7, 7, 7, 7, 7, 7, 7,
  7, 7, 7, 7, 7, 7, 7, 7, 7, 7, 7, 7, 7, 7, 7, 7, 7, 7, 7, 7, 7, 7, 7, 7, 7, 7, 7, 7, 7, 7, 7, 7,
  8, 8, 8, 8, 8, 8, 8, 8, 8, 8, 8, 8, 8, 8, 8, 8, 8, 8, 8, 8, 8, 8, 8, 8, 8, 8, 8, 8, 8, 8, 8, 8,
  8, 8, 8, 8, 8, 8, 8, 8, 8, 8, 8, 8, 8, 8, 8, 8, 8, 8, 8, 8, 8, 8, 8, 8, 8, 8, 8, 8, 8, 8, 8, 8,
  8, 8, 8, 8, 8, 8, 8, 8, 8, 8, 8, 8, 8, 8, 8, 8, 8, 8, 8, 8, 8, 8, 8, 8, 8, 8, 8, 8, 8, 8, 8, 8,
  8, 8, 8, 8, 8, 8, 8, 8, 8, 8, 8, 8, 8, 8, 8, 8, 8, 8, 8, 8, 8, 8, 8, 8, 8, 8, 8, 8, 8, 8, 8, 8]⟩
set_option maxRecDepth 100000 in
theorem lenTab_size : lenTab.size = 256 := rfl
theorem lenTab_at {n : Nat} (h : n < lenTab.size) : lenTab[n] = lenTab.data.getD n 0 := by
  show lenTab.data[n]'h = _
  have h' : n < lenTab.data.size := h
  unfold Array.getD
  rw [dif_pos h']
  rfl
set_option maxRecDepth 100000 in
theorem lenTab_nd : ∀ n : Fin 256, (lenTab.data.getD n.1 0).toNat = nd n.1 := by decide +kernel
theorem nd_shift {n j : Nat} (h : n < 2 ^ 63) (h1 : 2 ^ j ≤ n) : nd (n / 2 ^ j) + j = nd n := by
  have hp : 0 < 2 ^ j := Nat.two_pow_pos j
  have h2 : 1 ≤ n / 2 ^ j := Nat.div_pos h1 hp
  have h3 : n / 2 ^ j < 2 ^ 63 := Nat.lt_of_le_of_lt (Nat.div_le_self _ _) h
  have h4 := nd_pos h3 h2
  have h5 := nd_ge h3 h2
  have h6 := nd_lt h3
  have h7 := (Nat.le_div_iff_mul_le hp).1 h5
  have h8 := (Nat.div_lt_iff_lt_mul hp).1 h6
  rw [← Nat.pow_add] at h7 h8
  have := nd_uniq (k := nd (n / 2 ^ j) - 1 + j) h (by rw [show nd (n / 2 ^ j) - 1 + j + 1 = nd (n / 2 ^ j) + j from by omega]; exact h8) h7
  omega
end G294
