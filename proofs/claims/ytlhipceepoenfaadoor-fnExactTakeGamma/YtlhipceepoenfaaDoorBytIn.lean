/- A string's bytes in a new block, each of which may be written. -/
import Derived.Lib.ConvBytes
import Derived.Test.YtlhipceepoenfaaDoorStrMem
set_option linter.unusedSimpArgs false
set_option linter.unusedVariables false
namespace G294
open Go Go.RowKit
/-- bytes in a block, each of which may be written -/
structure BytesIn (W : World) (B : Nat) (l : List UInt8) : Prop where
  lt : B < W.heap.size
  cell : ∀ j, j < l.length → W.cell? ⟨B, j, none⟩ = some (.int .u8 ((l.getD j 0).toNat : Int))
  free : ∀ j, j < l.length → W.frozen? ⟨B, j, none⟩ = false
theorem BytesIn.store {W : World} {B q : Nat} {l l' : List UInt8} {x : UInt8} (h : BytesIn W B l) (hq : q < l.length) (e : l.set q x = l') : BytesIn (W.setCell ⟨B, q, none⟩ (.int .u8 (x.toNat : Int))) B l' := by
  subst e
  refine ⟨by simpa using h.lt, fun j hj => ?_, fun j hj => by simpa using h.free j (by simpa using hj)⟩
  rw [List.length_set] at hj
  by_cases e : j = q
  · subst e
    have := World.cell?_setCell_same W ⟨B, j, none⟩ (.int .u8 (x.toNat : Int)) (h.cell j hj)
    rw [this]; simp [List.getD, hj]
  · rw [World.cell?_setCell_other _ _ _ _ (by simp <;> exact fun h => e h.symm), h.cell j hj]
    simp [List.getD, List.getElem?_set, show ¬ q = j from fun h => e h.symm]
theorem BytesIn.drew {W : World} {B : Nat} {l : List UInt8} (h : BytesIn W B l) : BytesIn W.drew B l := ⟨h.lt, h.cell, h.free⟩
theorem BytesIn.seen {W : World} {B cp : Nat} {l : List UInt8} (h : BytesIn W B l) (h1 : l.length ≤ cp) (h2 : cp ≤ maxLen) : Seen W (.slice (some ⟨B, 0, none⟩) l.length cp) (bys l) := by
  refine ⟨some ⟨B, 0, none⟩, cp, by rw [bys_length], by rw [bys_length]; exact h1, h2, fun _ => ⟨B, 0, rfl, h.lt, fun i u hu => ?_⟩⟩
  have hi : i < l.length := by
    rcases Nat.lt_or_ge i l.length with h | h
    · exact h
    · rw [List.getElem?_eq_none (by simpa using h)] at hu; cases hu
  rw [bys_get l i hi] at hu
  cases hu
  rw [Nat.zero_add, h.cell i hi]; simp [List.getD, hi]
theorem bytes_of_str {P : Program} (w : World) (src dst e : TypeId) (l : List UInt8) (hs : P.underlying src = some .string) (hd : P.underlying dst = some (.slice e)) (he : P.underlying e = some (.int .u8)) (hl : l.length ≤ maxLen) :
    ∃ cp w1, (convert src dst (.string (str l))).run P w = .ok (.slice (some ⟨w.heap.size, 0, none⟩) l.length cp) w1 ∧ l.length ≤ cp ∧ cp ≤ maxLen ∧ BytesIn w1 w.heap.size l ∧ Below w.heap.size w w1 := by
  have h := Lib.run_convert_string_bytes (P := P) w src dst e (str l) hs hd he
  rw [str_size] at h
  refine ⟨_, _, h, grownCap_ge _ _ _ _, grownCap_le_maxLen _ _ _ _ hl, ⟨by rw [Lib.bytesWorld_size]; omega, fun j hj => ?_, fun j hj => ?_⟩, ⟨rfl, rfl, rfl, by rw [Lib.bytesWorld_size]; omega, fun k hk => Lib.bytesWorld_at_old _ _ _ _ hk⟩⟩
  · have := Lib.bytesWorld_cell w e (str l) j (by rw [str_size]; exact hj)
    rw [this]; rfl
  · simp only [World.frozen?, Lib.bytesWorld_at_new]
    have : j < (Lib.bytesCells w e (str l)).size := by
      have e1 : (Lib.bytesCells w e (str l)).size = (str l).data.size + (grownCap w (str l).size 0 e - (str l).size) := by simp [Lib.bytesCells]
      have e2 : (str l).data.size = l.length := by show l.toArray.size = _; simp
      omega
    simp; omega
end G294
