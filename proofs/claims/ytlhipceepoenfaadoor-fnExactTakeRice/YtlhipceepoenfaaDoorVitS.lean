/- Chapter 10: bits, outputs, encoding, distances: the model's. -/
import Derived.Test.YtlhipceepoenfaaDoorVitMath
import Derived.Test.YtlhipceepoenfaaDoorStrWalks
import Derived.Test.YtlhipceepoenfaaDoorFieldWalksB
import Derived.Test.YtlhipceepoenfaaDoorComb
import Derived.Test.YtlhipceepoenfaaDoorPartMath
import Derived.Test.YtlhipceepoenfaaDoorIntsWalks
import Derived.Deep.QuietTactic
import Derived.BigQuiet
set_option linter.unusedSimpArgs false
set_option linter.unusedVariables false
namespace G294
open Go Go.RowKit
theorem getD_len {α : Type} {l : List α} {k : Nat} (h : k < l.length) (d : α) : l.getD k d = l[k] := by simp [List.getD, h]
theorem take_snocD (l : List UInt8) {k : Nat} (h : k < l.length) : l.take (k + 1) = l.take k ++ [l.getD k 0] := by
  rw [List.take_add_one, List.getElem?_eq_getElem h, getD_len h]; rfl
theorem isBit_b0 {c : UInt8} (h : isBitC c = true) : (((c.toNat : Int) != 48) = false ∧ ((c.toNat : Int) == 48) = true ∧ c = 48) ∨ (((c.toNat : Int) != 48) = true ∧ ((c.toNat : Int) == 48) = false ∧ ((c.toNat : Int) != 49) = false ∧ ((c.toNat : Int) == 49) = true ∧ c = 49) := by
  rcases isBitC_or h with rfl | rfl
  · exact .inl ⟨rfl, rfl, rfl⟩
  · exact .inr ⟨rfl, rfl, rfl, rfl, rfl⟩
theorem isBit_no {c : UInt8} (h : isBitC c = false) : ((c.toNat : Int) != 48) = true ∧ ((c.toNat : Int) != 49) = true ∧ ((c.toNat : Int) == 48) = false ∧ ((c.toNat : Int) == 49) = false := by
  simp only [isBitC, Bool.or_eq_false_iff, beq_eq_false_iff_ne] at h
  have h1 : c.toNat ≠ 48 := fun e => h.1 (UInt8.toNat_inj.1 e)
  have h2 : c.toNat ≠ 49 := fun e => h.2 (UInt8.toNat_inj.1 e)
  simp only [bne_iff_ne, beq_eq_false_iff_ne]
  omega
theorem bitsOk_at {s : List UInt8} {m k : Nat} (h : bitsOk s m = true) (hk : k < s.length) : isBitC (s.getD k 0) = true := by
  rw [getD_len hk]
  exact List.all_eq_true.1 (bitsOk_b h).2 _ (List.getElem_mem hk)
theorem bitsOk_no {s : List UInt8} {m k : Nat} (hk : k < s.length) (h : isBitC (s.getD k 0) = false) : bitsOk s m = false := by
  rw [Bool.eq_false_iff]; intro e
  rw [bitsOk_at e hk] at h; cases h
theorem bv_sub (c : UInt8) (h : isBitC c = true) : ((c.toNat : Int) - 48) % 256 = ((bv c : Nat) : Int) := by
  rcases isBitC_or h with rfl | rfl <;> rfl
end G294
namespace Go.Proofs.YtlhipceepoenfaaDoor
open Go.RowKit G294

set_option maxRecDepth 100000 in
set_option maxHeartbeats 1000000 in
theorem l10Bit_own (n : Nat) (w : World) (hn : n < 2) : Calls Tryd.prog 55 #[.int .i64 n] w (RetStr w [chB n]) := by
  have hdi : (48 + (n : Int)) = ((chB n).toNat : Int) := by
    match n, hn with
    | 0, _ => rfl
    | 1, _ => rfl
  have hseen : Seen (w.alloc (.cells #[.int .u8 (48 + (n : Int))] 5)) (.slice (some ⟨w.heap.size, 0, none⟩) 1 1) (bys [chB n]) := by
    refine ⟨_, 1, rfl, by simp, by unfold maxLen; omega, fun _ => ⟨w.heap.size, 0, rfl, by simp, fun i u hu => ?_⟩⟩
    match i, hu with
    | 0, hu =>
      simp only [bys, List.map_cons, List.getElem?_cons_zero, Option.some.injEq] at hu
      rw [← hu, hdi]; simp
  have hconv := run_string_seen (P := Tryd.prog) 61 5 9 Tryd.underlying61 Tryd.underlying5 Tryd.underlying9 hseen
  have HB := Lib.hid (turn_alloc w (.cells #[.int .u8 (48 + (n : Int))] 5))
  clear hdi hseen
  go_enter Tryd.func55, Tryd.ntmps55
  go_wp2_with fail
  go_ret
  exact ⟨rfl, HB.out⟩

theorem l10Bit_0 (w : World) : Calls Tryd.prog 55 #[.int .i64 0] w (RetStr w [48]) := l10Bit_own 0 w (by omega)
theorem l10Bit_1 (w : World) : Calls Tryd.prog 55 #[.int .i64 1] w (RetStr w [49]) := l10Bit_own 1 w (by omega)

def RetOut (w : World) (s : List UInt8) (n : Nat) (e : Ending) (w' : World) : Prop := e = .returned (.tuple #[.string (str s), .int .i64 (n : Int)]) ∧ TurnIn 0 0 w w'

end Go.Proofs.YtlhipceepoenfaaDoor
