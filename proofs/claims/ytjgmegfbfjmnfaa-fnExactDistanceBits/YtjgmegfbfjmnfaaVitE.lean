/- Chapter 10: registers, outputs: the program's. -/
import Derived.Test.YtjgmegfbfjmnfaaVitP
import Derived.Test.YtjgmegfbfjmnfaaAppZ
import Derived.Test.YtjgmegfbfjmnfaaBox2
import Derived.Deep.RegionHeld3
set_option linter.unusedSimpArgs false
set_option linter.unusedVariables false
namespace G294
open Go Go.RowKit
/-- a state as a register: the last bit, the one before it -/
def regH (st : Nat) : UInt8 := UInt8.ofNat (st / 2)
def regL (st : Nat) : UInt8 := UInt8.ofNat (st % 2)
def regV (H L : UInt8) : Value := .agg #[.int .u8 (H.toNat : Int), .int .u8 (L.toNat : Int)]
theorem outs_raw : ∀ st, st < 4 → ∀ b, b < 2 → [UInt8.ofNat b ^^^ regH st ^^^ regL st, UInt8.ofNat b ^^^ regL st, UInt8.ofNat b ^^^ regH st] = raw (outN st b) := by decide +kernel
theorem reg_next : ∀ st, st < 4 → ∀ b, b < 2 → regH (nxtN st b) = UInt8.ofNat b ∧ regL (nxtN st b) = regH st := by decide +kernel
theorem reg_num : ∀ st, st < 4 → 2 * (regH st).toNat + (regL st).toNat = st ∧ (regH st).toNat ≤ 1 ∧ (regL st).toNat ≤ 1 := by decide +kernel
theorem raw_bit {c : UInt8} (h : isBitC c = true) : c - 48 = UInt8.ofNat (bv c) := by
  rcases isBitC_or h with rfl | rfl <;> decide
/-- a struct of two bytes is returned -/
def RetReg (w : World) (H L : UInt8) (e : Ending) (w' : World) : Prop := e = .returned (regV H L) ∧ TurnIn 0 0 w w'
end G294
namespace Go.Proofs.Ytjgmegfbfjmnfaa
open Go.RowKit G294

set_option maxHeartbeats 1000000 in
theorem registerOf_own (st : Nat) (w : World) (h : st < 4) : Calls Try.prog 57 #[.int .i64 st] w (RetReg w (regH st) (regL st)) := by
  have h4 : st = 0 ∨ st = 1 ∨ st = 2 ∨ st = 3 := by omega
  have hb0 := (Below.refl w.heap.size w).alloc (Nat.le_refl _) (.cells #[.int .u8 0, .int .u8 0] 68)
  clear h
  rcases h4 with rfl | rfl | rfl | rfl
  all_goals
    go_enter Try.func57, Try.ntmps57
    go_wp2_with fail
  · exact bodyPost_ret (v := regV 0 0) (by simp [results, Try.results57, go_sem, regV]) rfl ⟨rfl, turn_alloc _ _⟩
  · exact bodyPost_ret (v := regV 0 1) (by simp [results, Try.results57, go_sem, regV]) rfl ⟨rfl, turn_alloc _ _⟩
  · exact bodyPost_ret (v := regV 1 0) (by simp [results, Try.results57, go_sem, regV]) rfl ⟨rfl, turn_alloc _ _⟩
  · exact bodyPost_ret (v := regV 1 1) (by simp [results, Try.results57, go_sem, regV]) rfl ⟨rfl, turn_alloc _ _⟩

set_option maxHeartbeats 1000000 in
theorem after_own (H L b : UInt8) (w : World) : Calls Try.prog 51 #[regV H L, .int .u8 (b.toNat : Int)] w (RetReg w b H) := by
  have hb1 := ((Below.refl w.heap.size w).alloc (Nat.le_refl _) (.cells #[.int .u8 (H.toNat : Int), .int .u8 (L.toNat : Int)] 68)).alloc (by simp) (.cells #[.int .u8 0, .int .u8 0] 68)
  have HB := Lib.hid hb1
  clear hb1
  unfold regV
  go_enter Try.func51, Try.ntmps51
  go_wp2_with fail
  exact bodyPost_ret (v := regV b H) (by simp [results, Try.results51, go_sem, regV]) rfl ⟨rfl, turn_trans (turn_alloc _ _) (turn_alloc _ _) (by omega)⟩

set_option maxHeartbeats 1000000 in
theorem number_own (H L : UInt8) (w : World) (hH : H.toNat ≤ 1) (hL : L.toNat ≤ 1) : Calls Try.prog 58 #[regV H L] w (RetInt w ((2 * H.toNat + L.toNat : Nat) : Int)) := by
  have HB := Lib.hid (turn_alloc w (.cells #[.int .u8 (H.toNat : Int), .int .u8 (L.toNat : Int)] 68))
  obtain ⟨z, hz⟩ : ∃ z, z = 2 * H.toNat := ⟨_, rfl⟩
  have hzi : 2 * (H.toNat : Int) = (z : Int) := by omega
  have hz2 : z ≤ 2 := by omega
  have HZ := Lib.hid hz
  clear hz
  unfold regV
  go_enter Try.func58, Try.ntmps58
  go_wp2_with fail
  go_ret
  exact ⟨by rw [← HZ.out]; go_num, HB.out⟩

set_option maxHeartbeats 1000000 in
theorem outputs_own (H L b : UInt8) (w : World) : Calls Try.prog 50 #[regV H L, .int .u8 (b.toNat : Int)] w (RetBytes 5 w [b ^^^ H ^^^ L, b ^^^ L, b ^^^ H]) := by
  have a1 := turn_alloc w (.cells #[.int .u8 (H.toNat : Int), .int .u8 (L.toNat : Int)] 68)
  have e1 : bits BinOp.xor IntKind.u8 (b.toNat : Int) (H.toNat : Int) = ((b ^^^ H).toNat : Int) := xor_u8 _ _
  have e2 : bits BinOp.xor IntKind.u8 ((b ^^^ H).toNat : Int) (L.toNat : Int) = ((b ^^^ H ^^^ L).toNat : Int) := xor_u8 _ _
  have e3 : bits BinOp.xor IntKind.u8 (b.toNat : Int) (L.toNat : Int) = ((b ^^^ L).toNat : Int) := xor_u8 _ _
  have HB := Lib.hid (turn_trans a1 (turn_alloc _ (.cells #[.int .u8 ((b ^^^ H ^^^ L).toNat : Int), .int .u8 ((b ^^^ L).toNat : Int), .int .u8 ((b ^^^ H).toNat : Int)] 5)) (by omega))
  have hO := World.ownsRow_lit (base := w.heap.size) (e := 5) (size := 1) (w.alloc (.cells #[.int .u8 (H.toNat : Int), .int .u8 (L.toNat : Int)] 68)) #[.int .u8 ((b ^^^ H ^^^ L).toNat : Int), .int .u8 ((b ^^^ L).toNat : Int), .int .u8 ((b ^^^ H).toNat : Int)] 3 (by simp) (by unfold maxLen; omega) (by simp)
  have HO : Hid (OwnBytes 5 ((w.alloc (.cells #[.int .u8 (H.toNat : Int), .int .u8 (L.toNat : Int)] 68)).alloc (.cells #[.int .u8 ((b ^^^ H ^^^ L).toNat : Int), .int .u8 ((b ^^^ L).toNat : Int), .int .u8 ((b ^^^ H).toNat : Int)] 5)) w.heap.size ((w.alloc (.cells #[.int .u8 (H.toNat : Int), .int .u8 (L.toNat : Int)] 68)).alloc (.cells #[.int .u8 ((b ^^^ H ^^^ L).toNat : Int), .int .u8 ((b ^^^ L).toNat : Int), .int .u8 ((b ^^^ H).toNat : Int)] 5)).heap.size (.slice (some ⟨w.heap.size + 1, 0, none⟩) 3 3) [b ^^^ H ^^^ L, b ^^^ L, b ^^^ H]) := by
    refine ⟨?_, Nat.le_refl _, fun g e => ?_⟩
    · simpa [bys] using hO
    · simp only [Value.ownBlock, Option.some.injEq] at e
      simp; omega
  clear a1 hO
  generalize b ^^^ H ^^^ L = x at *
  generalize b ^^^ L = y at *
  generalize b ^^^ H = z at *
  unfold regV
  go_enter Try.func50, Try.ntmps50
  go_wp2_with fail
  go_ret
  exact ⟨_, rfl, HO.out, HB.out⟩

end Go.Proofs.Ytjgmegfbfjmnfaa
