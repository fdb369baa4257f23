/- Contracts of chapter 1's functions, the program's and the model's: what each call returns; the world is left as it was. -/
import Derived.Test.YtlhipceepoenfaaDoorProg
import Derived.WalkKit
import Derived.WalkSpells
import Derived.WalkLawsBesides
import Derived.Lib.Hide
import Derived.Test.YtlhipceepoenfaaDoorFieldMath
set_option linter.unusedSimpArgs false
set_option linter.unusedVariables false
namespace Go.Proofs.YtlhipceepoenfaaDoor
open Go.RowKit

theorem and1_u8 (b : Nat) (hb : b < 256) (k : Nat) : bits BinOp.and IntKind.u8 ((b : Int) / 2 ^ k) 1 = ((G294.bit b k : Nat) : Int) := by
  have h1 : ((b : Int) / 2 ^ k) = ((b / 2 ^ k : Nat) : Int) := by simp
  have h2 : b / 2 ^ k < 256 := Nat.lt_of_le_of_lt (Nat.div_le_self _ _) hb
  rw [h1]
  have := u8_and_nat (b / 2 ^ k) 1 h2 (by omega)
  rw [show ((1 : Nat) : Int) = 1 from rfl] at this
  rw [this]; simp [G294.bit, Nat.and_one_is_mod]
theorem and1_u16 (b : Nat) (hb : b < 65536) (k : Nat) : bits BinOp.and IntKind.u16 ((b : Int) / 2 ^ k) 1 = ((G294.bit b k : Nat) : Int) := by
  have h1 : ((b : Int) / 2 ^ k) = ((b / 2 ^ k : Nat) : Int) := by simp
  have h2 : b / 2 ^ k < 65536 := Nat.lt_of_le_of_lt (Nat.div_le_self _ _) hb
  rw [h1]
  have := u16_and_nat (b / 2 ^ k) 1 h2 (by omega)
  rw [show ((1 : Nat) : Int) = 1 from rfl] at this
  rw [this]; simp [G294.bit, Nat.and_one_is_mod]
theorem test_bit {b k : Nat} {x : Bool} (e : (((G294.bit b k : Nat) : Int) == 1) = x) : (x = true ∧ G294.bit b k = 1) ∨ (x = false ∧ ¬ G294.bit b k = 1) := by
  cases x
  · right; exact ⟨rfl, by intro h; simp [h] at e⟩
  · left; refine ⟨rfl, ?_⟩; have := beq_iff_eq.1 e; omega

theorem pp_yes {a b k : Nat} (ha : a < 256) (hb : b < 256) (hk : k < 8) (h : (bits BinOp.and IntKind.u8 ((b : Int) / 2 ^ k) 1 == 1) = true) :
    bits BinOp.xor IntKind.u16 ((G294.pp a b k : Nat) : Int) (IntKind.u16.wrap ((a : Int) * 2 ^ k)) = ((G294.pp a b (k + 1) : Nat) : Int) := by
  rw [and1_u8 b hb] at h
  have hbit : G294.bit b k = 1 := by have := beq_iff_eq.1 h; omega
  have h1 : ((a : Int) * 2 ^ k) = ((a * 2 ^ k : Nat) : Int) := by simp
  have h2 := G294.shl_lt ha hk
  rw [h1, IntKind.wrap_u16]
  have h3 : ((a * 2 ^ k : Nat) : Int) % 65536 = ((a * 2 ^ k : Nat) : Int) := by omega
  rw [h3, u16_xor_nat _ _ (G294.pp_lt ha b k (by omega)) h2]
  simp [G294.pp, hbit]
theorem pp_no {a b k : Nat} (hb : b < 256) (h : (bits BinOp.and IntKind.u8 ((b : Int) / 2 ^ k) 1 == 1) = false) :
    ((G294.pp a b k : Nat) : Int) = ((G294.pp a b (k + 1) : Nat) : Int) := by
  rw [and1_u8 b hb] at h
  have hbit : ¬ G294.bit b k = 1 := by intro e; simp [e] at h
  simp [G294.pp, hbit]

theorem rd_yes {p k : Nat} (hp : p < 65536) (hk : k < 7) (h : (bits BinOp.and IntKind.u16 ((p : Int) / 2 ^ (8 + k)) 1 == 1) = true) :
    bits BinOp.xor IntKind.u8 ((G294.rd p k : Nat) : Int) ((G294.tabN k : Nat) : Int) = ((G294.rd p (k + 1) : Nat) : Int) := by
  rw [and1_u16 p hp] at h
  have hbit : G294.bit p (8 + k) = 1 := by have := beq_iff_eq.1 h; omega
  rw [u8_xor_nat _ _ (G294.rd_lt p k) (G294.tabN_lt k)]
  simp [G294.rd, hbit]
theorem rd_no {p k : Nat} (hp : p < 65536) (h : (bits BinOp.and IntKind.u16 ((p : Int) / 2 ^ (8 + k)) 1 == 1) = false) :
    ((G294.rd p k : Nat) : Int) = ((G294.rd p (k + 1) : Nat) : Int) := by
  rw [and1_u16 p hp] at h
  have hbit : ¬ G294.bit p (8 + k) = 1 := by intro e; simp [e] at h
  simp [G294.rd, hbit]

theorem bit_i64 {n : Nat} (hn : n < 9223372036854775808) : bits BinOp.and IntKind.i64 (n : Int) 1 = ((n % 2 : Nat) : Int) := by
  have ho : ∀ a : Nat, a < 9223372036854775808 → (BitVec.ofInt 64 (a : Int)).toNat = a := fun a ha => by
    rw [BitVec.ofInt_natCast, BitVec.toNat_ofNat]; exact Nat.mod_eq_of_lt (by omega)
  show IntKind.i64.wrap ((BitVec.ofInt 64 (n : Int) &&& BitVec.ofInt 64 ((1 : Nat) : Int)).toNat : Int) = _
  rw [BitVec.toNat_and, ho n hn, ho 1 (by omega), IntKind.wrap_i64, Nat.and_one_is_mod]
  omega