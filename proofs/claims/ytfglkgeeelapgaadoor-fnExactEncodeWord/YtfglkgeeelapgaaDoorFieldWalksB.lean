/- Contracts of chapter 1: LogOf, and the model's functions. -/
import Derived.Test.YtfglkgeeelapgaaDoorFieldWalks
set_option linter.unusedSimpArgs false
set_option linter.unusedVariables false
namespace Go.Proofs.YtfglkgeeelapgaaDoor
open Go.RowKit

/-- what LogOf returns -/
def logV (a : Nat) : Value := if a = 0 then .tuple #[.int .i64 0, .bool false] else .tuple #[.int .i64 (G294.gl a : Nat), .bool true]

theorem xor_i64 {a b : Nat} (ha : a < 9223372036854775808) (hb : b < 9223372036854775808) : bits BinOp.xor IntKind.i64 (a : Int) (b : Int) = ((a ^^^ b : Nat) : Int) := by
  have ho : ∀ a : Nat, a < 9223372036854775808 → (BitVec.ofInt 64 (a : Int)).toNat = a := fun a ha => by
    rw [BitVec.ofInt_natCast, BitVec.toNat_ofNat]; exact Nat.mod_eq_of_lt (by omega)
  have hx : a ^^^ b < 2 ^ 63 := Nat.xor_lt_two_pow (by omega) (by omega)
  show IntKind.i64.wrap ((BitVec.ofInt 64 (a : Int) ^^^ BitVec.ofInt 64 (b : Int)).toNat : Int) = _
  rw [BitVec.toNat_xor, ho a ha, ho b hb, IntKind.wrap_i64]
  omega

set_option maxHeartbeats 1000000 in
theorem l1Times_any (a b : Nat) (ha : a < 256) (hb : b < 256) (w : World) :
    Calls Tryd.prog 105 #[.int .u8 a, .int .u8 b] w fun e w' => e = .returned (.int .u8 (G294.gm a b : Nat)) ∧ w = w' := by
  go_enter Tryd.func105, Tryd.ntmps105
  go_wp2
  go_loop [5, 6, 7] (fun o x y => ∃ k q p m : Nat, k ≤ 8 ∧ q < 256 ∧ p < 256 ∧ m < 256 ∧ o = .int .i64 q ∧ x = .int .i64 p ∧ y = .int .i64 m ∧ Hid (q = G294.st a b k) ∧ Hid (p = G294.xts k a) ∧ Hid (m = b / 2 ^ k)) (fun _ _ y => (intOf y).toNat)
  case atStart => exact ⟨0, 0, a, b, by omega, by omega, ha, hb, rfl, by simp, by simp, rfl, rfl, by show b = b / 2 ^ 0; omega⟩
  case round =>
    obtain ⟨k, q, p, m, hk, hq, hp, hm, rfl, rfl, rfl, HQ, HP, HM⟩ := hrel
    by_cases hlt : 0 < m
    · have hk8 : k < 8 := G294.k_lt_8 hb (by rw [← HM.out]; exact hlt)
      have HX := Lib.hid (xor_i64 (a := q) (b := p) (by omega) (by omega))
      have HXs := Lib.hid (G294.xs_xt p hp)
      have HX2 := Lib.hid (xor_i64 (a := p * 2) (b := 283) (by omega) (by omega))
      have hqp : q ^^^ p < 256 := G294.xor_lt hq hp
      have HM2 : Hid (m / 2 = b / 2 ^ (k + 1)) := by show m / 2 = _; rw [HM.out, G294.div_step]
      have HB : Hid (G294.bit b k = m % 2) := by show G294.bit b k = _; rw [HM.out]; rfl
      by_cases hodd : m % 2 = 1
      · have hbit : (bits BinOp.and IntKind.i64 (m : Int) 1 == 1) = true := by rw [bit_i64 (by omega), hodd]; rfl
        have HQ2 : Hid (q ^^^ p = G294.st a b (k + 1)) := by
          show q ^^^ p = _
          rw [G294.st, if_pos (by rw [HB.out]; exact hodd), ← HQ.out, ← HP.out]
        clear hodd
        by_cases hov : 255 < p * 2
        · have HPn : Hid (bits BinOp.xor IntKind.i64 ((p : Int) * 2) 283 = ((G294.xt p : Nat) : Int)) := by
            show bits BinOp.xor IntKind.i64 ((p : Int) * 2) 283 = _
            have h := HX2.out
            rw [← HXs.out, G294.xs, if_pos hov, ← h]; rfl
          go_wp2_with fail
          go_round
          case rel => exact ⟨k + 1, q ^^^ p, G294.xt p, m / 2, by omega, hqp, G294.xt_lt p, by omega, by rw [HX.out], by rw [HPn.out], by go_num, HQ2, by show G294.xt p = _; rw [HP.out]; rfl, HM2⟩
          case measure => simp [intOf]; omega
        · have HPn : Hid ((p : Int) * 2 = ((G294.xt p : Nat) : Int)) := by
            show (p : Int) * 2 = _
            rw [← HXs.out, G294.xs, if_neg hov]; simp
          go_wp2_with fail
          go_round
          case rel => exact ⟨k + 1, q ^^^ p, G294.xt p, m / 2, by omega, hqp, G294.xt_lt p, by omega, by rw [HX.out], by rw [HPn.out], by go_num, HQ2, by show G294.xt p = _; rw [HP.out]; rfl, HM2⟩
          case measure => simp [intOf]; omega
      · have hbit : (bits BinOp.and IntKind.i64 (m : Int) 1 == 1) = false := by
          have : m % 2 = 0 := by omega
          rw [bit_i64 (by omega), this]; rfl
        have HQ2 : Hid (q = G294.st a b (k + 1)) := by
          show q = _
          rw [G294.st, if_neg (by rw [HB.out]; exact hodd), ← HQ.out]
        clear hodd
        by_cases hov : 255 < p * 2
        · have HPn : Hid (bits BinOp.xor IntKind.i64 ((p : Int) * 2) 283 = ((G294.xt p : Nat) : Int)) := by
            show bits BinOp.xor IntKind.i64 ((p : Int) * 2) 283 = _
            have h := HX2.out
            rw [← HXs.out, G294.xs, if_pos hov, ← h]; rfl
          go_wp2_with fail
          go_round
          case rel => exact ⟨k + 1, q, G294.xt p, m / 2, by omega, hq, G294.xt_lt p, by omega, rfl, by rw [HPn.out], by go_num, HQ2, by show G294.xt p = _; rw [HP.out]; rfl, HM2⟩
          case measure => simp [intOf]; omega
        · have HPn : Hid ((p : Int) * 2 = ((G294.xt p : Nat) : Int)) := by
            show (p : Int) * 2 = _
            rw [← HXs.out, G294.xs, if_neg hov]; simp
          go_wp2_with fail
          go_round
          case rel => exact ⟨k + 1, q, G294.xt p, m / 2, by omega, hq, G294.xt_lt p, by omega, rfl, by rw [HPn.out], by go_num, HQ2, by show G294.xt p = _; rw [HP.out]; rfl, HM2⟩
          case measure => simp [intOf]; omega
    · obtain rfl : m = 0 := by omega
      go_wp2_with fail
      go_ret
      exact ⟨ret_int (by rw [HQ.out, G294.st_end a b k hk HM.out.symm]), rfl⟩

set_option maxHeartbeats 400000 in
theorem l1Power_any (a n : Nat) (ha : a < 256) (hn : n ≤ 10000) (w : World) :
    Calls Tryd.prog 52 #[.int .u8 a, .int .i64 n] w fun e w' => e = .returned (.int .u8 (G294.gp a n : Nat)) ∧ w = w' := by
  go_enter Tryd.func52, Tryd.ntmps52
  go_wp2
  go_loop [1, 5] (fun y p => ∃ m q : Nat, m ≤ n ∧ q < 256 ∧ y = .int .i64 m ∧ p = .int .u8 q ∧ Hid (q = G294.gp a (n - m))) (fun y _ => (intOf y).toNat)
  case atStart => exact ⟨n, 1, by omega, by omega, rfl, rfl, by show 1 = _; rw [Nat.sub_self]; rfl⟩
  case round =>
    obtain ⟨m, q, hm, hq, rfl, rfl, HQ⟩ := hrel
    by_cases hlt : 0 < m
    · have HQ2 : Hid (G294.gm q a = G294.gp a (n - (m - 1))) := by
        show G294.gm q a = _
        rw [HQ.out, show n - (m - 1) = (n - m) + 1 by omega]; rfl
      go_wp2_with fail
      refine (l1Times_any q a hq ha _).mono ?_
      rintro e w' ⟨rfl, rfl⟩
      go_wp2_with fail
      go_round
      case rel => exact ⟨m - 1, G294.gm q a, by omega, G294.gm_lt hq a, by go_num, rfl, HQ2⟩
      case measure => simp [intOf]; omega
    · obtain rfl : m = 0 := by omega
      go_wp2_with fail
      go_ret
      exact ⟨ret_int (by rw [HQ.out]; rfl), rfl⟩

set_option maxHeartbeats 400000 in
theorem l1Inverse_any (a : Nat) (ha : a < 256) (w : World) :
    Calls Tryd.prog 136 #[.int .u8 a] w fun e w' => e = .returned (.int .u8 (G294.gi a : Nat)) ∧ w = w' := by
  by_cases h0 : a = 0
  · subst h0
    have HZ := Lib.hid G294.gi_zero
    go_enter Tryd.func136, Tryd.ntmps136
    go_wp2_with fail
    go_ret
    exact ⟨ret_int (by rw [HZ.out]; rfl), rfl⟩
  · have hb : ((a : Int) == 0) = false := by simp; omega
    clear h0
    go_enter Tryd.func136, Tryd.ntmps136
    go_wp2_with fail
    refine (l1Power_any a 254 ha (by omega) _).mono ?_
    rintro e w' ⟨rfl, rfl⟩
    go_wp2_with fail
    go_ret
    exact ⟨rfl, rfl⟩

/-- l1In -/
def inB (n lo hi : Int) : Bool := decide (lo ≤ n ∧ n ≤ hi)
set_option maxHeartbeats 400000 in
theorem l1In_any (n lo hi : Int) (w : World) :
    Calls Tryd.prog 69 #[.int .i64 n, .int .i64 lo, .int .i64 hi] w fun e w' => e = .returned (.bool (inB n lo hi)) ∧ w = w' := by
  by_cases h1 : lo ≤ n
  · have hd : decide (lo ≤ n) = true := by simpa using h1
    by_cases h2 : n ≤ hi
    · have HV : Hid (inB n lo hi = true) := by show inB n lo hi = true; simp [inB, h1, h2]
      go_enter Tryd.func69, Tryd.ntmps69
      go_wp2_with fail
      go_ret
      exact ⟨by rw [HV.out]; simp [h2], rfl⟩
    · have HV : Hid (inB n lo hi = false) := by show inB n lo hi = false; simp [inB, h2]
      go_enter Tryd.func69, Tryd.ntmps69
      go_wp2_with fail
      go_ret
      exact ⟨by rw [HV.out]; simp [h2], rfl⟩
  · have hd : decide (lo ≤ n) = false := by simpa using h1
    have HV : Hid (inB n lo hi = false) := by show inB n lo hi = false; simp [inB, h1]
    go_enter Tryd.func69, Tryd.ntmps69
    go_wp2_with fail
    go_ret
    exact ⟨by rw [HV.out]; rfl, rfl⟩