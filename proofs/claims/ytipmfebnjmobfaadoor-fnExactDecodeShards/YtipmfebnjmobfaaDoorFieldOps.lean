/- The methods of field bytes. -/
import Derived.Test.YtipmfebnjmobfaaDoorFieldBytes
import Derived.Test.YtipmfebnjmobfaaDoorNewGrid
set_option linter.unusedSimpArgs false
set_option linter.unusedVariables false
namespace Go.Proofs.YtipmfebnjmobfaaDoor
open Go.RowKit G294

set_option maxHeartbeats 400000 in
theorem fbTimes_any (a b : UInt8) (w : World) (ht : Tab w) :
    Calls Tryd.prog 213 #[.int .u8 (a.toNat : Int), .int .u8 (b.toNat : Int)] w fun e w' => e = .returned (.int .u8 ((gmul a b).toNat : Int)) ∧ w = w' := by
  go_enter Tryd.func213, Tryd.ntmps213
  go_wp2_with fail
  refine (times_u8 a b _ ht).mono ?_
  rintro e w' ⟨rfl, rfl⟩
  go_wp2_with fail
  go_ret
  exact ⟨rfl, rfl⟩

set_option maxHeartbeats 400000 in
theorem fbPlus_any (a b : UInt8) (w : World) :
    Calls Tryd.prog 212 #[.int .u8 (a.toNat : Int), .int .u8 (b.toNat : Int)] w fun e w' => e = .returned (.int .u8 ((a ^^^ b).toNat : Int)) ∧ w = w' := by
  have HX := Lib.hid (xor_u8 a b)
  go_enter Tryd.func212, Tryd.ntmps212
  go_wp2_with fail
  go_ret
  exact ⟨by rw [← HX.out]; rfl, rfl⟩

set_option maxHeartbeats 400000 in
theorem fbInverse_any (a : UInt8) (w : World) (ht : Tab w) :
    Calls Tryd.prog 211 #[.int .u8 (a.toNat : Int)] w fun e w' => e = .returned (.int .u8 ((ginv a).toNat : Int)) ∧ w = w' := by
  have HI := Lib.hid (ginv_toNat a)
  go_enter Tryd.func211, Tryd.ntmps211
  go_wp2_with fail
  refine (inverse_any a.toNat a.toNat_lt _ ht).mono ?_
  rintro e w' ⟨rfl, rfl⟩
  go_wp2_with fail
  go_ret
  exact ⟨by rw [HI.out]; rfl, rfl⟩

theorem methTimes (x : Int) (w : World) : (method 328 160 (.int .u8 x) "loop.example/g00294/impl.times").run Tryd.prog w = .ok (213, .int .u8 x) w := by kernel_rfl

theorem methPlus (x : Int) (w : World) : (method 328 160 (.int .u8 x) "loop.example/g00294/impl.plus").run Tryd.prog w = .ok (212, .int .u8 x) w := by kernel_rfl

theorem methInverse (x : Int) (w : World) : (method 328 160 (.int .u8 x) "loop.example/g00294/impl.inverse").run Tryd.prog w = .ok (211, .int .u8 x) w := by kernel_rfl