/- The contracts of the products, on bytes. -/
import Derived.Test.YtfglkgeeelapgaaDoorFieldWalksB
import Derived.Test.YtfglkgeeelapgaaDoorVecMath
set_option linter.unusedSimpArgs false
set_option linter.unusedVariables false
namespace Go.Proofs.YtfglkgeeelapgaaDoor
open Go.RowKit G294

theorem times_u8 (a b : UInt8) (w : World) (ht : Tab w) :
    Calls Tryd.prog 121 #[.int .u8 (a.toNat : Int), .int .u8 (b.toNat : Int)] w fun e w' => e = .returned (.int .u8 ((gmul a b).toNat : Int)) ∧ w = w' := by
  rw [gmul_toNat]; exact times_any _ _ a.toNat_lt b.toNat_lt w ht

theorem l1Times_u8 (a b : UInt8) (w : World) :
    Calls Tryd.prog 105 #[.int .u8 (a.toNat : Int), .int .u8 (b.toNat : Int)] w fun e w' => e = .returned (.int .u8 ((gmul a b).toNat : Int)) ∧ w = w' := by
  rw [gmul_toNat]; exact l1Times_any _ _ a.toNat_lt b.toNat_lt w

end Go.Proofs.YtfglkgeeelapgaaDoor
