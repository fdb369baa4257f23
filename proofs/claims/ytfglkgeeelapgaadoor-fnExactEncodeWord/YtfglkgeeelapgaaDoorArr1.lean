/- Arrays of 20 bytes: the program's hidden. -/
import Derived.Test.YtfglkgeeelapgaaDoorPoly2
import Derived.Test.YtfglkgeeelapgaaDoorArrMem
import Derived.Test.YtfglkgeeelapgaaDoorMatI
set_option linter.unusedSimpArgs false
set_option linter.unusedVariables false
namespace G294
open Go
theorem hid_splice (s : UInt8) (l : List UInt8) (h : l.length ≤ 19) : splice (bys (pad20 [s])) 1 (bys l) = bys (pad20 (s :: l)) := by
  have e1 : bys (pad20 [s]) = .int .u8 (s.toNat : Int) :: List.replicate 19 (.int .u8 0) := rfl
  have e2 : bys (pad20 (s :: l)) = .int .u8 (s.toNat : Int) :: (bys l ++ List.replicate (19 - l.length) (.int .u8 0)) := by
    simp [pad20, bys, show 20 - (l.length + 1) = 19 - l.length by omega]
  rw [e1, e2]
  unfold splice
  rw [bys_length, Nat.add_comm 1, List.drop_succ_cons, List.drop_replicate]
  rfl
end G294
namespace Go.Proofs.YtfglkgeeelapgaaDoor
open Go.RowKit G294

theorem infoCoef : (Tryd.prog.info? 100).map (fun i => (i.zero, i.size)) = some (some (aggL (List.replicate 20 0)), 20) := by kernel_rfl

theorem zeroCoef : (Tryd.prog.info? 100).map (·.zero) = some (some (aggL (List.replicate 20 0))) := by
  have := infoCoef
  cases h : Tryd.prog.info? 100 <;> simp_all

theorem sizeCoef : (Tryd.prog.info? 100).map (·.size) = some 20 := by
  have := infoCoef
  cases h : Tryd.prog.info? 100 <;> simp_all

theorem sizeByteA : (Tryd.prog.info? 5).map (·.size) = some 1 := by
  have := infoByte
  cases h : Tryd.prog.info? 5 <;> simp_all

end Go.Proofs.YtfglkgeeelapgaaDoor
