/- Chapter 13: valid numbers: the model's. -/
import Derived.Test.YtlhipceepoenfaaDoorNumB
import Derived.Test.YtlhipceepoenfaaDoorFieldWalksB
set_option linter.unusedSimpArgs false
set_option linter.unusedVariables false
namespace Go.Proofs.YtlhipceepoenfaaDoor
open Go.RowKit G294

set_option maxRecDepth 100000 in
set_option maxHeartbeats 1000000 in
theorem l13Number_any (n : Int) (w : World) : Calls Tryd.prog 26 #[.int .i64 n] w (fun e w' => e = .returned (.bool (okN n)) ∧ w = w') := by
  have HI := Lib.hid (l1In_any n 1 1000000 w)
  have HE : Hid (inB n 1 1000000 = okN n) := Lib.hid (by unfold inB okN; simp)
  go_enter Tryd.func26, Tryd.ntmps26
  go_wp2_with fail
  refine HI.out.mono ?_
  rintro e w1 ⟨rfl, rfl⟩
  rw [HE.out]
  go_wp2_with fail
  go_ret
  exact ⟨rfl, rfl⟩

end Go.Proofs.YtlhipceepoenfaaDoor
