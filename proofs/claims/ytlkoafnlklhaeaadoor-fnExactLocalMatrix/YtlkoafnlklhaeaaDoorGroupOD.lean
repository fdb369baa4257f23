/- GroupOf: the model's and the program's. -/
import Derived.Test.YtlkoafnlklhaeaaDoorGroupOf
set_option linter.unusedSimpArgs false
set_option linter.unusedVariables false
namespace Go.Proofs.YtlkoafnlklhaeaaDoor
open Go.RowKit Go.Maps G294

theorem l4Group_any (g e q : Nat) (a : Int) (w : World) (hg : 1 ≤ g ∧ g ≤ 4) (he : 1 ≤ e ∧ e ≤ 4) : Calls Tryd.prog 171 #[.agg #[.int .i64 g, .int .i64 e, .int .i64 q], .int .i64 a] w (RetInt w (grpN (g * e) e g a)) := by
  have hbd := mul_bd (a := (g : Int)) (b := (e : Int)) (by omega) (by omega)
  rw [← Int.natCast_mul] at hbd
  have HGE : Hid ((g : Int) * (e : Int) = ((g * e : Nat) : Int)) := (Int.natCast_mul g e).symm
  by_cases h1 : 0 ≤ a ∧ a ≤ ((g * e : Nat) : Int) - 1
  · exact l4Group_A g e q (g * e) a w hg he (by omega) HGE h1
  · by_cases h2 : ((g * e : Nat) : Int) ≤ a ∧ a ≤ ((g * e : Nat) : Int) + g - 1
    · exact l4Group_B g e q (g * e) a w hg he (by omega) HGE h1 h2
    · exact l4Group_C g e q (g * e) a w hg he (by omega) HGE h1 h2

set_option maxRecDepth 100000 in
set_option maxHeartbeats 1000000 in
theorem groupOf_no (g e q a : Int) (w : World) (HN : Hid (locOk g e q = false)) : Calls Tryd.prog 172 #[locV g e q, .int .i64 a] w (RetIntOkB w 0 false) := by
  have a1 := turn_alloc w (.cells #[.int .i64 g, .int .i64 e, .int .i64 q] 73)
  have z1 := World.size_alloc w (.cells #[.int .i64 g, .int .i64 e, .int .i64 q] 73)
  go_enter Tryd.func172, Tryd.ntmps172
  go_wp2_with fail
  refine (goodLocal_any g e q _).mono ?_
  rintro e' w2 ⟨rfl, k2⟩
  rw [HN.out]
  go_wp2_with fail
  go_ret2
  exact ⟨rfl, turn_trans a1 k2 (by omega)⟩

end Go.Proofs.YtlkoafnlklhaeaaDoor
