/- The walk of FnExactDeltaOf. -/
import Derived.Test.YtlhipceepoenfaaRows
import Derived.Test.YtlhipceepoenfaaOpenStrs
import Derived.Test.YtlhipceepoenfaaFrame
import Derived.Test.YtlhipceepoenfaaNumG
import Derived.Test.YtlhipceepoenfaaNumS2
set_option linter.unusedSimpArgs false
set_option linter.unusedVariables false
namespace Go.Proofs.Ytlhipceepoenfaa
open Go.ChangeShapes Go.WideShapes Go.ChangeAt Go.RowKit G294

set_option maxRecDepth 100000 in
set_option maxHeartbeats 4000000 in
theorem exactDeltaOf_walk (n : Int) (w : World) :
    Calls Try.prog 4 #[.int .i64 n] w fun e w' => e = .returned (.bool true) ∧ Below w.heap.size w w' := by
  have hbb0 : ((str (delR n)).toList == (str (delR n)).toList) = true := by simp
  have hbb1 : (okN n != okN n) = false := by simp
  have hB := Below.refl w.heap.size w
  go_enter Try.func4, Try.ntmps4
  go_wp2_with fail
  refine (sDeltaOf_own n _).mono ?_
  rintro e w1 ⟨rfl, k1⟩
  have s1 := k1.size
  replace hB := k1.base hB (by omega) (by omega)
  go_wp2_with fail
  refine (deltaOf_own n _).mono ?_
  rintro e w2 ⟨rfl, k2⟩
  have s2 := k2.size
  replace hB := k2.base hB (by omega) (by omega)
  go_wp2_with fail
  go_ret
  exact ⟨rfl, hB⟩

set_option maxRecDepth 100000 in
theorem walk_FnExactDeltaOf : G294.LawWalk Try.prog 4 Try.f4 Rows.fnExactDeltaOfSpec.vars false (fun _ => True) := by
  intro H enc W base args ds gs before hval hW hX
  have hlt0 : ∀ p ∈ before, p.block < W.heap.size := fun p hp => hW.lt p hp
  obtain ⟨p, q, hA, hV, rfl, hfz, hnd⟩ := hW
  rw [Try.params4] at hA hval
  obtain ⟨u0, vs0, d0, ds0, p0, q0, hargs, rfl, rfl, t0, r0⟩ := trodAll_cons hA
  obtain ⟨rfl, rfl, rfl⟩ := trodAll_nil r0
  obtain rfl : args = #[u0] := by cases args; simp_all
  obtain ⟨a0, rfl, rfl, rfl, wf0⟩ := open_int Try.underlying3 (hval 0 3 u0 rfl rfl) t0
  exact exactDeltaOf_walk a0 W

end Go.Proofs.Ytlhipceepoenfaa
