/- The walk of FnExactOutputsAt. -/
import Derived.Test.YtjgmegfbfjmnfaaRows
import Derived.Test.YtjgmegfbfjmnfaaOpenStrs
import Derived.Test.YtjgmegfbfjmnfaaVitE3
import Derived.Test.YtjgmegfbfjmnfaaFrame
set_option linter.unusedSimpArgs false
set_option linter.unusedVariables false
namespace Go.Proofs.Ytjgmegfbfjmnfaa
open Go.ChangeShapes Go.WideShapes Go.ChangeAt Go.RowKit G294

set_option maxRecDepth 100000 in
set_option maxHeartbeats 4000000 in
theorem exactOutputsAt_walk (q : Int) (b : Int) (w : World) :
    Calls Try.prog 6 #[.int .i64 q, .int .i64 b] w fun e w' => e = .returned (.bool true) ∧ Below w.heap.size w w' := by
  have hbb0 : ((str (outS q b)).toList == (str (outS q b)).toList) = true := by simp
  have hbb1 : ((outX q b : Int) != (outX q b : Int)) = false := by simp
  have hbb2 : (outOk q b != outOk q b) = false := by simp
  have hB := Below.refl w.heap.size w
  go_enter Try.func6, Try.ntmps6
  go_wp2_with fail
  refine (sOutputsAt_own q b _).mono ?_
  rintro e w1 ⟨rfl, k1⟩
  have s1 := k1.size
  replace hB := k1.base hB (by omega) (by omega)
  go_wp2_with fail
  refine (outputsAt_own q b _).mono ?_
  rintro e w2 ⟨rfl, k2⟩
  have s2 := k2.size
  replace hB := k2.base hB (by omega) (by omega)
  go_wp2_with fail
  go_ret
  exact ⟨rfl, hB⟩

set_option maxRecDepth 100000 in
theorem walk_FnExactOutputsAt : G294.LawWalk Try.prog 6 Try.f6 Rows.fnExactOutputsAtSpec.vars false (fun _ => True) := by
  intro H enc W base args ds gs before hval hW hX
  have hlt0 : ∀ p ∈ before, p.block < W.heap.size := fun p hp => hW.lt p hp
  obtain ⟨p, q, hA, hV, rfl, hfz, hnd⟩ := hW
  rw [Try.params6] at hA hval
  obtain ⟨u0, vs0, d0, ds0, p0, q0, hargs, rfl, rfl, t0, r0⟩ := trodAll_cons hA
  obtain ⟨u1, vs1, d1, ds1, p1, q1, rfl, rfl, rfl, t1, r1⟩ := trodAll_cons r0
  obtain ⟨rfl, rfl, rfl⟩ := trodAll_nil r1
  obtain rfl : args = #[u0, u1] := by cases args; simp_all
  obtain ⟨a0, rfl, rfl, rfl, wf0⟩ := open_int Try.underlying3 (hval 0 3 u0 rfl rfl) t0
  obtain ⟨a1, rfl, rfl, rfl, wf1⟩ := open_int Try.underlying3 (hval 1 3 u1 rfl rfl) t1
  exact exactOutputsAt_walk a0 a1 W

end Go.Proofs.Ytjgmegfbfjmnfaa
