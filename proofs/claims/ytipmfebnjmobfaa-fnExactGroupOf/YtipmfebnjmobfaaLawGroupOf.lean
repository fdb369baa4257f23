/- The walk of FnExactGroupOf. -/
import Derived.Test.YtipmfebnjmobfaaRows
import Derived.Test.YtipmfebnjmobfaaOpenArgs
import Derived.Test.YtipmfebnjmobfaaOpenLoc
import Derived.Test.YtipmfebnjmobfaaGroupOE
import Derived.Test.YtipmfebnjmobfaaFrame
set_option linter.unusedSimpArgs false
set_option linter.unusedVariables false
namespace Go.Proofs.Ytipmfebnjmobfaa
open Go.ChangeShapes Go.WideShapes Go.ChangeAt Go.RowKit G294

set_option maxRecDepth 100000 in
set_option maxHeartbeats 4000000 in
theorem exactGroupOf_walk (g e q : Int) (a : Int) (w : World) :
    Calls Try.prog 4 #[.agg #[.int .i64 g, .int .i64 e, .int .i64 q], .int .i64 a] w fun e w' => e = .returned (.bool true) ∧ Below w.heap.size w w' := by
  have hbb0 : ((grpR g e q a : Int) != (grpR g e q a : Int)) = false := by simp
  have hbb1 : (grpOk g e q a != grpOk g e q a) = false := by simp
  have hB := Below.refl w.heap.size w
  have a1 := turn_alloc w (.cells #[.int .i64 g, .int .i64 e, .int .i64 q] 23)
  have z1a := World.size_alloc w (.cells #[.int .i64 g, .int .i64 e, .int .i64 q] 23)
  replace hB := a1.base hB (by omega) (by omega)
  have cL00 := alloc_tri0 w (.int .i64 g) (.int .i64 e) (.int .i64 q) 23
  have cL01 := alloc_tri1 w (.int .i64 g) (.int .i64 e) (.int .i64 q) 23
  have cL02 := alloc_tri2 w (.int .i64 g) (.int .i64 e) (.int .i64 q) 23
  have lL0 := alloc_ltT w (.cells #[.int .i64 g, .int .i64 e, .int .i64 q] 23)
  go_enter Try.func4, Try.ntmps4
  go_wp2_with fail
  refine (toLocal_any g e q _).mono ?_
  rintro e w1 ⟨rfl, k1⟩
  have s1 := k1.size
  replace hB := k1.base hB (by omega) (by omega)
  replace cL00 := cell_keepT cL00 lL0 k1 (by omega)
  replace cL01 := cell_keepT cL01 lL0 k1 (by omega)
  replace cL02 := cell_keepT cL02 lL0 k1 (by omega)
  replace lL0 := Nat.lt_of_lt_of_le lL0 (k1).size
  go_wp2_with fail
  refine (sGroupOf_any g e q a _).mono ?_
  rintro e w2 ⟨rfl, k2⟩
  have s2 := k2.size
  replace hB := k2.base hB (by omega) (by omega)
  replace cL00 := cell_keepT cL00 lL0 k2 (by omega)
  replace cL01 := cell_keepT cL01 lL0 k2 (by omega)
  replace cL02 := cell_keepT cL02 lL0 k2 (by omega)
  replace lL0 := Nat.lt_of_lt_of_le lL0 (k2).size
  go_wp2_with fail
  refine (toLocal_any g e q _).mono ?_
  rintro e w3 ⟨rfl, k3⟩
  have s3 := k3.size
  replace hB := k3.base hB (by omega) (by omega)
  replace cL00 := cell_keepT cL00 lL0 k3 (by omega)
  replace cL01 := cell_keepT cL01 lL0 k3 (by omega)
  replace cL02 := cell_keepT cL02 lL0 k3 (by omega)
  replace lL0 := Nat.lt_of_lt_of_le lL0 (k3).size
  go_wp2_with fail
  refine (groupOf_any g e q a _).mono ?_
  rintro e w4 ⟨rfl, k4⟩
  have s4 := k4.size
  replace hB := k4.base hB (by omega) (by omega)
  replace cL00 := cell_keepT cL00 lL0 k4 (by omega)
  replace cL01 := cell_keepT cL01 lL0 k4 (by omega)
  replace cL02 := cell_keepT cL02 lL0 k4 (by omega)
  replace lL0 := Nat.lt_of_lt_of_le lL0 (k4).size
  go_wp2_with fail
  go_ret
  exact ⟨rfl, hB⟩

set_option maxRecDepth 100000 in
theorem walk_FnExactGroupOf : G294.LawWalk Try.prog 4 Try.f4 Rows.fnExactGroupOfSpec.vars false (fun _ => True) := by
  intro H enc W base args ds gs before hval hW hX
  have hlt0 : ∀ p ∈ before, p.block < W.heap.size := fun p hp => hW.lt p hp
  obtain ⟨p, q, hA, hV, rfl, hfz, hnd⟩ := hW
  rw [Try.params4] at hA hval
  obtain ⟨u0, vs0, d0, ds0, p0, q0, hargs, rfl, rfl, t0, r0⟩ := trodAll_cons hA
  obtain ⟨u1, vs1, d1, ds1, p1, q1, rfl, rfl, rfl, t1, r1⟩ := trodAll_cons r0
  obtain ⟨rfl, rfl, rfl⟩ := trodAll_nil r1
  obtain rfl : args = #[u0, u1] := by cases args; simp_all
  obtain ⟨g0, e0, q0, rfl⟩ := open_three Try.underlying23 (by kernel_rfl) (by kernel_rfl) Try.underlying3 Try.underlying3 Try.underlying3 (hval 0 23 u0 rfl rfl) t0
  obtain ⟨a1, rfl, rfl, rfl, wf1⟩ := open_int Try.underlying3 (hval 1 3 u1 rfl rfl) t1
  exact exactGroupOf_walk g0 e0 q0 a1 W

end Go.Proofs.Ytipmfebnjmobfaa
