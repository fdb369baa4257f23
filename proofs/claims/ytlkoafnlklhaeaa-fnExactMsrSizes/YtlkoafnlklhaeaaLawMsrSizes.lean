/- The walk of FnExactMsrSizes. -/
import Derived.Test.YtlkoafnlklhaeaaRows
import Derived.Test.YtlkoafnlklhaeaaOpenArgs
import Derived.Test.YtlkoafnlklhaeaaOpenMsr
import Derived.Test.YtlkoafnlklhaeaaFrame
set_option linter.unusedSimpArgs false
set_option linter.unusedVariables false
namespace Go.Proofs.Ytlkoafnlklhaeaa
open Go.ChangeShapes Go.WideShapes Go.ChangeAt Go.RowKit G294

set_option maxRecDepth 100000 in
set_option maxHeartbeats 4000000 in
theorem exactMsrSizes_walk (n k : Int) (w : World) :
    Calls Try.prog 4 #[.agg #[.int .i64 n, .int .i64 k]] w fun e w' => e = .returned (.bool true) ∧ Below w.heap.size w w' := by
  have hbb0 : ((msrA n k : Int) != (msrA n k : Int)) = false := by simp
  have hbb1 : ((msrD n k : Int) != (msrD n k : Int)) = false := by simp
  have hbb2 : ((msrB n k : Int) != (msrB n k : Int)) = false := by simp
  have hbb3 : (msrOk n k != msrOk n k) = false := by simp
  have hB := Below.refl w.heap.size w
  have a1 := turn_alloc w (.cells #[.int .i64 n, .int .i64 k] 23)
  have z1a := World.size_alloc w (.cells #[.int .i64 n, .int .i64 k] 23)
  replace hB := a1.base hB (by omega) (by omega)
  have cL00 := alloc_duo0 w (.int .i64 n) (.int .i64 k) 23
  have cL01 := alloc_duo1 w (.int .i64 n) (.int .i64 k) 23
  have lL0 := alloc_ltT w (.cells #[.int .i64 n, .int .i64 k] 23)
  go_enter Try.func4, Try.ntmps4
  go_wp2_with fail
  refine (toMsr_any n k _).mono ?_
  rintro e w1 ⟨rfl, k1⟩
  have s1 := k1.size
  replace hB := k1.base hB (by omega) (by omega)
  replace cL00 := cell_keepT cL00 lL0 k1 (by omega)
  replace cL01 := cell_keepT cL01 lL0 k1 (by omega)
  replace lL0 := Nat.lt_of_lt_of_le lL0 (k1).size
  go_wp2_with fail
  refine (sMsrSizes_any n k _).mono ?_
  rintro e w2 ⟨rfl, k2⟩
  have s2 := k2.size
  replace hB := k2.base hB (by omega) (by omega)
  replace cL00 := cell_keepT cL00 lL0 k2 (by omega)
  replace cL01 := cell_keepT cL01 lL0 k2 (by omega)
  replace lL0 := Nat.lt_of_lt_of_le lL0 (k2).size
  go_wp2_with fail
  refine (toMsr_any n k _).mono ?_
  rintro e w3 ⟨rfl, k3⟩
  have s3 := k3.size
  replace hB := k3.base hB (by omega) (by omega)
  replace cL00 := cell_keepT cL00 lL0 k3 (by omega)
  replace cL01 := cell_keepT cL01 lL0 k3 (by omega)
  replace lL0 := Nat.lt_of_lt_of_le lL0 (k3).size
  go_wp2_with fail
  refine (msrSizes_any n k _).mono ?_
  rintro e w4 ⟨rfl, k4⟩
  have s4 := k4.size
  replace hB := k4.base hB (by omega) (by omega)
  replace cL00 := cell_keepT cL00 lL0 k4 (by omega)
  replace cL01 := cell_keepT cL01 lL0 k4 (by omega)
  replace lL0 := Nat.lt_of_lt_of_le lL0 (k4).size
  go_wp2_with fail
  go_ret
  exact ⟨rfl, hB⟩

set_option maxRecDepth 100000 in
theorem walk_FnExactMsrSizes : G294.LawWalk Try.prog 4 Try.f4 Rows.fnExactMsrSizesSpec.vars false (fun _ => True) := by
  intro H enc W base args ds gs before hval hW hX
  have hlt0 : ∀ p ∈ before, p.block < W.heap.size := fun p hp => hW.lt p hp
  obtain ⟨p, q, hA, hV, rfl, hfz, hnd⟩ := hW
  rw [Try.params4] at hA hval
  obtain ⟨u0, vs0, d0, ds0, p0, q0, hargs, rfl, rfl, t0, r0⟩ := trodAll_cons hA
  obtain ⟨rfl, rfl, rfl⟩ := trodAll_nil r0
  obtain rfl : args = #[u0] := by cases args; simp_all
  obtain ⟨g0, e0, rfl⟩ := open_two Try.underlying23 (by kernel_rfl) (by kernel_rfl) Try.underlying3 Try.underlying3 (hval 0 23 u0 rfl rfl) t0
  exact exactMsrSizes_walk g0 e0 W

end Go.Proofs.Ytlkoafnlklhaeaa
