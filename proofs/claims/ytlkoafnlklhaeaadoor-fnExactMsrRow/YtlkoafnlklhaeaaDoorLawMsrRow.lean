/- The walk of FnExactMsrRow. -/
import Derived.Test.YtlkoafnlklhaeaaDoorRows
import Derived.Test.YtlkoafnlklhaeaaDoorOpenArgs
import Derived.Test.YtlkoafnlklhaeaaDoorOpenMsr
import Derived.Test.YtlkoafnlklhaeaaDoorBytesOwn
import Derived.Test.YtlkoafnlklhaeaaDoorNodeRow2
import Derived.Test.YtlkoafnlklhaeaaDoorTabOf
import Derived.Test.YtlkoafnlklhaeaaDoorFrame
set_option linter.unusedSimpArgs false
set_option linter.unusedVariables false
namespace Go.Proofs.YtlkoafnlklhaeaaDoor
open Go.ChangeShapes Go.WideShapes Go.ChangeAt Go.RowKit G294

set_option maxRecDepth 100000 in
set_option maxHeartbeats 4000000 in
theorem exactMsrRow_walk (n k : Int) (a : Int) (w : World) (ht : Tab w) (h0 : 1 < w.heap.size) :
    Calls Tryd.prog 3 #[.agg #[.int .i64 n, .int .i64 k], .int .i64 a] w fun e w' => e = .returned (.bool true) ∧ Below w.heap.size w w' := by
  have hbb1 : (nodeOk n k a != nodeOk n k a) = false := by simp
  have hB := Below.refl w.heap.size w
  have a1 := turn_alloc w (.cells #[.int .i64 n, .int .i64 k] 23)
  have z1a := World.size_alloc w (.cells #[.int .i64 n, .int .i64 k] 23)
  replace hB := a1.base hB (by omega) (by omega)
  have cL00 := alloc_duo0 w (.int .i64 n) (.int .i64 k) 23
  have cL01 := alloc_duo1 w (.int .i64 n) (.int .i64 k) 23
  have lL0 := alloc_ltT w (.cells #[.int .i64 n, .int .i64 k] 23)
  go_enter Tryd.func3, Tryd.ntmps3
  go_wp2_with fail
  refine (toMsr_any n k _).mono ?_
  rintro e w1 ⟨rfl, k1⟩
  have s1 := k1.size
  replace hB := k1.base hB (by omega) (by omega)
  replace cL00 := cell_keepT cL00 lL0 k1 (by omega)
  replace cL01 := cell_keepT cL01 lL0 k1 (by omega)
  replace lL0 := Nat.lt_of_lt_of_le lL0 (k1).size
  go_wp2_with fail
  refine (sMsrRow_own n k a _).mono ?_
  rintro e w2 ⟨s0, rfl, os0, k2⟩
  have s2 := k2.size
  replace hB := k2.base hB (by omega) (by omega)
  replace cL00 := cell_keepT cL00 lL0 k2 (by omega)
  replace cL01 := cell_keepT cL01 lL0 k2 (by omega)
  replace lL0 := Nat.lt_of_lt_of_le lL0 (k2).size
  go_wp2_with fail
  refine (toMsr_any n k _).mono ?_
  rintro e w3 ⟨rfl, k3⟩
  have s3 := k3.size
  replace hB := k3.base hB (by omega) (by omega)
  replace os0 := os0.keep k3 (by omega)
  replace cL00 := cell_keepT cL00 lL0 k3 (by omega)
  replace cL01 := cell_keepT cL01 lL0 k3 (by omega)
  replace lL0 := Nat.lt_of_lt_of_le lL0 (k3).size
  go_wp2_with fail
  refine (msrRow_own n k a _ (ht.below hB h0) (by have := hB.size; omega)).mono ?_
  rintro e w4 ⟨g0, rfl, og0, k4⟩
  have s4 := k4.size
  replace hB := k4.base hB (by omega) (by omega)
  replace os0 := os0.keep k4 (by omega)
  replace cL00 := cell_keepT cL00 lL0 k4 (by omega)
  replace cL01 := cell_keepT cL01 lL0 k4 (by omega)
  replace lL0 := Nat.lt_of_lt_of_le lL0 (k4).size
  go_wp2_with fail
  refine (eqByteS_same _ _ (rowR n k a) _ og0.seen os0.seen).mono ?_
  rintro e w5 ⟨rfl, k5⟩
  have s5 := k5.size
  replace hB := k5.base hB (by omega) (by omega)
  replace os0 := os0.keep k5 (by omega)
  replace og0 := og0.keep k5 (by omega)
  replace cL00 := cell_keepT cL00 lL0 k5 (by omega)
  replace cL01 := cell_keepT cL01 lL0 k5 (by omega)
  replace lL0 := Nat.lt_of_lt_of_le lL0 (k5).size
  have hk0 : ¬ (1 : Int) < 0 := by omega
  obtain ⟨r0, hr0⟩ : ∃ zz : Nat, zz = 1 + (rowR n k a).length := ⟨_, rfl⟩
  have HR0 := Lib.hid hr0
  clear hr0
  have hrb0 : r0 ≤ 100000000 := by have := rowR_len n k a; rw [HR0.out]; omega
  go_wp2_with fail
  refine (markByteS_own _ (rowR n k a) 1 _ _ _ og0 (by rw [← HR0.out]; omega)).mono ?_
  rintro e w6 ⟨he, og0, k6⟩
  have s6 := k6.size
  replace hB := k6.base hB (by omega) (by omega)
  replace os0 := os0.keep k6 (by omega)
  replace cL00 := cell_keepT cL00 lL0 k6 (by omega)
  replace cL01 := cell_keepT cL01 lL0 k6 (by omega)
  replace lL0 := Nat.lt_of_lt_of_le lL0 (k6).size
  rw [← HR0.out] at he
  subst he
  go_wp2_with fail
  refine (heldByteS_own _ 1 (rowR n k a).length _ og0.seen (by rw [← HR0.out]; omega)).mono ?_
  rintro e w7 ⟨he, k7⟩
  have s7 := k7.size
  replace hB := k7.base hB (by omega) (by omega)
  replace os0 := os0.keep k7 (by omega)
  replace og0 := og0.keep k7 (by omega)
  replace cL00 := cell_keepT cL00 lL0 k7 (by omega)
  replace cL01 := cell_keepT cL01 lL0 k7 (by omega)
  replace lL0 := Nat.lt_of_lt_of_le lL0 (k7).size
  rw [← HR0.out] at he
  subst he
  have hq0 : ¬ (r0 : Int) < 0 := by omega
  have hqq : ((r0 : Int) != (r0 : Int)) = false := by simp
  go_wp2_with fail
  refine (toMsr_any n k _).mono ?_
  rintro e w8 ⟨rfl, k8⟩
  have s8 := k8.size
  replace hB := k8.base hB (by omega) (by omega)
  replace os0 := os0.keep k8 (by omega)
  replace og0 := og0.keep k8 (by omega)
  replace cL00 := cell_keepT cL00 lL0 k8 (by omega)
  replace cL01 := cell_keepT cL01 lL0 k8 (by omega)
  replace lL0 := Nat.lt_of_lt_of_le lL0 (k8).size
  go_wp2_with fail
  refine (msrRow_own n k a _ (ht.below hB h0) (by have := hB.size; omega)).mono ?_
  rintro e w9 ⟨h0, rfl, oh0, k9⟩
  have s9 := k9.size
  replace hB := k9.base hB (by omega) (by omega)
  replace os0 := os0.keep k9 (by omega)
  replace og0 := og0.keep k9 (by omega)
  replace cL00 := cell_keepT cL00 lL0 k9 (by omega)
  replace cL01 := cell_keepT cL01 lL0 k9 (by omega)
  replace lL0 := Nat.lt_of_lt_of_le lL0 (k9).size
  go_wp2_with fail
  refine (eqByteS_same _ _ (rowR n k a) _ oh0.seen os0.seen).mono ?_
  rintro e w10 ⟨rfl, k10⟩
  have s10 := k10.size
  replace hB := k10.base hB (by omega) (by omega)
  replace os0 := os0.keep k10 (by omega)
  replace og0 := og0.keep k10 (by omega)
  replace oh0 := oh0.keep k10 (by omega)
  replace cL00 := cell_keepT cL00 lL0 k10 (by omega)
  replace cL01 := cell_keepT cL01 lL0 k10 (by omega)
  replace lL0 := Nat.lt_of_lt_of_le lL0 (k10).size
  go_wp2_with fail
  refine (heldByteS_own _ 1 (rowR n k a).length _ og0.seen (by rw [← HR0.out]; omega)).mono ?_
  rintro e w11 ⟨he, k11⟩
  have s11 := k11.size
  replace hB := k11.base hB (by omega) (by omega)
  replace os0 := os0.keep k11 (by omega)
  replace og0 := og0.keep k11 (by omega)
  replace oh0 := oh0.keep k11 (by omega)
  replace cL00 := cell_keepT cL00 lL0 k11 (by omega)
  replace cL01 := cell_keepT cL01 lL0 k11 (by omega)
  replace lL0 := Nat.lt_of_lt_of_le lL0 (k11).size
  rw [← HR0.out] at he
  subst he
  have hq0 : ¬ (r0 : Int) < 0 := by omega
  have hqq : ((r0 : Int) != (r0 : Int)) = false := by simp
  go_wp2_with fail
  go_ret
  exact ⟨rfl, hB⟩

set_option maxRecDepth 100000 in
theorem walk_FnExactMsrRow : G294.LawWalk Tryd.prog 3 Tryd.f3 Rows.fnExactMsrRowSpec.vars false (fun W => laidMetH Tryd.prog Rows.fnExactMsrRowRow.laid W) := by
  intro H enc W base args ds gs before hval hW hX
  have hlt0 : ∀ p ∈ before, p.block < W.heap.size := fun p hp => hW.lt p hp
  obtain ⟨p, q, hA, hV, rfl, hfz, hnd⟩ := hW
  rw [Tryd.params3] at hA hval
  obtain ⟨u0, vs0, d0, ds0, p0, q0, hargs, rfl, rfl, t0, r0⟩ := trodAll_cons hA
  obtain ⟨u1, vs1, d1, ds1, p1, q1, rfl, rfl, rfl, t1, r1⟩ := trodAll_cons r0
  obtain ⟨rfl, rfl, rfl⟩ := trodAll_nil r1
  obtain rfl : args = #[u0, u1] := by cases args; simp_all
  obtain ⟨g0, e0, rfl⟩ := open_two Tryd.underlying23 (by kernel_rfl) (by kernel_rfl) Tryd.underlying3 Tryd.underlying3 (hval 0 23 u0 rfl rfl) t0
  obtain ⟨a1, rfl, rfl, rfl, wf1⟩ := open_int Tryd.underlying3 (hval 1 3 u1 rfl rfl) t1
  obtain ⟨ht, hs⟩ := tab_of (by kernel_rfl) hX 0 rfl (by kernel_rfl)
  exact exactMsrRow_walk g0 e0 a1 W ht hs

end Go.Proofs.YtlkoafnlklhaeaaDoor
