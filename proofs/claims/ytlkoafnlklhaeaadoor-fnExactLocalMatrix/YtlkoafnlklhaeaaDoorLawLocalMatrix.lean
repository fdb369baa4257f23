/- The walk of FnExactLocalMatrix. -/
import Derived.Test.YtlkoafnlklhaeaaDoorRows
import Derived.Test.YtlkoafnlklhaeaaDoorOpenArgs
import Derived.Test.YtlkoafnlklhaeaaDoorOpenLoc
import Derived.Test.YtlkoafnlklhaeaaDoorMatLaws
import Derived.Test.YtlkoafnlklhaeaaDoorSpecLoc
import Derived.Test.YtlkoafnlklhaeaaDoorTabOf
import Derived.Test.YtlkoafnlklhaeaaDoorBoxes
import Derived.Test.YtlkoafnlklhaeaaDoorFrame
set_option linter.unusedSimpArgs false
set_option linter.unusedVariables false
namespace Go.Proofs.YtlkoafnlklhaeaaDoor
open Go.ChangeShapes Go.WideShapes Go.ChangeAt Go.RowKit G294

set_option maxRecDepth 100000 in
set_option maxHeartbeats 4000000 in
theorem exactLocalMatrix_walk (g e q : Int) (w : World) (ht : Tab w) (h0 : 1 < w.heap.size) :
    Calls Tryd.prog 8 #[.agg #[.int .i64 g, .int .i64 e, .int .i64 q]] w fun e w' => e = .returned (.bool true) ∧ Below w.heap.size w w' := by
  have hbb1 : (locOk g e q != locOk g e q) = false := by simp
  have hB := Below.refl w.heap.size w
  have a1 := turn_alloc w (.cells #[.int .i64 g, .int .i64 e, .int .i64 q] 67)
  have z1a := World.size_alloc w (.cells #[.int .i64 g, .int .i64 e, .int .i64 q] 67)
  replace hB := a1.base hB (by omega) (by omega)
  have cL00 := alloc_tri0 w (.int .i64 g) (.int .i64 e) (.int .i64 q) 67
  have cL01 := alloc_tri1 w (.int .i64 g) (.int .i64 e) (.int .i64 q) 67
  have cL02 := alloc_tri2 w (.int .i64 g) (.int .i64 e) (.int .i64 q) 67
  have lL0 := alloc_ltT w (.cells #[.int .i64 g, .int .i64 e, .int .i64 q] 67)
  go_enter Tryd.func8, Tryd.ntmps8
  go_wp2_with fail
  refine (toLocal_any g e q _).mono ?_
  rintro e w1 ⟨rfl, k1⟩
  have s1 := k1.size
  replace hB := k1.base hB (by omega) (by omega)
  replace cL00 := cell_keepT cL00 lL0 k1 (by omega)
  replace cL01 := cell_keepT cL01 lL0 k1 (by omega)
  replace cL02 := cell_keepT cL02 lL0 k1 (by omega)
  replace lL0 := Nat.lt_of_lt_of_le lL0 (k1).size
  go_wp2_with fail
  refine (sLocalMatrix_own g e q _).mono ?_
  rintro e w2 ⟨s0, s0vs, rfl, os0, k2⟩
  obtain ⟨A_s0, N_s0, C_s0, rfl⟩ := os0.isSlice
  have s2 := k2.size
  replace hB := k2.base hB (by omega) (by omega)
  replace cL00 := cell_keepT cL00 lL0 k2 (by omega)
  replace cL01 := cell_keepT cL01 lL0 k2 (by omega)
  replace cL02 := cell_keepT cL02 lL0 k2 (by omega)
  replace lL0 := Nat.lt_of_lt_of_le lL0 (k2).size
  have a2 := turn_alloc w2 (.cells #[.slice A_s0 N_s0 C_s0] 70)
  have z2a := World.size_alloc w2 (.cells #[.slice A_s0 N_s0 C_s0] 70)
  replace hB := a2.base hB (by omega) (by omega)
  replace os0 := os0.keep a2 (by omega)
  replace cL00 := cell_keepT cL00 lL0 a2 (by omega)
  replace cL01 := cell_keepT cL01 lL0 a2 (by omega)
  replace cL02 := cell_keepT cL02 lL0 a2 (by omega)
  replace lL0 := Nat.lt_of_lt_of_le lL0 (a2).size
  have cs0 := alloc_cell w2 (.slice A_s0 N_s0 C_s0) 70
  have ls0 := alloc_lt w2 (.cells #[.slice A_s0 N_s0 C_s0] 70)
  go_wp2_with fail
  refine (toLocal_any g e q _).mono ?_
  rintro e w3 ⟨rfl, k3⟩
  have s3 := k3.size
  replace hB := k3.base hB (by omega) (by omega)
  replace os0 := os0.keep k3 (by omega)
  replace cs0 := box_keep cs0 ls0 k3 (by omega)
  replace ls0 := Nat.lt_of_lt_of_le ls0 (k3).size
  replace cL00 := cell_keepT cL00 lL0 k3 (by omega)
  replace cL01 := cell_keepT cL01 lL0 k3 (by omega)
  replace cL02 := cell_keepT cL02 lL0 k3 (by omega)
  replace lL0 := Nat.lt_of_lt_of_le lL0 (k3).size
  go_wp2_with fail
  refine (localMatrix_own g e q _ (ht.below hB h0) (by have := hB.size; omega)).mono ?_
  rintro e w4 ⟨g0, g0vs, rfl, og0, k4⟩
  obtain ⟨A_g0, N_g0, C_g0, rfl⟩ := og0.isSlice
  have s4 := k4.size
  replace hB := k4.base hB (by omega) (by omega)
  replace os0 := os0.keep k4 (by omega)
  replace cs0 := box_keep cs0 ls0 k4 (by omega)
  replace ls0 := Nat.lt_of_lt_of_le ls0 (k4).size
  replace cL00 := cell_keepT cL00 lL0 k4 (by omega)
  replace cL01 := cell_keepT cL01 lL0 k4 (by omega)
  replace cL02 := cell_keepT cL02 lL0 k4 (by omega)
  replace lL0 := Nat.lt_of_lt_of_le lL0 (k4).size
  have a3 := turn_alloc w4 (.cells #[.slice A_g0 N_g0 C_g0] 70)
  have z3a := World.size_alloc w4 (.cells #[.slice A_g0 N_g0 C_g0] 70)
  replace hB := a3.base hB (by omega) (by omega)
  replace os0 := os0.keep a3 (by omega)
  replace og0 := og0.keep a3 (by omega)
  replace cs0 := box_keep cs0 ls0 a3 (by omega)
  replace ls0 := Nat.lt_of_lt_of_le ls0 (a3).size
  replace cL00 := cell_keepT cL00 lL0 a3 (by omega)
  replace cL01 := cell_keepT cL01 lL0 a3 (by omega)
  replace cL02 := cell_keepT cL02 lL0 a3 (by omega)
  replace lL0 := Nat.lt_of_lt_of_le lL0 (a3).size
  have cg0 := alloc_cell w4 (.slice A_g0 N_g0 C_g0) 70
  have lg0 := alloc_lt w4 (.cells #[.slice A_g0 N_g0 C_g0] 70)
  go_wp2_with fail
  refine (eqMatrix_same _ _ (locR g e q) _ og0.seen os0.seen).mono ?_
  rintro e w5 ⟨rfl, k5⟩
  have s5 := k5.size
  replace hB := k5.base hB (by omega) (by omega)
  replace os0 := os0.keep k5 (by omega)
  replace og0 := og0.keep k5 (by omega)
  replace cs0 := box_keep cs0 ls0 k5 (by omega)
  replace ls0 := Nat.lt_of_lt_of_le ls0 (k5).size
  replace cg0 := box_keep cg0 lg0 k5 (by omega)
  replace lg0 := Nat.lt_of_lt_of_le lg0 (k5).size
  replace cL00 := cell_keepT cL00 lL0 k5 (by omega)
  replace cL01 := cell_keepT cL01 lL0 k5 (by omega)
  replace cL02 := cell_keepT cL02 lL0 k5 (by omega)
  replace lL0 := Nat.lt_of_lt_of_le lL0 (k5).size
  have hk0 : ¬ (1 : Int) < 0 := by omega
  obtain ⟨r0, hr0⟩ : ∃ zz : Nat, zz = 1 + sizM (locR g e q) := ⟨_, rfl⟩
  have HR0 := Lib.hid hr0
  clear hr0
  have hrb0 : r0 ≤ 100000000 := by have := locR_siz g e q; rw [HR0.out]; omega
  go_wp2_with fail
  refine (markMatrix_own _ (locR g e q) _ 1 _ _ _ og0 (by rw [← HR0.out]; omega)).mono ?_
  rintro e w6 ⟨he, og0, k6⟩
  have s6 := k6.size
  replace hB := k6.base hB (by omega) (by omega)
  replace os0 := os0.keep k6 (by omega)
  replace cs0 := box_keep cs0 ls0 k6 (by omega)
  replace ls0 := Nat.lt_of_lt_of_le ls0 (k6).size
  replace cg0 := box_keep cg0 lg0 k6 (by omega)
  replace lg0 := Nat.lt_of_lt_of_le lg0 (k6).size
  replace cL00 := cell_keepT cL00 lL0 k6 (by omega)
  replace cL01 := cell_keepT cL01 lL0 k6 (by omega)
  replace cL02 := cell_keepT cL02 lL0 k6 (by omega)
  replace lL0 := Nat.lt_of_lt_of_le lL0 (k6).size
  rw [← HR0.out] at he
  subst he
  go_wp2_with fail
  refine (heldMatrix_own _ (locR g e q) 1 _ og0.seen (by rw [← HR0.out]; omega)).mono ?_
  rintro e w7 ⟨he, k7⟩
  have s7 := k7.size
  replace hB := k7.base hB (by omega) (by omega)
  replace os0 := os0.keep k7 (by omega)
  replace og0 := og0.keep k7 (by omega)
  replace cs0 := box_keep cs0 ls0 k7 (by omega)
  replace ls0 := Nat.lt_of_lt_of_le ls0 (k7).size
  replace cg0 := box_keep cg0 lg0 k7 (by omega)
  replace lg0 := Nat.lt_of_lt_of_le lg0 (k7).size
  replace cL00 := cell_keepT cL00 lL0 k7 (by omega)
  replace cL01 := cell_keepT cL01 lL0 k7 (by omega)
  replace cL02 := cell_keepT cL02 lL0 k7 (by omega)
  replace lL0 := Nat.lt_of_lt_of_le lL0 (k7).size
  rw [← HR0.out] at he
  subst he
  have hq0 : ¬ (r0 : Int) < 0 := by omega
  have hqq : ((r0 : Int) != (r0 : Int)) = false := by simp
  go_wp2_with fail
  refine (toLocal_any g e q _).mono ?_
  rintro e w8 ⟨rfl, k8⟩
  have s8 := k8.size
  replace hB := k8.base hB (by omega) (by omega)
  replace os0 := os0.keep k8 (by omega)
  replace og0 := og0.keep k8 (by omega)
  replace cs0 := box_keep cs0 ls0 k8 (by omega)
  replace ls0 := Nat.lt_of_lt_of_le ls0 (k8).size
  replace cg0 := box_keep cg0 lg0 k8 (by omega)
  replace lg0 := Nat.lt_of_lt_of_le lg0 (k8).size
  replace cL00 := cell_keepT cL00 lL0 k8 (by omega)
  replace cL01 := cell_keepT cL01 lL0 k8 (by omega)
  replace cL02 := cell_keepT cL02 lL0 k8 (by omega)
  replace lL0 := Nat.lt_of_lt_of_le lL0 (k8).size
  go_wp2_with fail
  refine (localMatrix_own g e q _ (ht.below hB h0) (by have := hB.size; omega)).mono ?_
  rintro e w9 ⟨h0, h0vs, rfl, oh0, k9⟩
  obtain ⟨A_h0, N_h0, C_h0, rfl⟩ := oh0.isSlice
  have s9 := k9.size
  replace hB := k9.base hB (by omega) (by omega)
  replace os0 := os0.keep k9 (by omega)
  replace og0 := og0.keep k9 (by omega)
  replace cs0 := box_keep cs0 ls0 k9 (by omega)
  replace ls0 := Nat.lt_of_lt_of_le ls0 (k9).size
  replace cg0 := box_keep cg0 lg0 k9 (by omega)
  replace lg0 := Nat.lt_of_lt_of_le lg0 (k9).size
  replace cL00 := cell_keepT cL00 lL0 k9 (by omega)
  replace cL01 := cell_keepT cL01 lL0 k9 (by omega)
  replace cL02 := cell_keepT cL02 lL0 k9 (by omega)
  replace lL0 := Nat.lt_of_lt_of_le lL0 (k9).size
  have a4 := turn_alloc w9 (.cells #[.slice A_h0 N_h0 C_h0] 70)
  have z4a := World.size_alloc w9 (.cells #[.slice A_h0 N_h0 C_h0] 70)
  replace hB := a4.base hB (by omega) (by omega)
  replace os0 := os0.keep a4 (by omega)
  replace og0 := og0.keep a4 (by omega)
  replace oh0 := oh0.keep a4 (by omega)
  replace cs0 := box_keep cs0 ls0 a4 (by omega)
  replace ls0 := Nat.lt_of_lt_of_le ls0 (a4).size
  replace cg0 := box_keep cg0 lg0 a4 (by omega)
  replace lg0 := Nat.lt_of_lt_of_le lg0 (a4).size
  replace cL00 := cell_keepT cL00 lL0 a4 (by omega)
  replace cL01 := cell_keepT cL01 lL0 a4 (by omega)
  replace cL02 := cell_keepT cL02 lL0 a4 (by omega)
  replace lL0 := Nat.lt_of_lt_of_le lL0 (a4).size
  have ch0 := alloc_cell w9 (.slice A_h0 N_h0 C_h0) 70
  have lh0 := alloc_lt w9 (.cells #[.slice A_h0 N_h0 C_h0] 70)
  go_wp2_with fail
  refine (eqMatrix_same _ _ (locR g e q) _ oh0.seen os0.seen).mono ?_
  rintro e w10 ⟨rfl, k10⟩
  have s10 := k10.size
  replace hB := k10.base hB (by omega) (by omega)
  replace os0 := os0.keep k10 (by omega)
  replace og0 := og0.keep k10 (by omega)
  replace oh0 := oh0.keep k10 (by omega)
  replace cs0 := box_keep cs0 ls0 k10 (by omega)
  replace ls0 := Nat.lt_of_lt_of_le ls0 (k10).size
  replace cg0 := box_keep cg0 lg0 k10 (by omega)
  replace lg0 := Nat.lt_of_lt_of_le lg0 (k10).size
  replace ch0 := box_keep ch0 lh0 k10 (by omega)
  replace lh0 := Nat.lt_of_lt_of_le lh0 (k10).size
  replace cL00 := cell_keepT cL00 lL0 k10 (by omega)
  replace cL01 := cell_keepT cL01 lL0 k10 (by omega)
  replace cL02 := cell_keepT cL02 lL0 k10 (by omega)
  replace lL0 := Nat.lt_of_lt_of_le lL0 (k10).size
  go_wp2_with fail
  refine (heldMatrix_own _ (locR g e q) 1 _ og0.seen (by rw [← HR0.out]; omega)).mono ?_
  rintro e w11 ⟨he, k11⟩
  have s11 := k11.size
  replace hB := k11.base hB (by omega) (by omega)
  replace os0 := os0.keep k11 (by omega)
  replace og0 := og0.keep k11 (by omega)
  replace oh0 := oh0.keep k11 (by omega)
  replace cs0 := box_keep cs0 ls0 k11 (by omega)
  replace ls0 := Nat.lt_of_lt_of_le ls0 (k11).size
  replace cg0 := box_keep cg0 lg0 k11 (by omega)
  replace lg0 := Nat.lt_of_lt_of_le lg0 (k11).size
  replace ch0 := box_keep ch0 lh0 k11 (by omega)
  replace lh0 := Nat.lt_of_lt_of_le lh0 (k11).size
  replace cL00 := cell_keepT cL00 lL0 k11 (by omega)
  replace cL01 := cell_keepT cL01 lL0 k11 (by omega)
  replace cL02 := cell_keepT cL02 lL0 k11 (by omega)
  replace lL0 := Nat.lt_of_lt_of_le lL0 (k11).size
  rw [← HR0.out] at he
  subst he
  have hq0 : ¬ (r0 : Int) < 0 := by omega
  have hqq : ((r0 : Int) != (r0 : Int)) = false := by simp
  go_wp2_with fail
  go_ret
  exact ⟨rfl, hB⟩

set_option maxRecDepth 100000 in
theorem walk_FnExactLocalMatrix : G294.LawWalk Tryd.prog 8 Tryd.f8 Rows.fnExactLocalMatrixSpec.vars false (fun W => laidMetH Tryd.prog Rows.fnExactLocalMatrixRow.laid W) := by
  intro H enc W base args ds gs before hval hW hX
  have hlt0 : ∀ p ∈ before, p.block < W.heap.size := fun p hp => hW.lt p hp
  obtain ⟨p, q, hA, hV, rfl, hfz, hnd⟩ := hW
  rw [Tryd.params8] at hA hval
  obtain ⟨u0, vs0, d0, ds0, p0, q0, hargs, rfl, rfl, t0, r0⟩ := trodAll_cons hA
  obtain ⟨rfl, rfl, rfl⟩ := trodAll_nil r0
  obtain rfl : args = #[u0] := by cases args; simp_all
  obtain ⟨g0, e0, q0, rfl⟩ := open_three Tryd.underlying67 (by kernel_rfl) (by kernel_rfl) Tryd.underlying3 Tryd.underlying3 Tryd.underlying3 (hval 0 67 u0 rfl rfl) t0
  obtain ⟨ht, hs⟩ := tab_of (by kernel_rfl) hX 0 rfl (by kernel_rfl)
  exact exactLocalMatrix_walk g0 e0 q0 W ht hs

end Go.Proofs.YtlkoafnlklhaeaaDoor
