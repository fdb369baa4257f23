/- The walk of FnExactParityMatrix. -/
import Derived.Test.YtbopocpmodpfcaaDoorRows
import Derived.Test.YtbopocpmodpfcaaDoorOpenArgs
import Derived.Test.YtbopocpmodpfcaaDoorMatLaws
import Derived.Test.YtbopocpmodpfcaaDoorParMat
import Derived.Test.YtbopocpmodpfcaaDoorTabOf
import Derived.Test.YtbopocpmodpfcaaDoorBoxes
import Derived.Test.YtbopocpmodpfcaaDoorFrame
set_option linter.unusedSimpArgs false
set_option linter.unusedVariables false
namespace Go.Proofs.YtbopocpmodpfcaaDoor
open Go.ChangeShapes Go.WideShapes Go.ChangeAt Go.RowKit G294

set_option maxRecDepth 100000 in
set_option maxHeartbeats 4000000 in
theorem exactParityMatrix_walk (a : Int) (b : Int) (w : World) (ht : Tab w) (h0 : 0 < w.heap.size) :
    Calls Tryd.prog 5 #[.int .i64 a, .int .i64 b] w fun e w' => e = .returned (.bool true) ∧ Below w.heap.size w w' := by
  have hbb1 : (prmOk a b != prmOk a b) = false := by simp
  have hB := Below.refl w.heap.size w
  go_enter Tryd.func5, Tryd.ntmps5
  go_wp2_with fail
  refine (sParityMatrix_own a b _).mono ?_
  rintro e w1 ⟨s0, s0vs, rfl, os0, k1⟩
  obtain ⟨A_s0, N_s0, C_s0, rfl⟩ := os0.isSlice
  have s1 := k1.size
  replace hB := k1.base hB (by omega) (by omega)
  have a1 := turn_alloc w1 (.cells #[.slice A_s0 N_s0 C_s0] 39)
  have z1a := World.size_alloc w1 (.cells #[.slice A_s0 N_s0 C_s0] 39)
  replace hB := a1.base hB (by omega) (by omega)
  replace os0 := os0.keep a1 (by omega)
  have cs0 := alloc_cell w1 (.slice A_s0 N_s0 C_s0) 39
  have ls0 := alloc_lt w1 (.cells #[.slice A_s0 N_s0 C_s0] 39)
  go_wp2_with fail
  refine (parityMatrix_own a b _ (ht.below hB h0) (by have := hB.size; omega)).mono ?_
  rintro e w2 ⟨g0, g0vs, rfl, og0, k2⟩
  obtain ⟨A_g0, N_g0, C_g0, rfl⟩ := og0.isSlice
  have s2 := k2.size
  replace hB := k2.base hB (by omega) (by omega)
  replace os0 := os0.keep k2 (by omega)
  replace cs0 := box_keep cs0 ls0 k2 (by omega)
  replace ls0 := Nat.lt_of_lt_of_le ls0 (k2).size
  have a2 := turn_alloc w2 (.cells #[.slice A_g0 N_g0 C_g0] 39)
  have z2a := World.size_alloc w2 (.cells #[.slice A_g0 N_g0 C_g0] 39)
  replace hB := a2.base hB (by omega) (by omega)
  replace os0 := os0.keep a2 (by omega)
  replace og0 := og0.keep a2 (by omega)
  replace cs0 := box_keep cs0 ls0 a2 (by omega)
  replace ls0 := Nat.lt_of_lt_of_le ls0 (a2).size
  have cg0 := alloc_cell w2 (.slice A_g0 N_g0 C_g0) 39
  have lg0 := alloc_lt w2 (.cells #[.slice A_g0 N_g0 C_g0] 39)
  go_wp2_with fail
  refine (eqMatrix_same _ _ (prmR a b) _ og0.seen os0.seen).mono ?_
  rintro e w3 ⟨rfl, k3⟩
  have s3 := k3.size
  replace hB := k3.base hB (by omega) (by omega)
  replace os0 := os0.keep k3 (by omega)
  replace og0 := og0.keep k3 (by omega)
  replace cs0 := box_keep cs0 ls0 k3 (by omega)
  replace ls0 := Nat.lt_of_lt_of_le ls0 (k3).size
  replace cg0 := box_keep cg0 lg0 k3 (by omega)
  replace lg0 := Nat.lt_of_lt_of_le lg0 (k3).size
  have hk0 : ¬ (1 : Int) < 0 := by omega
  obtain ⟨r0, hr0⟩ : ∃ zz : Nat, zz = 1 + sizM (prmR a b) := ⟨_, rfl⟩
  have HR0 := Lib.hid hr0
  clear hr0
  have hrb0 : r0 ≤ 100000000 := by have := prmR_siz a b; rw [HR0.out]; omega
  go_wp2_with fail
  refine (markMatrix_own _ (prmR a b) _ 1 _ _ _ og0 (by rw [← HR0.out]; omega)).mono ?_
  rintro e w4 ⟨he, og0, k4⟩
  have s4 := k4.size
  replace hB := k4.base hB (by omega) (by omega)
  replace os0 := os0.keep k4 (by omega)
  replace cs0 := box_keep cs0 ls0 k4 (by omega)
  replace ls0 := Nat.lt_of_lt_of_le ls0 (k4).size
  replace cg0 := box_keep cg0 lg0 k4 (by omega)
  replace lg0 := Nat.lt_of_lt_of_le lg0 (k4).size
  rw [← HR0.out] at he
  subst he
  go_wp2_with fail
  refine (heldMatrix_own _ (prmR a b) 1 _ og0.seen (by rw [← HR0.out]; omega)).mono ?_
  rintro e w5 ⟨he, k5⟩
  have s5 := k5.size
  replace hB := k5.base hB (by omega) (by omega)
  replace os0 := os0.keep k5 (by omega)
  replace og0 := og0.keep k5 (by omega)
  replace cs0 := box_keep cs0 ls0 k5 (by omega)
  replace ls0 := Nat.lt_of_lt_of_le ls0 (k5).size
  replace cg0 := box_keep cg0 lg0 k5 (by omega)
  replace lg0 := Nat.lt_of_lt_of_le lg0 (k5).size
  rw [← HR0.out] at he
  subst he
  have hq0 : ¬ (r0 : Int) < 0 := by omega
  have hqq : ((r0 : Int) != (r0 : Int)) = false := by simp
  go_wp2_with fail
  refine (parityMatrix_own a b _ (ht.below hB h0) (by have := hB.size; omega)).mono ?_
  rintro e w6 ⟨h0, h0vs, rfl, oh0, k6⟩
  obtain ⟨A_h0, N_h0, C_h0, rfl⟩ := oh0.isSlice
  have s6 := k6.size
  replace hB := k6.base hB (by omega) (by omega)
  replace os0 := os0.keep k6 (by omega)
  replace og0 := og0.keep k6 (by omega)
  replace cs0 := box_keep cs0 ls0 k6 (by omega)
  replace ls0 := Nat.lt_of_lt_of_le ls0 (k6).size
  replace cg0 := box_keep cg0 lg0 k6 (by omega)
  replace lg0 := Nat.lt_of_lt_of_le lg0 (k6).size
  have a3 := turn_alloc w6 (.cells #[.slice A_h0 N_h0 C_h0] 39)
  have z3a := World.size_alloc w6 (.cells #[.slice A_h0 N_h0 C_h0] 39)
  replace hB := a3.base hB (by omega) (by omega)
  replace os0 := os0.keep a3 (by omega)
  replace og0 := og0.keep a3 (by omega)
  replace oh0 := oh0.keep a3 (by omega)
  replace cs0 := box_keep cs0 ls0 a3 (by omega)
  replace ls0 := Nat.lt_of_lt_of_le ls0 (a3).size
  replace cg0 := box_keep cg0 lg0 a3 (by omega)
  replace lg0 := Nat.lt_of_lt_of_le lg0 (a3).size
  have ch0 := alloc_cell w6 (.slice A_h0 N_h0 C_h0) 39
  have lh0 := alloc_lt w6 (.cells #[.slice A_h0 N_h0 C_h0] 39)
  go_wp2_with fail
  refine (eqMatrix_same _ _ (prmR a b) _ oh0.seen os0.seen).mono ?_
  rintro e w7 ⟨rfl, k7⟩
  have s7 := k7.size
  replace hB := k7.base hB (by omega) (by omega)
  replace os0 := os0.keep k7 (by omega)
  replace og0 := og0.keep k7 (by omega)
  replace oh0 := oh0.keep k7 (by omega)
  replace cs0 := box_keep cs0 ls0 k7 (by omega)
  replace ls0 := Nat.lt_of_lt_of_le ls0 (k7).size
  replace cg0 := box_keep cg0 lg0 k7 (by omega)
  replace lg0 := Nat.lt_of_lt_of_le lg0 (k7).size
  replace ch0 := box_keep ch0 lh0 k7 (by omega)
  replace lh0 := Nat.lt_of_lt_of_le lh0 (k7).size
  go_wp2_with fail
  refine (heldMatrix_own _ (prmR a b) 1 _ og0.seen (by rw [← HR0.out]; omega)).mono ?_
  rintro e w8 ⟨he, k8⟩
  have s8 := k8.size
  replace hB := k8.base hB (by omega) (by omega)
  replace os0 := os0.keep k8 (by omega)
  replace og0 := og0.keep k8 (by omega)
  replace oh0 := oh0.keep k8 (by omega)
  replace cs0 := box_keep cs0 ls0 k8 (by omega)
  replace ls0 := Nat.lt_of_lt_of_le ls0 (k8).size
  replace cg0 := box_keep cg0 lg0 k8 (by omega)
  replace lg0 := Nat.lt_of_lt_of_le lg0 (k8).size
  replace ch0 := box_keep ch0 lh0 k8 (by omega)
  replace lh0 := Nat.lt_of_lt_of_le lh0 (k8).size
  rw [← HR0.out] at he
  subst he
  have hq0 : ¬ (r0 : Int) < 0 := by omega
  have hqq : ((r0 : Int) != (r0 : Int)) = false := by simp
  go_wp2_with fail
  go_ret
  exact ⟨rfl, hB⟩

set_option maxRecDepth 100000 in
theorem walk_FnExactParityMatrix : G294.LawWalk Tryd.prog 5 Tryd.f5 Rows.fnExactParityMatrixSpec.vars false (fun W => laidMetH Tryd.prog Rows.fnExactParityMatrixRow.laid W) := by
  intro H enc W base args ds gs before hval hW hX
  have hlt0 : ∀ p ∈ before, p.block < W.heap.size := fun p hp => hW.lt p hp
  obtain ⟨p, q, hA, hV, rfl, hfz, hnd⟩ := hW
  rw [Tryd.params5] at hA hval
  obtain ⟨u0, vs0, d0, ds0, p0, q0, hargs, rfl, rfl, t0, r0⟩ := trodAll_cons hA
  obtain ⟨u1, vs1, d1, ds1, p1, q1, rfl, rfl, rfl, t1, r1⟩ := trodAll_cons r0
  obtain ⟨rfl, rfl, rfl⟩ := trodAll_nil r1
  obtain rfl : args = #[u0, u1] := by cases args; simp_all
  obtain ⟨a0, rfl, rfl, rfl, wf0⟩ := open_int Tryd.underlying3 (hval 0 3 u0 rfl rfl) t0
  obtain ⟨a1, rfl, rfl, rfl, wf1⟩ := open_int Tryd.underlying3 (hval 1 3 u1 rfl rfl) t1
  obtain ⟨ht, hs⟩ := tab_of (by kernel_rfl) hX 0 rfl (by kernel_rfl)
  exact exactParityMatrix_walk a0 a1 W ht hs

end Go.Proofs.YtbopocpmodpfcaaDoor
