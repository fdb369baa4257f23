/- The walk of FnExactMessageOf. -/
import Derived.Test.YtlkoafnlklhaeaaRows
import Derived.Test.YtlkoafnlklhaeaaOpenArgs
import Derived.Test.YtlkoafnlklhaeaaOpenMsr
import Derived.Test.YtlkoafnlklhaeaaMatLaws
import Derived.Test.YtlkoafnlklhaeaaSpecMsg
import Derived.Test.YtlkoafnlklhaeaaBoxes
import Derived.Test.YtlkoafnlklhaeaaFrame
set_option linter.unusedSimpArgs false
set_option linter.unusedVariables false
namespace Go.Proofs.Ytlkoafnlklhaeaa
open Go.ChangeShapes Go.WideShapes Go.ChangeAt Go.RowKit G294

set_option maxRecDepth 100000 in
set_option maxHeartbeats 4000000 in
theorem exactMessageOf_walk (n k : Int) (v1 : Value) (l : List UInt8) (w : World) (hv1 : Seen w v1 (bys l)) :
    Calls Try.prog 5 #[.agg #[.int .i64 n, .int .i64 k], v1] w fun e w' => e = .returned (.bool true) ∧ Below w.heap.size w w' := by
  obtain ⟨A1, cc1, hvv1⟩ := hv1.len
  rw [bys_length] at hvv1
  have hbb1 : (msgOk n k l != msgOk n k l) = false := by simp
  have HVV1 := Lib.hid hvv1
  rw [hvv1] at hv1 ⊢
  clear hvv1
  have HV1 := Lib.hid hv1
  clear hv1
  obtain ⟨n1, hn1⟩ : ∃ zz, zz = l.length := ⟨_, rfl⟩
  have HN1 := Lib.hid hn1
  rw [← hn1] at HV1 ⊢
  clear hn1
  have hB := Below.refl w.heap.size w
  have a1 := turn_alloc w (.cells #[.int .i64 n, .int .i64 k] 23)
  have z1a := World.size_alloc w (.cells #[.int .i64 n, .int .i64 k] 23)
  replace hB := a1.base hB (by omega) (by omega)
  have cL00 := alloc_duo0 w (.int .i64 n) (.int .i64 k) 23
  have cL01 := alloc_duo1 w (.int .i64 n) (.int .i64 k) 23
  have lL0 := alloc_ltT w (.cells #[.int .i64 n, .int .i64 k] 23)
  by_cases hbig1 : 1048576 < n1
  · go_enter Try.func5, Try.ntmps5
    go_wp2_with fail
    go_ret
    exact ⟨rfl, hB⟩
  go_enter Try.func5, Try.ntmps5
  go_wp2_with fail
  refine (toMsr_any n k _).mono ?_
  rintro e w1 ⟨rfl, k1⟩
  have s1 := k1.size
  replace hB := k1.base hB (by omega) (by omega)
  replace cL00 := cell_keepT cL00 lL0 k1 (by omega)
  replace cL01 := cell_keepT cL01 lL0 k1 (by omega)
  replace lL0 := Nat.lt_of_lt_of_le lL0 (k1).size
  go_wp2_with fail
  refine (toByteS_own _ l _ (HV1.out.below hB) (by rw [← HN1.out]; omega)).mono ?_
  rintro e w2 ⟨ta1, rfl, ota1, k2⟩
  have s2 := k2.size
  replace hB := k2.base hB (by omega) (by omega)
  replace cL00 := cell_keepT cL00 lL0 k2 (by omega)
  replace cL01 := cell_keepT cL01 lL0 k2 (by omega)
  replace lL0 := Nat.lt_of_lt_of_le lL0 (k2).size
  go_wp2_with fail
  refine (sMessageOf_own n k _ l _ ota1.seen).mono ?_
  rintro e w3 ⟨s0, s0vs, rfl, os0, k3⟩
  obtain ⟨A_s0, N_s0, C_s0, rfl⟩ := os0.isSlice
  have s3 := k3.size
  replace hB := k3.base hB (by omega) (by omega)
  replace ota1 := ota1.keep k3 (by omega)
  replace cL00 := cell_keepT cL00 lL0 k3 (by omega)
  replace cL01 := cell_keepT cL01 lL0 k3 (by omega)
  replace lL0 := Nat.lt_of_lt_of_le lL0 (k3).size
  have a2 := turn_alloc w3 (.cells #[.slice A_s0 N_s0 C_s0] 33)
  have z2a := World.size_alloc w3 (.cells #[.slice A_s0 N_s0 C_s0] 33)
  replace hB := a2.base hB (by omega) (by omega)
  replace os0 := os0.keep a2 (by omega)
  replace cL00 := cell_keepT cL00 lL0 a2 (by omega)
  replace cL01 := cell_keepT cL01 lL0 a2 (by omega)
  replace lL0 := Nat.lt_of_lt_of_le lL0 (a2).size
  have cs0 := alloc_cell w3 (.slice A_s0 N_s0 C_s0) 33
  have ls0 := alloc_lt w3 (.cells #[.slice A_s0 N_s0 C_s0] 33)
  go_wp2_with fail
  refine (toByteS_own _ l _ (HV1.out.below hB) (by rw [← HN1.out]; omega)).mono ?_
  rintro e w4 ⟨x1, rfl, ox1, k4⟩
  have s4 := k4.size
  replace hB := k4.base hB (by omega) (by omega)
  replace os0 := os0.keep k4 (by omega)
  replace cs0 := box_keep cs0 ls0 k4 (by omega)
  replace ls0 := Nat.lt_of_lt_of_le ls0 (k4).size
  replace cL00 := cell_keepT cL00 lL0 k4 (by omega)
  replace cL01 := cell_keepT cL01 lL0 k4 (by omega)
  replace lL0 := Nat.lt_of_lt_of_le lL0 (k4).size
  go_wp2_with fail
  refine (toMsr_any n k _).mono ?_
  rintro e w5 ⟨rfl, k5⟩
  have s5 := k5.size
  replace hB := k5.base hB (by omega) (by omega)
  replace os0 := os0.keep k5 (by omega)
  replace ox1 := ox1.keep k5 (by omega)
  replace cs0 := box_keep cs0 ls0 k5 (by omega)
  replace ls0 := Nat.lt_of_lt_of_le ls0 (k5).size
  replace cL00 := cell_keepT cL00 lL0 k5 (by omega)
  replace cL01 := cell_keepT cL01 lL0 k5 (by omega)
  replace lL0 := Nat.lt_of_lt_of_le lL0 (k5).size
  go_wp2_with fail
  refine (messageOf_own n k _ l _ ox1.seen).mono ?_
  rintro e w6 ⟨g0, g0vs, rfl, og0, k6⟩
  obtain ⟨A_g0, N_g0, C_g0, rfl⟩ := og0.isSlice
  have s6 := k6.size
  replace hB := k6.base hB (by omega) (by omega)
  replace os0 := os0.keep k6 (by omega)
  replace ox1 := ox1.keep k6 (by omega)
  replace cs0 := box_keep cs0 ls0 k6 (by omega)
  replace ls0 := Nat.lt_of_lt_of_le ls0 (k6).size
  replace cL00 := cell_keepT cL00 lL0 k6 (by omega)
  replace cL01 := cell_keepT cL01 lL0 k6 (by omega)
  replace lL0 := Nat.lt_of_lt_of_le lL0 (k6).size
  have a3 := turn_alloc w6 (.cells #[.slice A_g0 N_g0 C_g0] 33)
  have z3a := World.size_alloc w6 (.cells #[.slice A_g0 N_g0 C_g0] 33)
  replace hB := a3.base hB (by omega) (by omega)
  replace os0 := os0.keep a3 (by omega)
  replace ox1 := ox1.keep a3 (by omega)
  replace og0 := og0.keep a3 (by omega)
  replace cs0 := box_keep cs0 ls0 a3 (by omega)
  replace ls0 := Nat.lt_of_lt_of_le ls0 (a3).size
  replace cL00 := cell_keepT cL00 lL0 a3 (by omega)
  replace cL01 := cell_keepT cL01 lL0 a3 (by omega)
  replace lL0 := Nat.lt_of_lt_of_le lL0 (a3).size
  have cg0 := alloc_cell w6 (.slice A_g0 N_g0 C_g0) 33
  have lg0 := alloc_lt w6 (.cells #[.slice A_g0 N_g0 C_g0] 33)
  go_wp2_with fail
  refine (eqMatrix_same _ _ (msgR n k l) _ og0.seen os0.seen).mono ?_
  rintro e w7 ⟨rfl, k7⟩
  have s7 := k7.size
  replace hB := k7.base hB (by omega) (by omega)
  replace os0 := os0.keep k7 (by omega)
  replace ox1 := ox1.keep k7 (by omega)
  replace og0 := og0.keep k7 (by omega)
  replace cs0 := box_keep cs0 ls0 k7 (by omega)
  replace ls0 := Nat.lt_of_lt_of_le ls0 (k7).size
  replace cg0 := box_keep cg0 lg0 k7 (by omega)
  replace lg0 := Nat.lt_of_lt_of_le lg0 (k7).size
  replace cL00 := cell_keepT cL00 lL0 k7 (by omega)
  replace cL01 := cell_keepT cL01 lL0 k7 (by omega)
  replace lL0 := Nat.lt_of_lt_of_le lL0 (k7).size
  go_wp2_with fail
  refine (toByteS_own _ l _ (HV1.out.below hB) (by rw [← HN1.out]; omega)).mono ?_
  rintro e w8 ⟨tb1, rfl, otb1, k8⟩
  have s8 := k8.size
  replace hB := k8.base hB (by omega) (by omega)
  replace os0 := os0.keep k8 (by omega)
  replace ox1 := ox1.keep k8 (by omega)
  replace og0 := og0.keep k8 (by omega)
  replace cs0 := box_keep cs0 ls0 k8 (by omega)
  replace ls0 := Nat.lt_of_lt_of_le ls0 (k8).size
  replace cg0 := box_keep cg0 lg0 k8 (by omega)
  replace lg0 := Nat.lt_of_lt_of_le lg0 (k8).size
  replace cL00 := cell_keepT cL00 lL0 k8 (by omega)
  replace cL01 := cell_keepT cL01 lL0 k8 (by omega)
  replace lL0 := Nat.lt_of_lt_of_le lL0 (k8).size
  go_wp2_with fail
  refine (eqByteS_same _ _ l _ ox1.seen otb1.seen).mono ?_
  rintro e w9 ⟨rfl, k9⟩
  have s9 := k9.size
  replace hB := k9.base hB (by omega) (by omega)
  replace os0 := os0.keep k9 (by omega)
  replace ox1 := ox1.keep k9 (by omega)
  replace og0 := og0.keep k9 (by omega)
  replace otb1 := otb1.keep k9 (by omega)
  replace cs0 := box_keep cs0 ls0 k9 (by omega)
  replace ls0 := Nat.lt_of_lt_of_le ls0 (k9).size
  replace cg0 := box_keep cg0 lg0 k9 (by omega)
  replace lg0 := Nat.lt_of_lt_of_le lg0 (k9).size
  replace cL00 := cell_keepT cL00 lL0 k9 (by omega)
  replace cL01 := cell_keepT cL01 lL0 k9 (by omega)
  replace lL0 := Nat.lt_of_lt_of_le lL0 (k9).size
  obtain ⟨m1, hm1⟩ : ∃ zz : Nat, zz = 1 + (l).length := ⟨_, rfl⟩
  have HM1 := Lib.hid hm1
  clear hm1
  have hmb1 : m1 ≤ 10000000 := by rw [HM1.out, ← HN1.out]; omega
  go_wp2_with fail
  refine (markByteS_own _ l 1 _ _ _ ox1 (by rw [← HM1.out]; omega)).mono ?_
  rintro e w10 ⟨he, ox1, k10⟩
  have s10 := k10.size
  replace hB := k10.base hB (by omega) (by omega)
  replace os0 := os0.keep k10 (by omega)
  replace og0 := og0.keep k10 (by omega)
  replace cs0 := box_keep cs0 ls0 k10 (by omega)
  replace ls0 := Nat.lt_of_lt_of_le ls0 (k10).size
  replace cg0 := box_keep cg0 lg0 k10 (by omega)
  replace lg0 := Nat.lt_of_lt_of_le lg0 (k10).size
  replace cL00 := cell_keepT cL00 lL0 k10 (by omega)
  replace cL01 := cell_keepT cL01 lL0 k10 (by omega)
  replace lL0 := Nat.lt_of_lt_of_le lL0 (k10).size
  rw [← HM1.out] at he
  subst he
  have hk0 : ¬ (m1 : Int) < 0 := by omega
  go_wp2_with fail
  refine (eqMatrix_same _ _ (msgR n k l) _ og0.seen os0.seen).mono ?_
  rintro e w11 ⟨rfl, k11⟩
  have s11 := k11.size
  replace hB := k11.base hB (by omega) (by omega)
  replace os0 := os0.keep k11 (by omega)
  replace og0 := og0.keep k11 (by omega)
  replace cs0 := box_keep cs0 ls0 k11 (by omega)
  replace ls0 := Nat.lt_of_lt_of_le ls0 (k11).size
  replace cg0 := box_keep cg0 lg0 k11 (by omega)
  replace lg0 := Nat.lt_of_lt_of_le lg0 (k11).size
  replace cL00 := cell_keepT cL00 lL0 k11 (by omega)
  replace cL01 := cell_keepT cL01 lL0 k11 (by omega)
  replace lL0 := Nat.lt_of_lt_of_le lL0 (k11).size
  obtain ⟨r0, hr0⟩ : ∃ zz : Nat, zz = 1 + sizM (msgR n k l) := ⟨_, rfl⟩
  have HR0 := Lib.hid hr0
  clear hr0
  have hrb0 : r0 ≤ 100000000 := by have := msgR_siz n k l; rw [HR0.out]; omega
  go_wp2_with fail
  refine (markMatrix_own _ (msgR n k l) _ 1 _ _ _ og0 (by rw [← HR0.out]; omega)).mono ?_
  rintro e w12 ⟨he, og0, k12⟩
  have s12 := k12.size
  replace hB := k12.base hB (by omega) (by omega)
  replace os0 := os0.keep k12 (by omega)
  replace cs0 := box_keep cs0 ls0 k12 (by omega)
  replace ls0 := Nat.lt_of_lt_of_le ls0 (k12).size
  replace cg0 := box_keep cg0 lg0 k12 (by omega)
  replace lg0 := Nat.lt_of_lt_of_le lg0 (k12).size
  replace cL00 := cell_keepT cL00 lL0 k12 (by omega)
  replace cL01 := cell_keepT cL01 lL0 k12 (by omega)
  replace lL0 := Nat.lt_of_lt_of_le lL0 (k12).size
  rw [← HR0.out] at he
  subst he
  go_wp2_with fail
  refine (heldMatrix_own _ (msgR n k l) 1 _ og0.seen (by rw [← HR0.out]; omega)).mono ?_
  rintro e w13 ⟨he, k13⟩
  have s13 := k13.size
  replace hB := k13.base hB (by omega) (by omega)
  replace os0 := os0.keep k13 (by omega)
  replace og0 := og0.keep k13 (by omega)
  replace cs0 := box_keep cs0 ls0 k13 (by omega)
  replace ls0 := Nat.lt_of_lt_of_le ls0 (k13).size
  replace cg0 := box_keep cg0 lg0 k13 (by omega)
  replace lg0 := Nat.lt_of_lt_of_le lg0 (k13).size
  replace cL00 := cell_keepT cL00 lL0 k13 (by omega)
  replace cL01 := cell_keepT cL01 lL0 k13 (by omega)
  replace lL0 := Nat.lt_of_lt_of_le lL0 (k13).size
  rw [← HR0.out] at he
  subst he
  have hq0 : ¬ (r0 : Int) < 0 := by omega
  have hqq : ((r0 : Int) != (r0 : Int)) = false := by simp
  go_wp2_with fail
  refine (toMsr_any n k _).mono ?_
  rintro e w14 ⟨rfl, k14⟩
  have s14 := k14.size
  replace hB := k14.base hB (by omega) (by omega)
  replace os0 := os0.keep k14 (by omega)
  replace og0 := og0.keep k14 (by omega)
  replace cs0 := box_keep cs0 ls0 k14 (by omega)
  replace ls0 := Nat.lt_of_lt_of_le ls0 (k14).size
  replace cg0 := box_keep cg0 lg0 k14 (by omega)
  replace lg0 := Nat.lt_of_lt_of_le lg0 (k14).size
  replace cL00 := cell_keepT cL00 lL0 k14 (by omega)
  replace cL01 := cell_keepT cL01 lL0 k14 (by omega)
  replace lL0 := Nat.lt_of_lt_of_le lL0 (k14).size
  go_wp2_with fail
  refine (toByteS_own _ l _ (HV1.out.below hB) (by rw [← HN1.out]; omega)).mono ?_
  rintro e w15 ⟨tc1, rfl, otc1, k15⟩
  have s15 := k15.size
  replace hB := k15.base hB (by omega) (by omega)
  replace os0 := os0.keep k15 (by omega)
  replace og0 := og0.keep k15 (by omega)
  replace cs0 := box_keep cs0 ls0 k15 (by omega)
  replace ls0 := Nat.lt_of_lt_of_le ls0 (k15).size
  replace cg0 := box_keep cg0 lg0 k15 (by omega)
  replace lg0 := Nat.lt_of_lt_of_le lg0 (k15).size
  replace cL00 := cell_keepT cL00 lL0 k15 (by omega)
  replace cL01 := cell_keepT cL01 lL0 k15 (by omega)
  replace lL0 := Nat.lt_of_lt_of_le lL0 (k15).size
  go_wp2_with fail
  refine (messageOf_own n k _ l _ otc1.seen).mono ?_
  rintro e w16 ⟨h0, h0vs, rfl, oh0, k16⟩
  obtain ⟨A_h0, N_h0, C_h0, rfl⟩ := oh0.isSlice
  have s16 := k16.size
  replace hB := k16.base hB (by omega) (by omega)
  replace os0 := os0.keep k16 (by omega)
  replace og0 := og0.keep k16 (by omega)
  replace otc1 := otc1.keep k16 (by omega)
  replace cs0 := box_keep cs0 ls0 k16 (by omega)
  replace ls0 := Nat.lt_of_lt_of_le ls0 (k16).size
  replace cg0 := box_keep cg0 lg0 k16 (by omega)
  replace lg0 := Nat.lt_of_lt_of_le lg0 (k16).size
  replace cL00 := cell_keepT cL00 lL0 k16 (by omega)
  replace cL01 := cell_keepT cL01 lL0 k16 (by omega)
  replace lL0 := Nat.lt_of_lt_of_le lL0 (k16).size
  have a4 := turn_alloc w16 (.cells #[.slice A_h0 N_h0 C_h0] 33)
  have z4a := World.size_alloc w16 (.cells #[.slice A_h0 N_h0 C_h0] 33)
  replace hB := a4.base hB (by omega) (by omega)
  replace os0 := os0.keep a4 (by omega)
  replace og0 := og0.keep a4 (by omega)
  replace oh0 := oh0.keep a4 (by omega)
  replace cs0 := box_keep cs0 ls0 a4 (by omega)
  replace ls0 := Nat.lt_of_lt_of_le ls0 (a4).size
  replace cg0 := box_keep cg0 lg0 a4 (by omega)
  replace lg0 := Nat.lt_of_lt_of_le lg0 (a4).size
  replace cL00 := cell_keepT cL00 lL0 a4 (by omega)
  replace cL01 := cell_keepT cL01 lL0 a4 (by omega)
  replace lL0 := Nat.lt_of_lt_of_le lL0 (a4).size
  have ch0 := alloc_cell w16 (.slice A_h0 N_h0 C_h0) 33
  have lh0 := alloc_lt w16 (.cells #[.slice A_h0 N_h0 C_h0] 33)
  go_wp2_with fail
  refine (eqMatrix_same _ _ (msgR n k l) _ oh0.seen os0.seen).mono ?_
  rintro e w17 ⟨rfl, k17⟩
  have s17 := k17.size
  replace hB := k17.base hB (by omega) (by omega)
  replace os0 := os0.keep k17 (by omega)
  replace og0 := og0.keep k17 (by omega)
  replace oh0 := oh0.keep k17 (by omega)
  replace cs0 := box_keep cs0 ls0 k17 (by omega)
  replace ls0 := Nat.lt_of_lt_of_le ls0 (k17).size
  replace cg0 := box_keep cg0 lg0 k17 (by omega)
  replace lg0 := Nat.lt_of_lt_of_le lg0 (k17).size
  replace ch0 := box_keep ch0 lh0 k17 (by omega)
  replace lh0 := Nat.lt_of_lt_of_le lh0 (k17).size
  replace cL00 := cell_keepT cL00 lL0 k17 (by omega)
  replace cL01 := cell_keepT cL01 lL0 k17 (by omega)
  replace lL0 := Nat.lt_of_lt_of_le lL0 (k17).size
  go_wp2_with fail
  refine (heldMatrix_own _ (msgR n k l) 1 _ og0.seen (by rw [← HR0.out]; omega)).mono ?_
  rintro e w18 ⟨he, k18⟩
  have s18 := k18.size
  replace hB := k18.base hB (by omega) (by omega)
  replace os0 := os0.keep k18 (by omega)
  replace og0 := og0.keep k18 (by omega)
  replace oh0 := oh0.keep k18 (by omega)
  replace cs0 := box_keep cs0 ls0 k18 (by omega)
  replace ls0 := Nat.lt_of_lt_of_le ls0 (k18).size
  replace cg0 := box_keep cg0 lg0 k18 (by omega)
  replace lg0 := Nat.lt_of_lt_of_le lg0 (k18).size
  replace ch0 := box_keep ch0 lh0 k18 (by omega)
  replace lh0 := Nat.lt_of_lt_of_le lh0 (k18).size
  replace cL00 := cell_keepT cL00 lL0 k18 (by omega)
  replace cL01 := cell_keepT cL01 lL0 k18 (by omega)
  replace lL0 := Nat.lt_of_lt_of_le lL0 (k18).size
  rw [← HR0.out] at he
  subst he
  have hq0 : ¬ (r0 : Int) < 0 := by omega
  have hqq : ((r0 : Int) != (r0 : Int)) = false := by simp
  go_wp2_with fail
  go_ret
  exact ⟨rfl, hB⟩

set_option maxRecDepth 100000 in
theorem walk_FnExactMessageOf : G294.LawWalk Try.prog 5 Try.f5 Rows.fnExactMessageOfSpec.vars false (fun _ => True) := by
  intro H enc W base args ds gs before hval hW hX
  have hlt0 : ∀ p ∈ before, p.block < W.heap.size := fun p hp => hW.lt p hp
  obtain ⟨p, q, hA, hV, rfl, hfz, hnd⟩ := hW
  rw [Try.params5] at hA hval
  obtain ⟨u0, vs0, d0, ds0, p0, q0, hargs, rfl, rfl, t0, r0⟩ := trodAll_cons hA
  obtain ⟨u1, vs1, d1, ds1, p1, q1, rfl, rfl, rfl, t1, r1⟩ := trodAll_cons r0
  obtain ⟨rfl, rfl, rfl⟩ := trodAll_nil r1
  obtain rfl : args = #[u0, u1] := by cases args; simp_all
  obtain ⟨g0, e0, rfl⟩ := open_two Try.underlying23 (by kernel_rfl) (by kernel_rfl) Try.underlying3 Try.underlying3 (hval 0 23 u0 rfl rfl) t0
  obtain ⟨l1, sn1⟩ := seen_bytes Try.underlying30 Try.underlying5 (by kernel_rfl) (hval 1 30 u1 rfl rfl) t1 (fun x hx => hlt0 x (by simp [hx]))
  exact exactMessageOf_walk g0 e0 u1 l1 W sn1

end Go.Proofs.Ytlkoafnlklhaeaa
