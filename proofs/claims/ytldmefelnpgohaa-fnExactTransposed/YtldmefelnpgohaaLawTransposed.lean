/- The walk of FnExactTransposed. -/
import Derived.Test.YtldmefelnpgohaaRows
import Derived.Test.YtldmefelnpgohaaOpenMats
import Derived.Test.YtldmefelnpgohaaMatArgs
import Derived.Test.YtldmefelnpgohaaSpecTrans
import Derived.Test.YtldmefelnpgohaaBoxes
set_option linter.unusedSimpArgs false
set_option linter.unusedVariables false
namespace Go.Proofs.Ytldmefelnpgohaa
open Go.ChangeShapes Go.WideShapes Go.ChangeAt Go.RowKit G294

set_option maxRecDepth 100000 in
set_option maxHeartbeats 4000000 in
theorem exactTransposed_walk (v0 : Value) (l : Mat) (w : World) (hv0 : SeenM w v0 l) :
    Calls Try.prog 7 #[.agg #[v0]] w fun e w' => e = .returned (.bool true) ∧ Below w.heap.size w w' := by
  obtain ⟨A0, cc0, hvv0, _, _⟩ := hv0.len
  have hbb1 : (goodM l != goodM l) = false := by simp
  have HVV0 := Lib.hid hvv0
  rw [hvv0] at hv0 ⊢
  clear hvv0
  have HV0 := Lib.hid hv0
  clear hv0
  obtain ⟨z0, hz0⟩ : ∃ zz, zz = (l).length + sizM (l) := ⟨_, rfl⟩
  have HZ0 := Lib.hid hz0
  clear hz0
  have hB := Below.refl w.heap.size w
  have a1 := turn_alloc w (.cells #[.slice A0 (l).length cc0] 24)
  have z1a := World.size_alloc w (.cells #[.slice A0 (l).length cc0] 24)
  replace hB := a1.base hB (by omega) (by omega)
  have ca0 := alloc_cell w (.slice A0 (l).length cc0) 24
  have la0 := alloc_lt w (.cells #[.slice A0 (l).length cc0] 24)
  go_enter Try.func7, Try.ntmps7
  by_cases hbz0 : 1048576 < z0
  · go_wp2_with fail
    refine (szMatrix_no _ l (1048576) _ (HV0.out.below hB) (by rw [← HZ0.out]; omega)).mono ?_
    rintro e w1 ⟨rfl, k1⟩
    have s1 := k1.size
    replace hB := k1.base hB (by omega) (by omega)
    replace ca0 := box_keep ca0 la0 k1 (by omega)
    replace la0 := Nat.lt_of_lt_of_le la0 (k1).size
    go_wp2_with fail
    go_ret
    exact ⟨rfl, hB⟩
  go_wp2_with fail
  refine (szMatrix_yes _ l (1048576) _ (HV0.out.below hB) (by rw [← HZ0.out]; omega) (by omega)).mono ?_
  rintro e w1 ⟨he, k1⟩
  have s1 := k1.size
  replace hB := k1.base hB (by omega) (by omega)
  replace ca0 := box_keep ca0 la0 k1 (by omega)
  replace la0 := Nat.lt_of_lt_of_le la0 (k1).size
  rw [← HZ0.out] at he
  obtain ⟨left0, hleft0⟩ : ∃ zz : Nat, zz = 1048576 - z0 := ⟨_, rfl⟩
  have HL0 := Lib.hid hleft0
  rw [← hleft0] at he
  have hlb0 : left0 ≤ 1048576 := by omega
  clear hleft0
  subst he
  have hln0 : ¬ (left0 : Int) < 0 := by omega
  go_wp2_with fail
  refine (toMatrix_own _ l _ (HV0.out.below hB) (by rw [← HZ0.out]; omega)).mono ?_
  rintro e w2 ⟨ta0, ta0vs, rfl, ota0, k2⟩
  obtain ⟨A_ta0, N_ta0, C_ta0, rfl⟩ := ota0.isSlice
  have s2 := k2.size
  replace hB := k2.base hB (by omega) (by omega)
  replace ca0 := box_keep ca0 la0 k2 (by omega)
  replace la0 := Nat.lt_of_lt_of_le la0 (k2).size
  go_wp2_with fail
  refine (sTransposed_own _ l _ ota0.seen).mono ?_
  rintro e w3 ⟨s0, s0vs, rfl, os0, k3⟩
  obtain ⟨A_s0, N_s0, C_s0, rfl⟩ := os0.isSlice
  have s3 := k3.size
  replace hB := k3.base hB (by omega) (by omega)
  replace ota0 := ota0.keep k3 (by omega)
  replace ca0 := box_keep ca0 la0 k3 (by omega)
  replace la0 := Nat.lt_of_lt_of_le la0 (k3).size
  have a2 := turn_alloc w3 (.cells #[.slice A_s0 N_s0 C_s0] 27)
  have z2a := World.size_alloc w3 (.cells #[.slice A_s0 N_s0 C_s0] 27)
  replace hB := a2.base hB (by omega) (by omega)
  replace os0 := os0.keep a2 (by omega)
  replace ca0 := box_keep ca0 la0 a2 (by omega)
  replace la0 := Nat.lt_of_lt_of_le la0 (a2).size
  have cs0 := alloc_cell w3 (.slice A_s0 N_s0 C_s0) 27
  have ls0 := alloc_lt w3 (.cells #[.slice A_s0 N_s0 C_s0] 27)
  go_wp2_with fail
  refine (toMatrix_own _ l _ (HV0.out.below hB) (by rw [← HZ0.out]; omega)).mono ?_
  rintro e w4 ⟨x0, x0vs, rfl, ox0, k4⟩
  obtain ⟨A_x0, N_x0, C_x0, rfl⟩ := ox0.isSlice
  have s4 := k4.size
  replace hB := k4.base hB (by omega) (by omega)
  replace os0 := os0.keep k4 (by omega)
  replace ca0 := box_keep ca0 la0 k4 (by omega)
  replace la0 := Nat.lt_of_lt_of_le la0 (k4).size
  replace cs0 := box_keep cs0 ls0 k4 (by omega)
  replace ls0 := Nat.lt_of_lt_of_le ls0 (k4).size
  have a3 := turn_alloc w4 (.cells #[.slice A_x0 N_x0 C_x0] 27)
  have z3a := World.size_alloc w4 (.cells #[.slice A_x0 N_x0 C_x0] 27)
  replace hB := a3.base hB (by omega) (by omega)
  replace os0 := os0.keep a3 (by omega)
  replace ox0 := ox0.keep a3 (by omega)
  replace ca0 := box_keep ca0 la0 a3 (by omega)
  replace la0 := Nat.lt_of_lt_of_le la0 (a3).size
  replace cs0 := box_keep cs0 ls0 a3 (by omega)
  replace ls0 := Nat.lt_of_lt_of_le ls0 (a3).size
  have cx0 := alloc_cell w4 (.slice A_x0 N_x0 C_x0) 27
  have lx0 := alloc_lt w4 (.cells #[.slice A_x0 N_x0 C_x0] 27)
  go_wp2_with fail
  refine (transposed_own _ l _ ox0.seen).mono ?_
  rintro e w5 ⟨g0, g0vs, rfl, og0, k5⟩
  obtain ⟨A_g0, N_g0, C_g0, rfl⟩ := og0.isSlice
  have s5 := k5.size
  replace hB := k5.base hB (by omega) (by omega)
  replace os0 := os0.keep k5 (by omega)
  replace ox0 := ox0.keep k5 (by omega)
  replace ca0 := box_keep ca0 la0 k5 (by omega)
  replace la0 := Nat.lt_of_lt_of_le la0 (k5).size
  replace cs0 := box_keep cs0 ls0 k5 (by omega)
  replace ls0 := Nat.lt_of_lt_of_le ls0 (k5).size
  replace cx0 := box_keep cx0 lx0 k5 (by omega)
  replace lx0 := Nat.lt_of_lt_of_le lx0 (k5).size
  have a4 := turn_alloc w5 (.cells #[.slice A_g0 N_g0 C_g0] 27)
  have z4a := World.size_alloc w5 (.cells #[.slice A_g0 N_g0 C_g0] 27)
  replace hB := a4.base hB (by omega) (by omega)
  replace os0 := os0.keep a4 (by omega)
  replace ox0 := ox0.keep a4 (by omega)
  replace og0 := og0.keep a4 (by omega)
  replace ca0 := box_keep ca0 la0 a4 (by omega)
  replace la0 := Nat.lt_of_lt_of_le la0 (a4).size
  replace cs0 := box_keep cs0 ls0 a4 (by omega)
  replace ls0 := Nat.lt_of_lt_of_le ls0 (a4).size
  replace cx0 := box_keep cx0 lx0 a4 (by omega)
  replace lx0 := Nat.lt_of_lt_of_le lx0 (a4).size
  have cg0 := alloc_cell w5 (.slice A_g0 N_g0 C_g0) 27
  have lg0 := alloc_lt w5 (.cells #[.slice A_g0 N_g0 C_g0] 27)
  go_wp2_with fail
  refine (eqMatrix_same _ _ (transR l) _ og0.seen os0.seen).mono ?_
  rintro e w6 ⟨rfl, k6⟩
  have s6 := k6.size
  replace hB := k6.base hB (by omega) (by omega)
  replace os0 := os0.keep k6 (by omega)
  replace ox0 := ox0.keep k6 (by omega)
  replace og0 := og0.keep k6 (by omega)
  replace ca0 := box_keep ca0 la0 k6 (by omega)
  replace la0 := Nat.lt_of_lt_of_le la0 (k6).size
  replace cs0 := box_keep cs0 ls0 k6 (by omega)
  replace ls0 := Nat.lt_of_lt_of_le ls0 (k6).size
  replace cx0 := box_keep cx0 lx0 k6 (by omega)
  replace lx0 := Nat.lt_of_lt_of_le lx0 (k6).size
  replace cg0 := box_keep cg0 lg0 k6 (by omega)
  replace lg0 := Nat.lt_of_lt_of_le lg0 (k6).size
  go_wp2_with fail
  go_region_held3 (fun w' => w'.cell? ⟨w4.heap.size, 0, none⟩ = some (.slice A_x0 N_x0 C_x0) ∧ w'.cell? ⟨w.heap.size, 0, none⟩ = some (.slice A0 (l).length cc0))
    (first | exact ⟨cx0, ca0⟩)
    (first | (go_at_call 13; refine (toMatrix_own _ l (World.drew w6) (HV0.out.below hB.drew) (by rw [← HZ0.out]; omega)).mono ?_; rintro e w7 ⟨tb0, tb0vs, rfl, otb0, k7⟩; obtain ⟨A_tb0, N_tb0, C_tb0, rfl⟩ := otb0.isSlice; replace k7 := undrew k7; have s7 := k7.size; replace hB := k7.base hB (by omega) (by omega); replace os0 := os0.keep k7 (by omega); replace ox0 := ox0.keep k7 (by omega); replace og0 := og0.keep k7 (by omega); replace ca0 := box_keep ca0 la0 k7 (by omega); replace la0 := Nat.lt_of_lt_of_le la0 (k7).size; replace cs0 := box_keep cs0 ls0 k7 (by omega); replace ls0 := Nat.lt_of_lt_of_le ls0 (k7).size; replace cx0 := box_keep cx0 lx0 k7 (by omega); replace lx0 := Nat.lt_of_lt_of_le lx0 (k7).size; replace cg0 := box_keep cg0 lg0 k7 (by omega); replace lg0 := Nat.lt_of_lt_of_le lg0 (k7).size) | (go_at_call 15; refine (eqMatrix_same _ _ l _ ox0.seen otb0.seen).mono ?_; rintro e w8 ⟨rfl, k8⟩; have s8 := k8.size; replace hB := k8.base hB (by omega) (by omega); replace os0 := os0.keep k8 (by omega); replace ox0 := ox0.keep k8 (by omega); replace og0 := og0.keep k8 (by omega); replace otb0 := otb0.keep k8 (by omega); replace ca0 := box_keep ca0 la0 k8 (by omega); replace la0 := Nat.lt_of_lt_of_le la0 (k8).size; replace cs0 := box_keep cs0 ls0 k8 (by omega); replace ls0 := Nat.lt_of_lt_of_le ls0 (k8).size; replace cx0 := box_keep cx0 lx0 k8 (by omega); replace lx0 := Nat.lt_of_lt_of_le lx0 (k8).size; replace cg0 := box_keep cg0 lg0 k8 (by omega); replace lg0 := Nat.lt_of_lt_of_le lg0 (k8).size))
  obtain ⟨m0, hm0⟩ : ∃ zz : Nat, zz = 1 + sizM (l) := ⟨_, rfl⟩
  have HM0 := Lib.hid hm0
  clear hm0
  have hmb0 : m0 ≤ 10000000 := by have hzz := HZ0.out; rw [HM0.out]; omega
  go_wp2_with fail
  refine (markMatrix_own _ l _ 1 _ _ _ ox0 (by rw [← HM0.out]; omega)).mono ?_
  rintro e w9 ⟨he, ox0, k9⟩
  have s9 := k9.size
  replace hB := k9.base hB (by omega) (by omega)
  replace os0 := os0.keep k9 (by omega)
  replace og0 := og0.keep k9 (by omega)
  replace ca0 := box_keep ca0 la0 k9 (by omega)
  replace la0 := Nat.lt_of_lt_of_le la0 (k9).size
  replace cs0 := box_keep cs0 ls0 k9 (by omega)
  replace ls0 := Nat.lt_of_lt_of_le ls0 (k9).size
  replace cx0 := box_keep cx0 lx0 k9 (by omega)
  replace lx0 := Nat.lt_of_lt_of_le lx0 (k9).size
  replace cg0 := box_keep cg0 lg0 k9 (by omega)
  replace lg0 := Nat.lt_of_lt_of_le lg0 (k9).size
  rw [← HM0.out] at he
  subst he
  have hk0 : ¬ (m0 : Int) < 0 := by omega
  go_wp2_with fail
  refine (eqMatrix_same _ _ (transR l) _ og0.seen os0.seen).mono ?_
  rintro e w10 ⟨rfl, k10⟩
  have s10 := k10.size
  replace hB := k10.base hB (by omega) (by omega)
  replace os0 := os0.keep k10 (by omega)
  replace og0 := og0.keep k10 (by omega)
  replace ca0 := box_keep ca0 la0 k10 (by omega)
  replace la0 := Nat.lt_of_lt_of_le la0 (k10).size
  replace cs0 := box_keep cs0 ls0 k10 (by omega)
  replace ls0 := Nat.lt_of_lt_of_le ls0 (k10).size
  replace cx0 := box_keep cx0 lx0 k10 (by omega)
  replace lx0 := Nat.lt_of_lt_of_le lx0 (k10).size
  replace cg0 := box_keep cg0 lg0 k10 (by omega)
  replace lg0 := Nat.lt_of_lt_of_le lg0 (k10).size
  obtain ⟨r0, hr0⟩ : ∃ zz : Nat, zz = 1 + sizM (transR l) := ⟨_, rfl⟩
  have HR0 := Lib.hid hr0
  clear hr0
  have hrb0 : r0 ≤ 100000000 := by have := transR_siz l; rw [HR0.out]; omega
  go_wp2_with fail
  refine (markMatrix_own _ (transR l) _ 1 _ _ _ og0 (by rw [← HR0.out]; omega)).mono ?_
  rintro e w11 ⟨he, og0, k11⟩
  have s11 := k11.size
  replace hB := k11.base hB (by omega) (by omega)
  replace os0 := os0.keep k11 (by omega)
  replace ca0 := box_keep ca0 la0 k11 (by omega)
  replace la0 := Nat.lt_of_lt_of_le la0 (k11).size
  replace cs0 := box_keep cs0 ls0 k11 (by omega)
  replace ls0 := Nat.lt_of_lt_of_le ls0 (k11).size
  replace cx0 := box_keep cx0 lx0 k11 (by omega)
  replace lx0 := Nat.lt_of_lt_of_le lx0 (k11).size
  replace cg0 := box_keep cg0 lg0 k11 (by omega)
  replace lg0 := Nat.lt_of_lt_of_le lg0 (k11).size
  rw [← HR0.out] at he
  subst he
  go_wp2_with fail
  refine (heldMatrix_own _ (transR l) 1 _ og0.seen (by rw [← HR0.out]; omega)).mono ?_
  rintro e w12 ⟨he, k12⟩
  have s12 := k12.size
  replace hB := k12.base hB (by omega) (by omega)
  replace os0 := os0.keep k12 (by omega)
  replace og0 := og0.keep k12 (by omega)
  replace ca0 := box_keep ca0 la0 k12 (by omega)
  replace la0 := Nat.lt_of_lt_of_le la0 (k12).size
  replace cs0 := box_keep cs0 ls0 k12 (by omega)
  replace ls0 := Nat.lt_of_lt_of_le ls0 (k12).size
  replace cx0 := box_keep cx0 lx0 k12 (by omega)
  replace lx0 := Nat.lt_of_lt_of_le lx0 (k12).size
  replace cg0 := box_keep cg0 lg0 k12 (by omega)
  replace lg0 := Nat.lt_of_lt_of_le lg0 (k12).size
  rw [← HR0.out] at he
  subst he
  have hq0 : ¬ (r0 : Int) < 0 := by omega
  have hqq : ((r0 : Int) != (r0 : Int)) = false := by simp
  go_wp2_with fail
  refine (toMatrix_own _ l _ (HV0.out.below hB) (by rw [← HZ0.out]; omega)).mono ?_
  rintro e w13 ⟨tc0, tc0vs, rfl, otc0, k13⟩
  obtain ⟨A_tc0, N_tc0, C_tc0, rfl⟩ := otc0.isSlice
  have s13 := k13.size
  replace hB := k13.base hB (by omega) (by omega)
  replace os0 := os0.keep k13 (by omega)
  replace og0 := og0.keep k13 (by omega)
  replace ca0 := box_keep ca0 la0 k13 (by omega)
  replace la0 := Nat.lt_of_lt_of_le la0 (k13).size
  replace cs0 := box_keep cs0 ls0 k13 (by omega)
  replace ls0 := Nat.lt_of_lt_of_le ls0 (k13).size
  replace cx0 := box_keep cx0 lx0 k13 (by omega)
  replace lx0 := Nat.lt_of_lt_of_le lx0 (k13).size
  replace cg0 := box_keep cg0 lg0 k13 (by omega)
  replace lg0 := Nat.lt_of_lt_of_le lg0 (k13).size
  go_wp2_with fail
  refine (transposed_own _ l _ otc0.seen).mono ?_
  rintro e w14 ⟨h0, h0vs, rfl, oh0, k14⟩
  obtain ⟨A_h0, N_h0, C_h0, rfl⟩ := oh0.isSlice
  have s14 := k14.size
  replace hB := k14.base hB (by omega) (by omega)
  replace os0 := os0.keep k14 (by omega)
  replace og0 := og0.keep k14 (by omega)
  replace otc0 := otc0.keep k14 (by omega)
  replace ca0 := box_keep ca0 la0 k14 (by omega)
  replace la0 := Nat.lt_of_lt_of_le la0 (k14).size
  replace cs0 := box_keep cs0 ls0 k14 (by omega)
  replace ls0 := Nat.lt_of_lt_of_le ls0 (k14).size
  replace cx0 := box_keep cx0 lx0 k14 (by omega)
  replace lx0 := Nat.lt_of_lt_of_le lx0 (k14).size
  replace cg0 := box_keep cg0 lg0 k14 (by omega)
  replace lg0 := Nat.lt_of_lt_of_le lg0 (k14).size
  have a5 := turn_alloc w14 (.cells #[.slice A_h0 N_h0 C_h0] 27)
  have z5a := World.size_alloc w14 (.cells #[.slice A_h0 N_h0 C_h0] 27)
  replace hB := a5.base hB (by omega) (by omega)
  replace os0 := os0.keep a5 (by omega)
  replace og0 := og0.keep a5 (by omega)
  replace oh0 := oh0.keep a5 (by omega)
  replace ca0 := box_keep ca0 la0 a5 (by omega)
  replace la0 := Nat.lt_of_lt_of_le la0 (a5).size
  replace cs0 := box_keep cs0 ls0 a5 (by omega)
  replace ls0 := Nat.lt_of_lt_of_le ls0 (a5).size
  replace cx0 := box_keep cx0 lx0 a5 (by omega)
  replace lx0 := Nat.lt_of_lt_of_le lx0 (a5).size
  replace cg0 := box_keep cg0 lg0 a5 (by omega)
  replace lg0 := Nat.lt_of_lt_of_le lg0 (a5).size
  have ch0 := alloc_cell w14 (.slice A_h0 N_h0 C_h0) 27
  have lh0 := alloc_lt w14 (.cells #[.slice A_h0 N_h0 C_h0] 27)
  go_wp2_with fail
  refine (eqMatrix_same _ _ (transR l) _ oh0.seen os0.seen).mono ?_
  rintro e w15 ⟨rfl, k15⟩
  have s15 := k15.size
  replace hB := k15.base hB (by omega) (by omega)
  replace os0 := os0.keep k15 (by omega)
  replace og0 := og0.keep k15 (by omega)
  replace oh0 := oh0.keep k15 (by omega)
  replace ca0 := box_keep ca0 la0 k15 (by omega)
  replace la0 := Nat.lt_of_lt_of_le la0 (k15).size
  replace cs0 := box_keep cs0 ls0 k15 (by omega)
  replace ls0 := Nat.lt_of_lt_of_le ls0 (k15).size
  replace cx0 := box_keep cx0 lx0 k15 (by omega)
  replace lx0 := Nat.lt_of_lt_of_le lx0 (k15).size
  replace cg0 := box_keep cg0 lg0 k15 (by omega)
  replace lg0 := Nat.lt_of_lt_of_le lg0 (k15).size
  replace ch0 := box_keep ch0 lh0 k15 (by omega)
  replace lh0 := Nat.lt_of_lt_of_le lh0 (k15).size
  go_wp2_with fail
  refine (heldMatrix_own _ (transR l) 1 _ og0.seen (by rw [← HR0.out]; omega)).mono ?_
  rintro e w16 ⟨he, k16⟩
  have s16 := k16.size
  replace hB := k16.base hB (by omega) (by omega)
  replace os0 := os0.keep k16 (by omega)
  replace og0 := og0.keep k16 (by omega)
  replace oh0 := oh0.keep k16 (by omega)
  replace ca0 := box_keep ca0 la0 k16 (by omega)
  replace la0 := Nat.lt_of_lt_of_le la0 (k16).size
  replace cs0 := box_keep cs0 ls0 k16 (by omega)
  replace ls0 := Nat.lt_of_lt_of_le ls0 (k16).size
  replace cx0 := box_keep cx0 lx0 k16 (by omega)
  replace lx0 := Nat.lt_of_lt_of_le lx0 (k16).size
  replace cg0 := box_keep cg0 lg0 k16 (by omega)
  replace lg0 := Nat.lt_of_lt_of_le lg0 (k16).size
  replace ch0 := box_keep ch0 lh0 k16 (by omega)
  replace lh0 := Nat.lt_of_lt_of_le lh0 (k16).size
  rw [← HR0.out] at he
  subst he
  have hq0 : ¬ (r0 : Int) < 0 := by omega
  have hqq : ((r0 : Int) != (r0 : Int)) = false := by simp
  go_wp2_with fail
  go_ret
  exact ⟨rfl, hB⟩

set_option maxRecDepth 100000 in
theorem walk_FnExactTransposed : G294.LawWalk Try.prog 7 Try.f7 Rows.fnExactTransposedSpec.vars false (fun _ => True) := by
  intro H enc W base args ds gs before hval hW hX
  have hlt0 : ∀ p ∈ before, p.block < W.heap.size := fun p hp => hW.lt p hp
  obtain ⟨p, q, hA, hV, rfl, hfz, hnd⟩ := hW
  rw [Try.params7] at hA hval
  obtain ⟨u0, vs0, d0, ds0, p0, q0, hargs, rfl, rfl, t0, r0⟩ := trodAll_cons hA
  obtain ⟨rfl, rfl, rfl⟩ := trodAll_nil r0
  obtain rfl : args = #[u0] := by cases args; simp_all
  obtain ⟨y0, l0, rfl, sn0⟩ := seen_matrix (hval 0 24 u0 rfl rfl) t0 (fun x hx => hlt0 x (by simp [hx]))
  exact exactTransposed_walk y0 l0 W sn0

end Go.Proofs.Ytldmefelnpgohaa
