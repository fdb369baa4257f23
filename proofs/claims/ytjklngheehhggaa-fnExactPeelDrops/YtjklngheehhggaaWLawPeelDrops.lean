/- The walk of FnExactPeelDrops. -/
import Derived.Test.YtjklngheehhggaaRows
import Derived.Deep.RegionHeld3
import Derived.Deep.CutRange
import Derived.Test.YtjklngheehhggaaBd00
import Derived.Test.YtjklngheehhggaaBd11
import Derived.Test.YtjklngheehhggaaBd12
import Derived.Test.YtjklngheehhggaaBd15
import Derived.Test.YtjklngheehhggaaBd20
import Derived.Test.YtjklngheehhggaaBd21
set_option linter.unusedSimpArgs false
set_option linter.unusedVariables false
namespace Go.Proofs.Ytjklngheehhggaa
open Go.ChangeShapes Go.WideShapes Go.ChangeAt Go.RowKit G294

set_option maxRecDepth 100000 in
set_option maxHeartbeats 8000000 in
theorem exactPeelDrops_walk (v0 : Value) (l : List Sh) (b : Int) (w : World) (hv0 : SeenH w v0 l) (hmx0 : ∀ s ∈ l, s.2.length ≤ maxLen) :
    Calls Try.prog 4 #[v0, .int .i64 b] w fun e w' => e = .returned (.bool true) ∧ Below w.heap.size w w' := by
  have hbb1 : (pelOk l b != pelOk l b) = false := by simp
  have HV0 := Lib.hid hv0
  clear hv0
  obtain ⟨z0, hz0⟩ : ∃ zz, zz = l.length + sizH l := ⟨_, rfl⟩
  have HZ0 := Lib.hid hz0
  have hlu0 : l.length ≤ z0 := by omega
  clear hz0
  obtain ⟨n0, hn0⟩ : ∃ zz, zz = l.length := ⟨_, rfl⟩
  have HN0 := Lib.hid hn0
  rw [← hn0] at hlu0
  clear hn0
  have HMX0 := Lib.hid hmx0
  clear hmx0
  have hB := Below.refl w.heap.size w
  go_enter Try.func4, Try.ntmps4
  by_cases hbz0 : 1048576 < z0
  · go_wp2_with fail
    refine (szDropS_no _ l (1048576) _ (HV0.out.below hB) HMX0.out (by rw [← HZ0.out]; omega) (by omega)).mono ?_
    rintro e w1 ⟨rfl, k1⟩
    have s1 := k1.size
    replace hB := k1.base hB (by omega) (by omega)
    go_wp2_with fail
    go_ret
    exact ⟨rfl, hB⟩
  go_wp2_with fail
  refine (szDropS_yes _ l (1048576) _ (HV0.out.below hB) HMX0.out (by rw [← HZ0.out]; omega) (by omega)).mono ?_
  rintro e w1 ⟨he, k1⟩
  have s1 := k1.size
  replace hB := k1.base hB (by omega) (by omega)
  rw [← HZ0.out] at he
  obtain ⟨left0, hleft0⟩ : ∃ zz : Nat, zz = 1048576 - z0 := ⟨_, rfl⟩
  have HL0 := Lib.hid hleft0
  rw [← hleft0] at he
  have hlb0 : left0 ≤ 1048576 := by omega
  clear hleft0
  subst he
  have hln0 : ¬ (left0 : Int) < 0 := by omega
  go_wp2_with fail
  refine (toDropS_own _ l _ (HV0.out.below hB) (by rw [← HN0.out]; omega)).mono ?_
  rintro e w2 ⟨ta0, rfl, ota0, k2⟩
  have s2 := k2.size
  replace hB := k2.base hB (by omega) (by omega)
  go_wp2_with fail
  refine (sPeelDrops_own _ l b _ ota0.seen).mono ?_
  rintro e w3 ⟨s0, s0u, rfl, os0, k3⟩
  obtain ⟨A_s0, N_s0, C_s0, D_s0, M_s0, E_s0, rfl, rfl⟩ := os0.isSlice
  have s3 := k3.size
  replace hB := k3.base hB (by omega) (by omega)
  replace ota0 := ota0.keep k3 (by omega)
  have a1 := turn_alloc w3 (.cells #[.slice A_s0 N_s0 C_s0, .slice D_s0 M_s0 E_s0, .int .i64 (pelR l b).2.2] 33)
  have z1a := World.size_alloc w3 (.cells #[.slice A_s0 N_s0 C_s0, .slice D_s0 M_s0 E_s0, .int .i64 (pelR l b).2.2] 33)
  replace hB := a1.base hB (by omega) (by omega)
  replace os0 := os0.keep a1 (by omega)
  have cs0 := alloc_tri0 w3 (.slice A_s0 N_s0 C_s0) (.slice D_s0 M_s0 E_s0) (.int .i64 (pelR l b).2.2) 33
  have ds0 := alloc_tri1 w3 (.slice A_s0 N_s0 C_s0) (.slice D_s0 M_s0 E_s0) (.int .i64 (pelR l b).2.2) 33
  have es0 := alloc_tri2 w3 (.slice A_s0 N_s0 C_s0) (.slice D_s0 M_s0 E_s0) (.int .i64 (pelR l b).2.2) 33
  have ls0 := alloc_ltT w3 (.cells #[.slice A_s0 N_s0 C_s0, .slice D_s0 M_s0 E_s0, .int .i64 (pelR l b).2.2] 33)
  go_wp2_with fail
  refine (toDropS_own _ l _ (HV0.out.below hB) (by rw [← HN0.out]; omega)).mono ?_
  rintro e w4 ⟨x0, rfl, ox0, k4⟩
  have s4 := k4.size
  replace hB := k4.base hB (by omega) (by omega)
  replace os0 := os0.keep k4 (by omega)
  replace cs0 := cell_keepT cs0 ls0 k4 (by omega)
  replace ds0 := cell_keepT ds0 ls0 k4 (by omega)
  replace es0 := cell_keepT es0 ls0 k4 (by omega)
  replace ls0 := Nat.lt_of_lt_of_le ls0 (k4).size
  go_wp2_with fail
  refine (peelDrops_own _ l b _ ox0.seen).mono ?_
  rintro e w5 ⟨g0, g0u, rfl, og0, k5⟩
  obtain ⟨A_g0, N_g0, C_g0, D_g0, M_g0, E_g0, rfl, rfl⟩ := og0.isSlice
  have s5 := k5.size
  replace hB := k5.base hB (by omega) (by omega)
  replace os0 := os0.keep k5 (by omega)
  replace ox0 := ox0.keep k5 (by omega)
  replace cs0 := cell_keepT cs0 ls0 k5 (by omega)
  replace ds0 := cell_keepT ds0 ls0 k5 (by omega)
  replace es0 := cell_keepT es0 ls0 k5 (by omega)
  replace ls0 := Nat.lt_of_lt_of_le ls0 (k5).size
  have a2 := turn_alloc w5 (.cells #[.slice A_g0 N_g0 C_g0, .slice D_g0 M_g0 E_g0, .int .i64 (pelR l b).2.2] 33)
  have z2a := World.size_alloc w5 (.cells #[.slice A_g0 N_g0 C_g0, .slice D_g0 M_g0 E_g0, .int .i64 (pelR l b).2.2] 33)
  replace hB := a2.base hB (by omega) (by omega)
  replace os0 := os0.keep a2 (by omega)
  replace ox0 := ox0.keep a2 (by omega)
  replace og0 := og0.keep a2 (by omega)
  replace cs0 := cell_keepT cs0 ls0 a2 (by omega)
  replace ds0 := cell_keepT ds0 ls0 a2 (by omega)
  replace es0 := cell_keepT es0 ls0 a2 (by omega)
  replace ls0 := Nat.lt_of_lt_of_le ls0 (a2).size
  have cg0 := alloc_tri0 w5 (.slice A_g0 N_g0 C_g0) (.slice D_g0 M_g0 E_g0) (.int .i64 (pelR l b).2.2) 33
  have dg0 := alloc_tri1 w5 (.slice A_g0 N_g0 C_g0) (.slice D_g0 M_g0 E_g0) (.int .i64 (pelR l b).2.2) 33
  have eg0 := alloc_tri2 w5 (.slice A_g0 N_g0 C_g0) (.slice D_g0 M_g0 E_g0) (.int .i64 (pelR l b).2.2) 33
  have lg0 := alloc_ltT w5 (.cells #[.slice A_g0 N_g0 C_g0, .slice D_g0 M_g0 E_g0, .int .i64 (pelR l b).2.2] 33)
  go_wp2_with fail
  refine (eqPeel_same _ _ _ _ (pelR l b) _ og0.seen1 og0.seen2 os0.seen1 os0.seen2).mono ?_
  rintro e w6 ⟨rfl, k6⟩
  have s6 := k6.size
  replace hB := k6.base hB (by omega) (by omega)
  replace os0 := os0.keep k6 (by omega)
  replace ox0 := ox0.keep k6 (by omega)
  replace og0 := og0.keep k6 (by omega)
  replace cs0 := cell_keepT cs0 ls0 k6 (by omega)
  replace ds0 := cell_keepT ds0 ls0 k6 (by omega)
  replace es0 := cell_keepT es0 ls0 k6 (by omega)
  replace ls0 := Nat.lt_of_lt_of_le ls0 (k6).size
  replace cg0 := cell_keepT cg0 lg0 k6 (by omega)
  replace dg0 := cell_keepT dg0 lg0 k6 (by omega)
  replace eg0 := cell_keepT eg0 lg0 k6 (by omega)
  replace lg0 := Nat.lt_of_lt_of_le lg0 (k6).size
  go_wp2_with fail
  refine (toDropS_own _ l _ (HV0.out.below hB) (by rw [← HN0.out]; omega)).mono ?_
  rintro e w7 ⟨tb0, rfl, otb0, k7⟩
  have s7 := k7.size
  replace hB := k7.base hB (by omega) (by omega)
  replace os0 := os0.keep k7 (by omega)
  replace ox0 := ox0.keep k7 (by omega)
  replace og0 := og0.keep k7 (by omega)
  replace cs0 := cell_keepT cs0 ls0 k7 (by omega)
  replace ds0 := cell_keepT ds0 ls0 k7 (by omega)
  replace es0 := cell_keepT es0 ls0 k7 (by omega)
  replace ls0 := Nat.lt_of_lt_of_le ls0 (k7).size
  replace cg0 := cell_keepT cg0 lg0 k7 (by omega)
  replace dg0 := cell_keepT dg0 lg0 k7 (by omega)
  replace eg0 := cell_keepT eg0 lg0 k7 (by omega)
  replace lg0 := Nat.lt_of_lt_of_le lg0 (k7).size
  go_wp2_with fail
  refine (eqDropS_same _ _ l _ ox0.seen otb0.seen).mono ?_
  rintro e w8 ⟨rfl, k8⟩
  have s8 := k8.size
  replace hB := k8.base hB (by omega) (by omega)
  replace os0 := os0.keep k8 (by omega)
  replace ox0 := ox0.keep k8 (by omega)
  replace og0 := og0.keep k8 (by omega)
  replace otb0 := otb0.keep k8 (by omega)
  replace cs0 := cell_keepT cs0 ls0 k8 (by omega)
  replace ds0 := cell_keepT ds0 ls0 k8 (by omega)
  replace es0 := cell_keepT es0 ls0 k8 (by omega)
  replace ls0 := Nat.lt_of_lt_of_le ls0 (k8).size
  replace cg0 := cell_keepT cg0 lg0 k8 (by omega)
  replace dg0 := cell_keepT dg0 lg0 k8 (by omega)
  replace eg0 := cell_keepT eg0 lg0 k8 (by omega)
  replace lg0 := Nat.lt_of_lt_of_le lg0 (k8).size
  obtain ⟨m0, hm0⟩ : ∃ zz : Nat, zz = 1 + l.length * 2 := ⟨_, rfl⟩
  have HM0 := Lib.hid hm0
  clear hm0
  have hmb0 : m0 ≤ 10000000 := by rw [HM0.out, ← HN0.out]; omega
  have hmp0 : 1 ≤ m0 := by rw [HM0.out]; omega
  go_wp2_with fail
  refine (markDropS_own _ l 1 _ _ _ ox0 (by omega) (by rw [← HM0.out]; omega)).mono ?_
  rintro e w9 ⟨he, ox0, k9⟩
  have s9 := k9.size
  replace hB := k9.base hB (by omega) (by omega)
  replace os0 := os0.keep k9 (by omega)
  replace og0 := og0.keep k9 (by omega)
  replace cs0 := cell_keepT cs0 ls0 k9 (by omega)
  replace ds0 := cell_keepT ds0 ls0 k9 (by omega)
  replace es0 := cell_keepT es0 ls0 k9 (by omega)
  replace ls0 := Nat.lt_of_lt_of_le ls0 (k9).size
  replace cg0 := cell_keepT cg0 lg0 k9 (by omega)
  replace dg0 := cell_keepT dg0 lg0 k9 (by omega)
  replace eg0 := cell_keepT eg0 lg0 k9 (by omega)
  replace lg0 := Nat.lt_of_lt_of_le lg0 (k9).size
  rw [← HM0.out] at he
  subst he
  have hk0 : ¬ (m0 : Int) < 0 := by omega
  go_wp2_with fail
  refine (eqPeel_same _ _ _ _ (pelR l b) _ og0.seen1 og0.seen2 os0.seen1 os0.seen2).mono ?_
  rintro e w10 ⟨rfl, k10⟩
  have s10 := k10.size
  replace hB := k10.base hB (by omega) (by omega)
  replace os0 := os0.keep k10 (by omega)
  replace og0 := og0.keep k10 (by omega)
  replace cs0 := cell_keepT cs0 ls0 k10 (by omega)
  replace ds0 := cell_keepT ds0 ls0 k10 (by omega)
  replace es0 := cell_keepT es0 ls0 k10 (by omega)
  replace ls0 := Nat.lt_of_lt_of_le ls0 (k10).size
  replace cg0 := cell_keepT cg0 lg0 k10 (by omega)
  replace dg0 := cell_keepT dg0 lg0 k10 (by omega)
  replace eg0 := cell_keepT eg0 lg0 k10 (by omega)
  replace lg0 := Nat.lt_of_lt_of_le lg0 (k10).size
  obtain ⟨r0, hr0⟩ : ∃ zz : Nat, zz = 1 + ((pelR l b).1.length + (pelR l b).2.1.length) := ⟨_, rfl⟩
  have HR0 := Lib.hid hr0
  clear hr0
  have hrb0 : r0 ≤ 100000000 := by have := pelR_len l b; rw [HR0.out]; omega
  go_wp2_with fail
  refine (markPeel_own _ _ (pelR l b) 1 _ _ _ og0 (by omega) (by rw [← HR0.out]; omega)).mono ?_
  rintro e w11 ⟨he, og0, k11⟩
  have s11 := k11.size
  replace hB := k11.base hB (by omega) (by omega)
  replace os0 := os0.keep k11 (by omega)
  replace cs0 := cell_keepT cs0 ls0 k11 (by omega)
  replace ds0 := cell_keepT ds0 ls0 k11 (by omega)
  replace es0 := cell_keepT es0 ls0 k11 (by omega)
  replace ls0 := Nat.lt_of_lt_of_le ls0 (k11).size
  replace cg0 := cell_keepT cg0 lg0 k11 (by omega)
  replace dg0 := cell_keepT dg0 lg0 k11 (by omega)
  replace eg0 := cell_keepT eg0 lg0 k11 (by omega)
  replace lg0 := Nat.lt_of_lt_of_le lg0 (k11).size
  rw [← HR0.out] at he
  subst he
  go_wp2_with fail
  refine (heldPeel_own _ _ 1 (pelR l b).1.length (pelR l b).2.1.length _ _ og0.seen1 og0.seen2 (by omega) (by rw [← HR0.out]; omega)).mono ?_
  rintro e w12 ⟨he, k12⟩
  have s12 := k12.size
  replace hB := k12.base hB (by omega) (by omega)
  replace os0 := os0.keep k12 (by omega)
  replace og0 := og0.keep k12 (by omega)
  replace cs0 := cell_keepT cs0 ls0 k12 (by omega)
  replace ds0 := cell_keepT ds0 ls0 k12 (by omega)
  replace es0 := cell_keepT es0 ls0 k12 (by omega)
  replace ls0 := Nat.lt_of_lt_of_le ls0 (k12).size
  replace cg0 := cell_keepT cg0 lg0 k12 (by omega)
  replace dg0 := cell_keepT dg0 lg0 k12 (by omega)
  replace eg0 := cell_keepT eg0 lg0 k12 (by omega)
  replace lg0 := Nat.lt_of_lt_of_le lg0 (k12).size
  rw [← HR0.out] at he
  subst he
  have hq0 : ¬ (r0 : Int) < 0 := by omega
  have hqq : ((r0 : Int) != (r0 : Int)) = false := by simp
  go_wp2_with fail
  refine (toDropS_own _ l _ (HV0.out.below hB) (by rw [← HN0.out]; omega)).mono ?_
  rintro e w13 ⟨tc0, rfl, otc0, k13⟩
  have s13 := k13.size
  replace hB := k13.base hB (by omega) (by omega)
  replace os0 := os0.keep k13 (by omega)
  replace og0 := og0.keep k13 (by omega)
  replace cs0 := cell_keepT cs0 ls0 k13 (by omega)
  replace ds0 := cell_keepT ds0 ls0 k13 (by omega)
  replace es0 := cell_keepT es0 ls0 k13 (by omega)
  replace ls0 := Nat.lt_of_lt_of_le ls0 (k13).size
  replace cg0 := cell_keepT cg0 lg0 k13 (by omega)
  replace dg0 := cell_keepT dg0 lg0 k13 (by omega)
  replace eg0 := cell_keepT eg0 lg0 k13 (by omega)
  replace lg0 := Nat.lt_of_lt_of_le lg0 (k13).size
  go_wp2_with fail
  refine (peelDrops_own _ l b _ otc0.seen).mono ?_
  rintro e w14 ⟨h0, h0u, rfl, oh0, k14⟩
  obtain ⟨A_h0, N_h0, C_h0, D_h0, M_h0, E_h0, rfl, rfl⟩ := oh0.isSlice
  have s14 := k14.size
  replace hB := k14.base hB (by omega) (by omega)
  replace os0 := os0.keep k14 (by omega)
  replace og0 := og0.keep k14 (by omega)
  replace otc0 := otc0.keep k14 (by omega)
  replace cs0 := cell_keepT cs0 ls0 k14 (by omega)
  replace ds0 := cell_keepT ds0 ls0 k14 (by omega)
  replace es0 := cell_keepT es0 ls0 k14 (by omega)
  replace ls0 := Nat.lt_of_lt_of_le ls0 (k14).size
  replace cg0 := cell_keepT cg0 lg0 k14 (by omega)
  replace dg0 := cell_keepT dg0 lg0 k14 (by omega)
  replace eg0 := cell_keepT eg0 lg0 k14 (by omega)
  replace lg0 := Nat.lt_of_lt_of_le lg0 (k14).size
  have a3 := turn_alloc w14 (.cells #[.slice A_h0 N_h0 C_h0, .slice D_h0 M_h0 E_h0, .int .i64 (pelR l b).2.2] 33)
  have z3a := World.size_alloc w14 (.cells #[.slice A_h0 N_h0 C_h0, .slice D_h0 M_h0 E_h0, .int .i64 (pelR l b).2.2] 33)
  replace hB := a3.base hB (by omega) (by omega)
  replace os0 := os0.keep a3 (by omega)
  replace og0 := og0.keep a3 (by omega)
  replace oh0 := oh0.keep a3 (by omega)
  replace cs0 := cell_keepT cs0 ls0 a3 (by omega)
  replace ds0 := cell_keepT ds0 ls0 a3 (by omega)
  replace es0 := cell_keepT es0 ls0 a3 (by omega)
  replace ls0 := Nat.lt_of_lt_of_le ls0 (a3).size
  replace cg0 := cell_keepT cg0 lg0 a3 (by omega)
  replace dg0 := cell_keepT dg0 lg0 a3 (by omega)
  replace eg0 := cell_keepT eg0 lg0 a3 (by omega)
  replace lg0 := Nat.lt_of_lt_of_le lg0 (a3).size
  have ch0 := alloc_tri0 w14 (.slice A_h0 N_h0 C_h0) (.slice D_h0 M_h0 E_h0) (.int .i64 (pelR l b).2.2) 33
  have dh0 := alloc_tri1 w14 (.slice A_h0 N_h0 C_h0) (.slice D_h0 M_h0 E_h0) (.int .i64 (pelR l b).2.2) 33
  have eh0 := alloc_tri2 w14 (.slice A_h0 N_h0 C_h0) (.slice D_h0 M_h0 E_h0) (.int .i64 (pelR l b).2.2) 33
  have lh0 := alloc_ltT w14 (.cells #[.slice A_h0 N_h0 C_h0, .slice D_h0 M_h0 E_h0, .int .i64 (pelR l b).2.2] 33)
  go_wp2_with fail
  refine (eqPeel_same _ _ _ _ (pelR l b) _ oh0.seen1 oh0.seen2 os0.seen1 os0.seen2).mono ?_
  rintro e w15 ⟨rfl, k15⟩
  have s15 := k15.size
  replace hB := k15.base hB (by omega) (by omega)
  replace os0 := os0.keep k15 (by omega)
  replace og0 := og0.keep k15 (by omega)
  replace oh0 := oh0.keep k15 (by omega)
  replace cs0 := cell_keepT cs0 ls0 k15 (by omega)
  replace ds0 := cell_keepT ds0 ls0 k15 (by omega)
  replace es0 := cell_keepT es0 ls0 k15 (by omega)
  replace ls0 := Nat.lt_of_lt_of_le ls0 (k15).size
  replace cg0 := cell_keepT cg0 lg0 k15 (by omega)
  replace dg0 := cell_keepT dg0 lg0 k15 (by omega)
  replace eg0 := cell_keepT eg0 lg0 k15 (by omega)
  replace lg0 := Nat.lt_of_lt_of_le lg0 (k15).size
  replace ch0 := cell_keepT ch0 lh0 k15 (by omega)
  replace dh0 := cell_keepT dh0 lh0 k15 (by omega)
  replace eh0 := cell_keepT eh0 lh0 k15 (by omega)
  replace lh0 := Nat.lt_of_lt_of_le lh0 (k15).size
  go_wp2_with fail
  refine (heldPeel_own _ _ 1 (pelR l b).1.length (pelR l b).2.1.length _ _ og0.seen1 og0.seen2 (by omega) (by rw [← HR0.out]; omega)).mono ?_
  rintro e w16 ⟨he, k16⟩
  have s16 := k16.size
  replace hB := k16.base hB (by omega) (by omega)
  replace os0 := os0.keep k16 (by omega)
  replace og0 := og0.keep k16 (by omega)
  replace oh0 := oh0.keep k16 (by omega)
  replace cs0 := cell_keepT cs0 ls0 k16 (by omega)
  replace ds0 := cell_keepT ds0 ls0 k16 (by omega)
  replace es0 := cell_keepT es0 ls0 k16 (by omega)
  replace ls0 := Nat.lt_of_lt_of_le ls0 (k16).size
  replace cg0 := cell_keepT cg0 lg0 k16 (by omega)
  replace dg0 := cell_keepT dg0 lg0 k16 (by omega)
  replace eg0 := cell_keepT eg0 lg0 k16 (by omega)
  replace lg0 := Nat.lt_of_lt_of_le lg0 (k16).size
  replace ch0 := cell_keepT ch0 lh0 k16 (by omega)
  replace dh0 := cell_keepT dh0 lh0 k16 (by omega)
  replace eh0 := cell_keepT eh0 lh0 k16 (by omega)
  replace lh0 := Nat.lt_of_lt_of_le lh0 (k16).size
  rw [← HR0.out] at he
  subst he
  have hq0 : ¬ (r0 : Int) < 0 := by omega
  have hqq : ((r0 : Int) != (r0 : Int)) = false := by simp
  go_wp2_with fail
  go_ret
  exact ⟨rfl, hB⟩

set_option maxRecDepth 100000 in
theorem walk_FnExactPeelDrops : G294.LawWalk Try.prog 4 Try.f4 Rows.fnExactPeelDropsSpec.vars false (fun _ => True) := by
  intro H enc W base args ds gs before hval hW hX
  have hlt0 : ∀ p ∈ before, p.block < W.heap.size := fun p hp => hW.lt p hp
  obtain ⟨p, q, hA, hV, rfl, hfz, hnd⟩ := hW
  rw [Try.params4] at hA hval
  obtain ⟨u0, vs0, d0, ds0, p0, q0, hargs, rfl, rfl, t0, r0⟩ := trodAll_cons hA
  obtain ⟨u1, vs1, d1, ds1, p1, q1, rfl, rfl, rfl, t1, r1⟩ := trodAll_cons r0
  obtain ⟨rfl, rfl, rfl⟩ := trodAll_nil r1
  obtain rfl : args = #[u0, u1] := by cases args; simp_all
  obtain ⟨l0, sn0, mx0⟩ := seen_shs Try.underlying28 Try.underlying57 (by kernel_rfl) rfl rfl (by kernel_rfl) (by kernel_rfl) Try.underlying3 Try.underlying9 (hval 0 28 u0 rfl rfl) t0 (fun x hx => hlt0 x (by simp [hx]))
  obtain ⟨a1, rfl, rfl, rfl, wf1⟩ := open_int Try.underlying3 (hval 1 3 u1 rfl rfl) t1
  exact exactPeelDrops_walk u0 l0 a1 W sn0 mx0

end Go.Proofs.Ytjklngheehhggaa
