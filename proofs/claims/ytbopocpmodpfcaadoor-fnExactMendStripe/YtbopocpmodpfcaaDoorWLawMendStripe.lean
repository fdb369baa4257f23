/- The walk of FnExactMendStripe. -/
import Derived.Test.YtbopocpmodpfcaaDoorRows
import Derived.Deep.RegionHeld3
import Derived.Deep.CutRange
import Derived.Test.YtbopocpmodpfcaaDoorBd00
import Derived.Test.YtbopocpmodpfcaaDoorBd02
import Derived.Test.YtbopocpmodpfcaaDoorBd03
import Derived.Test.YtbopocpmodpfcaaDoorBd07
import Derived.Test.YtbopocpmodpfcaaDoorBd19
import Derived.Test.YtbopocpmodpfcaaDoorBd20
import Derived.Test.YtbopocpmodpfcaaDoorBd23
import Derived.Test.YtbopocpmodpfcaaDoorBd10
set_option linter.unusedSimpArgs false
set_option linter.unusedVariables false
namespace Go.Proofs.YtbopocpmodpfcaaDoor
open Go.ChangeShapes Go.WideShapes Go.ChangeAt Go.RowKit G294

set_option maxRecDepth 100000 in
set_option maxHeartbeats 8000000 in
theorem exactMendStripe_walk (v0 u0 : Value) (s : Strp) (v1 : Value) (l : List Int) (w : World) (hv0 : Seen w v0 (strs s.1)) (hu0 : Seen w u0 (strs s.2)) (hmx0 : ∀ t ∈ s.1, t.length ≤ maxLen) (hmy0 : ∀ t ∈ s.2, t.length ≤ maxLen) (hv1 : Seen w v1 (ints l)) (ht : Tab w) (h0 : 0 < w.heap.size) :
    Calls Tryd.prog 11 #[.agg #[v0, u0], v1] w fun e w' => e = .returned (.bool true) ∧ Below w.heap.size w w' := by
  have hbb1 : (mndOk s l != mndOk s l) = false := by simp
  obtain ⟨A0, cc0, hvv0⟩ := hv0.len
  rw [strs_length] at hvv0
  rw [hvv0] at hv0 ⊢
  clear hvv0
  have HV0 := Lib.hid hv0
  clear hv0
  obtain ⟨B0, dd0, huu0⟩ := hu0.len
  rw [strs_length] at huu0
  rw [huu0] at hu0 ⊢
  clear huu0
  have HU0 := Lib.hid hu0
  clear hu0
  have hle0 := totT_le s
  obtain ⟨z0, hz0⟩ : ∃ zz, zz = totT s := ⟨_, rfl⟩
  have HZ0 := Lib.hid hz0
  rw [← hz0] at hle0
  clear hz0
  obtain ⟨n0, hn0⟩ : ∃ zz, zz = s.1.length := ⟨_, rfl⟩
  have HN0 := Lib.hid hn0
  rw [← hn0] at HV0 hle0 ⊢
  clear hn0
  obtain ⟨p0, hp0⟩ : ∃ zz, zz = s.2.length := ⟨_, rfl⟩
  have HP0 := Lib.hid hp0
  rw [← hp0] at HU0 hle0 ⊢
  clear hp0
  obtain ⟨hlu0, hlv0⟩ := hle0
  have HMX0 := Lib.hid hmx0
  clear hmx0
  have HMY0 := Lib.hid hmy0
  clear hmy0
  obtain ⟨A1, cc1, hvv1⟩ := hv1.len
  rw [ints_length] at hvv1
  rw [hvv1] at hv1 ⊢
  clear hvv1
  have HV1 := Lib.hid hv1
  clear hv1
  obtain ⟨n1, hn1⟩ : ∃ zz, zz = l.length := ⟨_, rfl⟩
  have HN1 := Lib.hid hn1
  rw [← hn1] at HV1 ⊢
  clear hn1
  have hB := Below.refl w.heap.size w
  have a1 := turn_alloc w (.cells #[.slice A0 n0 cc0, .slice B0 p0 dd0] 58)
  have z1a := World.size_alloc w (.cells #[.slice A0 n0 cc0, .slice B0 p0 dd0] 58)
  replace hB := a1.base hB (by omega) (by omega)
  have ca0 := alloc_duo0 w (.slice A0 n0 cc0) (.slice B0 p0 dd0) 58
  have da0 := alloc_duo1 w (.slice A0 n0 cc0) (.slice B0 p0 dd0) 58
  have la0 := alloc_ltT w (.cells #[.slice A0 n0 cc0, .slice B0 p0 dd0] 58)
  by_cases hbig1 : 1048576 < n1
  · go_enter Tryd.func11, Tryd.ntmps11
    go_wp2_with fail
    go_ret
    exact ⟨rfl, hB⟩
  go_enter Tryd.func11, Tryd.ntmps11
  by_cases hbz0 : 1048576 < z0
  · go_wp2_with fail
    refine (szStripe_no _ _ s (1048576) _ (HV0.out.below hB) (HU0.out.below hB) HMX0.out HMY0.out (by rw [← HZ0.out]; omega) (by omega)).mono ?_
    rintro e w1 ⟨rfl, k1⟩
    have s1 := k1.size
    replace hB := k1.base hB (by omega) (by omega)
    replace ca0 := cell_keepT ca0 la0 k1 (by omega)
    replace da0 := cell_keepT da0 la0 k1 (by omega)
    replace la0 := Nat.lt_of_lt_of_le la0 (k1).size
    go_wp2_with fail
    go_ret
    exact ⟨rfl, hB⟩
  go_wp2_with fail
  refine (szStripe_yes _ _ s (1048576) _ (HV0.out.below hB) (HU0.out.below hB) HMX0.out HMY0.out (by rw [← HZ0.out]; omega) (by omega)).mono ?_
  rintro e w1 ⟨he, k1⟩
  have s1 := k1.size
  replace hB := k1.base hB (by omega) (by omega)
  replace ca0 := cell_keepT ca0 la0 k1 (by omega)
  replace da0 := cell_keepT da0 la0 k1 (by omega)
  replace la0 := Nat.lt_of_lt_of_le la0 (k1).size
  rw [← HZ0.out] at he
  obtain ⟨left0, hleft0⟩ : ∃ zz : Nat, zz = 1048576 - z0 := ⟨_, rfl⟩
  have HL0 := Lib.hid hleft0
  rw [← hleft0] at he
  have hlb0 : left0 ≤ 1048576 := by omega
  clear hleft0
  subst he
  have hln0 : ¬ (left0 : Int) < 0 := by omega
  go_wp2_with fail
  refine (toStripe_own _ _ s _ (HV0.out.below hB) (HU0.out.below hB) (by rw [← HN0.out]; omega) (by rw [← HP0.out]; omega)).mono ?_
  rintro e w2 ⟨ta0, ta0u, rfl, ota0, k2⟩
  obtain ⟨A_ta0, N_ta0, C_ta0, D_ta0, M_ta0, E_ta0, rfl, rfl⟩ := ota0.isSlice
  have s2 := k2.size
  replace hB := k2.base hB (by omega) (by omega)
  replace ca0 := cell_keepT ca0 la0 k2 (by omega)
  replace da0 := cell_keepT da0 la0 k2 (by omega)
  replace la0 := Nat.lt_of_lt_of_le la0 (k2).size
  go_wp2_with fail
  refine (toIntS_own _ l _ (HV1.out.below hB) (by rw [← HN1.out]; omega)).mono ?_
  rintro e w3 ⟨ta1, rfl, ota1, k3⟩
  have s3 := k3.size
  replace hB := k3.base hB (by omega) (by omega)
  replace ota0 := ota0.keep k3 (by omega)
  replace ca0 := cell_keepT ca0 la0 k3 (by omega)
  replace da0 := cell_keepT da0 la0 k3 (by omega)
  replace la0 := Nat.lt_of_lt_of_le la0 (k3).size
  go_wp2_with fail
  refine (sMendStripe_own s l _ _ _ _ ota0.seen1 ota0.seen2 ota1.seen).mono ?_
  rintro e w4 ⟨s0, s0u, rfl, os0, k4⟩
  obtain ⟨A_s0, N_s0, C_s0, D_s0, M_s0, E_s0, rfl, rfl⟩ := os0.isSlice
  have s4 := k4.size
  replace hB := k4.base hB (by omega) (by omega)
  replace ota0 := ota0.keep k4 (by omega)
  replace ota1 := ota1.keep k4 (by omega)
  replace ca0 := cell_keepT ca0 la0 k4 (by omega)
  replace da0 := cell_keepT da0 la0 k4 (by omega)
  replace la0 := Nat.lt_of_lt_of_le la0 (k4).size
  have a2 := turn_alloc w4 (.cells #[.slice A_s0 N_s0 C_s0, .slice D_s0 M_s0 E_s0] 25)
  have z2a := World.size_alloc w4 (.cells #[.slice A_s0 N_s0 C_s0, .slice D_s0 M_s0 E_s0] 25)
  replace hB := a2.base hB (by omega) (by omega)
  replace os0 := os0.keep a2 (by omega)
  replace ca0 := cell_keepT ca0 la0 a2 (by omega)
  replace da0 := cell_keepT da0 la0 a2 (by omega)
  replace la0 := Nat.lt_of_lt_of_le la0 (a2).size
  have cs0 := alloc_duo0 w4 (.slice A_s0 N_s0 C_s0) (.slice D_s0 M_s0 E_s0) 25
  have ds0 := alloc_duo1 w4 (.slice A_s0 N_s0 C_s0) (.slice D_s0 M_s0 E_s0) 25
  have ls0 := alloc_ltT w4 (.cells #[.slice A_s0 N_s0 C_s0, .slice D_s0 M_s0 E_s0] 25)
  go_wp2_with fail
  refine (toStripe_own _ _ s _ (HV0.out.below hB) (HU0.out.below hB) (by rw [← HN0.out]; omega) (by rw [← HP0.out]; omega)).mono ?_
  rintro e w5 ⟨x0, x0u, rfl, ox0, k5⟩
  obtain ⟨A_x0, N_x0, C_x0, D_x0, M_x0, E_x0, rfl, rfl⟩ := ox0.isSlice
  have s5 := k5.size
  replace hB := k5.base hB (by omega) (by omega)
  replace os0 := os0.keep k5 (by omega)
  replace ca0 := cell_keepT ca0 la0 k5 (by omega)
  replace da0 := cell_keepT da0 la0 k5 (by omega)
  replace la0 := Nat.lt_of_lt_of_le la0 (k5).size
  replace cs0 := cell_keepT cs0 ls0 k5 (by omega)
  replace ds0 := cell_keepT ds0 ls0 k5 (by omega)
  replace ls0 := Nat.lt_of_lt_of_le ls0 (k5).size
  have a3 := turn_alloc w5 (.cells #[.slice A_x0 N_x0 C_x0, .slice D_x0 M_x0 E_x0] 25)
  have z3a := World.size_alloc w5 (.cells #[.slice A_x0 N_x0 C_x0, .slice D_x0 M_x0 E_x0] 25)
  replace hB := a3.base hB (by omega) (by omega)
  replace os0 := os0.keep a3 (by omega)
  replace ox0 := ox0.keep a3 (by omega)
  replace ca0 := cell_keepT ca0 la0 a3 (by omega)
  replace da0 := cell_keepT da0 la0 a3 (by omega)
  replace la0 := Nat.lt_of_lt_of_le la0 (a3).size
  replace cs0 := cell_keepT cs0 ls0 a3 (by omega)
  replace ds0 := cell_keepT ds0 ls0 a3 (by omega)
  replace ls0 := Nat.lt_of_lt_of_le ls0 (a3).size
  have cx0 := alloc_duo0 w5 (.slice A_x0 N_x0 C_x0) (.slice D_x0 M_x0 E_x0) 25
  have dx0 := alloc_duo1 w5 (.slice A_x0 N_x0 C_x0) (.slice D_x0 M_x0 E_x0) 25
  have lx0 := alloc_ltT w5 (.cells #[.slice A_x0 N_x0 C_x0, .slice D_x0 M_x0 E_x0] 25)
  go_wp2_with fail
  refine (toIntS_own _ l _ (HV1.out.below hB) (by rw [← HN1.out]; omega)).mono ?_
  rintro e w6 ⟨x1, rfl, ox1, k6⟩
  have s6 := k6.size
  replace hB := k6.base hB (by omega) (by omega)
  replace os0 := os0.keep k6 (by omega)
  replace ox0 := ox0.keep k6 (by omega)
  replace ca0 := cell_keepT ca0 la0 k6 (by omega)
  replace da0 := cell_keepT da0 la0 k6 (by omega)
  replace la0 := Nat.lt_of_lt_of_le la0 (k6).size
  replace cs0 := cell_keepT cs0 ls0 k6 (by omega)
  replace ds0 := cell_keepT ds0 ls0 k6 (by omega)
  replace ls0 := Nat.lt_of_lt_of_le ls0 (k6).size
  replace cx0 := cell_keepT cx0 lx0 k6 (by omega)
  replace dx0 := cell_keepT dx0 lx0 k6 (by omega)
  replace lx0 := Nat.lt_of_lt_of_le lx0 (k6).size
  go_wp2_with fail
  refine (mendStripe_own s l _ _ _ _ ox0.seen1 ox0.seen2 ox1.seen (ht.below hB h0) (by have := hB.size; omega)).mono ?_
  rintro e w7 ⟨g0, g0u, rfl, og0, k7⟩
  obtain ⟨A_g0, N_g0, C_g0, D_g0, M_g0, E_g0, rfl, rfl⟩ := og0.isSlice
  have s7 := k7.size
  replace hB := k7.base hB (by omega) (by omega)
  replace os0 := os0.keep k7 (by omega)
  replace ox0 := ox0.keep k7 (by omega)
  replace ox1 := ox1.keep k7 (by omega)
  replace ca0 := cell_keepT ca0 la0 k7 (by omega)
  replace da0 := cell_keepT da0 la0 k7 (by omega)
  replace la0 := Nat.lt_of_lt_of_le la0 (k7).size
  replace cs0 := cell_keepT cs0 ls0 k7 (by omega)
  replace ds0 := cell_keepT ds0 ls0 k7 (by omega)
  replace ls0 := Nat.lt_of_lt_of_le ls0 (k7).size
  replace cx0 := cell_keepT cx0 lx0 k7 (by omega)
  replace dx0 := cell_keepT dx0 lx0 k7 (by omega)
  replace lx0 := Nat.lt_of_lt_of_le lx0 (k7).size
  have a4 := turn_alloc w7 (.cells #[.slice A_g0 N_g0 C_g0, .slice D_g0 M_g0 E_g0] 25)
  have z4a := World.size_alloc w7 (.cells #[.slice A_g0 N_g0 C_g0, .slice D_g0 M_g0 E_g0] 25)
  replace hB := a4.base hB (by omega) (by omega)
  replace os0 := os0.keep a4 (by omega)
  replace ox0 := ox0.keep a4 (by omega)
  replace ox1 := ox1.keep a4 (by omega)
  replace og0 := og0.keep a4 (by omega)
  replace ca0 := cell_keepT ca0 la0 a4 (by omega)
  replace da0 := cell_keepT da0 la0 a4 (by omega)
  replace la0 := Nat.lt_of_lt_of_le la0 (a4).size
  replace cs0 := cell_keepT cs0 ls0 a4 (by omega)
  replace ds0 := cell_keepT ds0 ls0 a4 (by omega)
  replace ls0 := Nat.lt_of_lt_of_le ls0 (a4).size
  replace cx0 := cell_keepT cx0 lx0 a4 (by omega)
  replace dx0 := cell_keepT dx0 lx0 a4 (by omega)
  replace lx0 := Nat.lt_of_lt_of_le lx0 (a4).size
  have cg0 := alloc_duo0 w7 (.slice A_g0 N_g0 C_g0) (.slice D_g0 M_g0 E_g0) 25
  have dg0 := alloc_duo1 w7 (.slice A_g0 N_g0 C_g0) (.slice D_g0 M_g0 E_g0) 25
  have lg0 := alloc_ltT w7 (.cells #[.slice A_g0 N_g0 C_g0, .slice D_g0 M_g0 E_g0] 25)
  go_wp2_with fail
  refine (eqStripe_same _ _ _ _ (mndR s l) _ og0.seen1 og0.seen2 os0.seen1 os0.seen2).mono ?_
  rintro e w8 ⟨rfl, k8⟩
  have s8 := k8.size
  replace hB := k8.base hB (by omega) (by omega)
  replace os0 := os0.keep k8 (by omega)
  replace ox0 := ox0.keep k8 (by omega)
  replace ox1 := ox1.keep k8 (by omega)
  replace og0 := og0.keep k8 (by omega)
  replace ca0 := cell_keepT ca0 la0 k8 (by omega)
  replace da0 := cell_keepT da0 la0 k8 (by omega)
  replace la0 := Nat.lt_of_lt_of_le la0 (k8).size
  replace cs0 := cell_keepT cs0 ls0 k8 (by omega)
  replace ds0 := cell_keepT ds0 ls0 k8 (by omega)
  replace ls0 := Nat.lt_of_lt_of_le ls0 (k8).size
  replace cx0 := cell_keepT cx0 lx0 k8 (by omega)
  replace dx0 := cell_keepT dx0 lx0 k8 (by omega)
  replace lx0 := Nat.lt_of_lt_of_le lx0 (k8).size
  replace cg0 := cell_keepT cg0 lg0 k8 (by omega)
  replace dg0 := cell_keepT dg0 lg0 k8 (by omega)
  replace lg0 := Nat.lt_of_lt_of_le lg0 (k8).size
  go_wp2_with fail
  go_region_held3 (fun w' => w'.cell? ⟨w5.heap.size, 0, none⟩ = some (.slice A_x0 N_x0 C_x0) ∧ w'.cell? ⟨w5.heap.size, 1, none⟩ = some (.slice D_x0 M_x0 E_x0) ∧ w'.cell? ⟨w.heap.size, 0, none⟩ = some (.slice A0 n0 cc0) ∧ w'.cell? ⟨w.heap.size, 1, none⟩ = some (.slice B0 p0 dd0))
    (first | exact ⟨cx0, dx0, ca0, da0⟩)
    (first | (go_at_call 44; refine (toStripe_own _ _ s (World.drew w8) (HV0.out.below hB.drew) (HU0.out.below hB.drew) (by rw [← HN0.out]; omega) (by rw [← HP0.out]; omega)).mono ?_; rintro e w9 ⟨tb0, tb0u, rfl, otb0, k9⟩; obtain ⟨A_tb0, N_tb0, C_tb0, D_tb0, M_tb0, E_tb0, rfl, rfl⟩ := otb0.isSlice; replace k9 := undrew k9; have s9 := k9.size; replace hB := k9.base hB (by omega) (by omega); replace os0 := os0.keep k9 (by omega); replace ox0 := ox0.keep k9 (by omega); replace ox1 := ox1.keep k9 (by omega); replace og0 := og0.keep k9 (by omega); replace ca0 := cell_keepT ca0 la0 k9 (by omega); replace da0 := cell_keepT da0 la0 k9 (by omega); replace la0 := Nat.lt_of_lt_of_le la0 (k9).size; replace cs0 := cell_keepT cs0 ls0 k9 (by omega); replace ds0 := cell_keepT ds0 ls0 k9 (by omega); replace ls0 := Nat.lt_of_lt_of_le ls0 (k9).size; replace cx0 := cell_keepT cx0 lx0 k9 (by omega); replace dx0 := cell_keepT dx0 lx0 k9 (by omega); replace lx0 := Nat.lt_of_lt_of_le lx0 (k9).size; replace cg0 := cell_keepT cg0 lg0 k9 (by omega); replace dg0 := cell_keepT dg0 lg0 k9 (by omega); replace lg0 := Nat.lt_of_lt_of_le lg0 (k9).size) | (go_at_call 38; refine (eqStripe_same _ _ _ _ s _ ox0.seen1 ox0.seen2 otb0.seen1 otb0.seen2).mono ?_; rintro e w10 ⟨rfl, k10⟩; have s10 := k10.size; replace hB := k10.base hB (by omega) (by omega); replace os0 := os0.keep k10 (by omega); replace ox0 := ox0.keep k10 (by omega); replace ox1 := ox1.keep k10 (by omega); replace og0 := og0.keep k10 (by omega); replace otb0 := otb0.keep k10 (by omega); replace ca0 := cell_keepT ca0 la0 k10 (by omega); replace da0 := cell_keepT da0 la0 k10 (by omega); replace la0 := Nat.lt_of_lt_of_le la0 (k10).size; replace cs0 := cell_keepT cs0 ls0 k10 (by omega); replace ds0 := cell_keepT ds0 ls0 k10 (by omega); replace ls0 := Nat.lt_of_lt_of_le ls0 (k10).size; replace cx0 := cell_keepT cx0 lx0 k10 (by omega); replace dx0 := cell_keepT dx0 lx0 k10 (by omega); replace lx0 := Nat.lt_of_lt_of_le lx0 (k10).size; replace cg0 := cell_keepT cg0 lg0 k10 (by omega); replace dg0 := cell_keepT dg0 lg0 k10 (by omega); replace lg0 := Nat.lt_of_lt_of_le lg0 (k10).size))
  go_wp2_with fail
  refine (toIntS_own _ l _ (HV1.out.below hB) (by rw [← HN1.out]; omega)).mono ?_
  rintro e w11 ⟨tb1, rfl, otb1, k11⟩
  have s11 := k11.size
  replace hB := k11.base hB (by omega) (by omega)
  replace os0 := os0.keep k11 (by omega)
  replace ox0 := ox0.keep k11 (by omega)
  replace ox1 := ox1.keep k11 (by omega)
  replace og0 := og0.keep k11 (by omega)
  replace ca0 := cell_keepT ca0 la0 k11 (by omega)
  replace da0 := cell_keepT da0 la0 k11 (by omega)
  replace la0 := Nat.lt_of_lt_of_le la0 (k11).size
  replace cs0 := cell_keepT cs0 ls0 k11 (by omega)
  replace ds0 := cell_keepT ds0 ls0 k11 (by omega)
  replace ls0 := Nat.lt_of_lt_of_le ls0 (k11).size
  replace cx0 := cell_keepT cx0 lx0 k11 (by omega)
  replace dx0 := cell_keepT dx0 lx0 k11 (by omega)
  replace lx0 := Nat.lt_of_lt_of_le lx0 (k11).size
  replace cg0 := cell_keepT cg0 lg0 k11 (by omega)
  replace dg0 := cell_keepT dg0 lg0 k11 (by omega)
  replace lg0 := Nat.lt_of_lt_of_le lg0 (k11).size
  go_wp2_with fail
  refine (eqIntS_same _ _ l _ ox1.seen otb1.seen).mono ?_
  rintro e w12 ⟨rfl, k12⟩
  have s12 := k12.size
  replace hB := k12.base hB (by omega) (by omega)
  replace os0 := os0.keep k12 (by omega)
  replace ox0 := ox0.keep k12 (by omega)
  replace ox1 := ox1.keep k12 (by omega)
  replace og0 := og0.keep k12 (by omega)
  replace otb1 := otb1.keep k12 (by omega)
  replace ca0 := cell_keepT ca0 la0 k12 (by omega)
  replace da0 := cell_keepT da0 la0 k12 (by omega)
  replace la0 := Nat.lt_of_lt_of_le la0 (k12).size
  replace cs0 := cell_keepT cs0 ls0 k12 (by omega)
  replace ds0 := cell_keepT ds0 ls0 k12 (by omega)
  replace ls0 := Nat.lt_of_lt_of_le ls0 (k12).size
  replace cx0 := cell_keepT cx0 lx0 k12 (by omega)
  replace dx0 := cell_keepT dx0 lx0 k12 (by omega)
  replace lx0 := Nat.lt_of_lt_of_le lx0 (k12).size
  replace cg0 := cell_keepT cg0 lg0 k12 (by omega)
  replace dg0 := cell_keepT dg0 lg0 k12 (by omega)
  replace lg0 := Nat.lt_of_lt_of_le lg0 (k12).size
  obtain ⟨m0, hm0⟩ : ∃ zz : Nat, zz = 1 + (s.1.length + s.2.length) := ⟨_, rfl⟩
  have HM0 := Lib.hid hm0
  clear hm0
  have hmb0 : m0 ≤ 10000000 := by rw [HM0.out, ← HN0.out, ← HP0.out]; omega
  have hmp0 : 1 ≤ m0 := by rw [HM0.out]; omega
  go_wp2_with fail
  refine (markStripe_own _ _ s 1 _ _ _ ox0 (by omega) (by rw [← HM0.out]; omega)).mono ?_
  rintro e w13 ⟨he, ox0, k13⟩
  have s13 := k13.size
  replace hB := k13.base hB (by omega) (by omega)
  replace os0 := os0.keep k13 (by omega)
  replace ox1 := ox1.keep k13 (by omega)
  replace og0 := og0.keep k13 (by omega)
  replace ca0 := cell_keepT ca0 la0 k13 (by omega)
  replace da0 := cell_keepT da0 la0 k13 (by omega)
  replace la0 := Nat.lt_of_lt_of_le la0 (k13).size
  replace cs0 := cell_keepT cs0 ls0 k13 (by omega)
  replace ds0 := cell_keepT ds0 ls0 k13 (by omega)
  replace ls0 := Nat.lt_of_lt_of_le ls0 (k13).size
  replace cx0 := cell_keepT cx0 lx0 k13 (by omega)
  replace dx0 := cell_keepT dx0 lx0 k13 (by omega)
  replace lx0 := Nat.lt_of_lt_of_le lx0 (k13).size
  replace cg0 := cell_keepT cg0 lg0 k13 (by omega)
  replace dg0 := cell_keepT dg0 lg0 k13 (by omega)
  replace lg0 := Nat.lt_of_lt_of_le lg0 (k13).size
  rw [← HM0.out] at he
  subst he
  obtain ⟨m1, hm1⟩ : ∃ zz : Nat, zz = m0 + l.length := ⟨_, rfl⟩
  have HM1 := Lib.hid hm1
  clear hm1
  have hmb1 : m1 ≤ 20000000 := by rw [HM1.out, ← HN1.out]; omega
  have hmp1 : 1 ≤ m1 := by rw [HM1.out]; omega
  go_wp2_with fail
  refine (markIntS_own _ l m0 _ _ _ ox1 (by rw [← HM1.out]; omega)).mono ?_
  rintro e w14 ⟨he, ox1, k14⟩
  have s14 := k14.size
  replace hB := k14.base hB (by omega) (by omega)
  replace os0 := os0.keep k14 (by omega)
  replace og0 := og0.keep k14 (by omega)
  replace ca0 := cell_keepT ca0 la0 k14 (by omega)
  replace da0 := cell_keepT da0 la0 k14 (by omega)
  replace la0 := Nat.lt_of_lt_of_le la0 (k14).size
  replace cs0 := cell_keepT cs0 ls0 k14 (by omega)
  replace ds0 := cell_keepT ds0 ls0 k14 (by omega)
  replace ls0 := Nat.lt_of_lt_of_le ls0 (k14).size
  replace cx0 := cell_keepT cx0 lx0 k14 (by omega)
  replace dx0 := cell_keepT dx0 lx0 k14 (by omega)
  replace lx0 := Nat.lt_of_lt_of_le lx0 (k14).size
  replace cg0 := cell_keepT cg0 lg0 k14 (by omega)
  replace dg0 := cell_keepT dg0 lg0 k14 (by omega)
  replace lg0 := Nat.lt_of_lt_of_le lg0 (k14).size
  rw [← HM1.out] at he
  subst he
  have hk0 : ¬ (m1 : Int) < 0 := by omega
  go_wp2_with fail
  refine (eqStripe_same _ _ _ _ (mndR s l) _ og0.seen1 og0.seen2 os0.seen1 os0.seen2).mono ?_
  rintro e w15 ⟨rfl, k15⟩
  have s15 := k15.size
  replace hB := k15.base hB (by omega) (by omega)
  replace os0 := os0.keep k15 (by omega)
  replace og0 := og0.keep k15 (by omega)
  replace ca0 := cell_keepT ca0 la0 k15 (by omega)
  replace da0 := cell_keepT da0 la0 k15 (by omega)
  replace la0 := Nat.lt_of_lt_of_le la0 (k15).size
  replace cs0 := cell_keepT cs0 ls0 k15 (by omega)
  replace ds0 := cell_keepT ds0 ls0 k15 (by omega)
  replace ls0 := Nat.lt_of_lt_of_le ls0 (k15).size
  replace cx0 := cell_keepT cx0 lx0 k15 (by omega)
  replace dx0 := cell_keepT dx0 lx0 k15 (by omega)
  replace lx0 := Nat.lt_of_lt_of_le lx0 (k15).size
  replace cg0 := cell_keepT cg0 lg0 k15 (by omega)
  replace dg0 := cell_keepT dg0 lg0 k15 (by omega)
  replace lg0 := Nat.lt_of_lt_of_le lg0 (k15).size
  obtain ⟨r0, hr0⟩ : ∃ zz : Nat, zz = 1 + ((mndR s l).1.length + (mndR s l).2.length) := ⟨_, rfl⟩
  have HR0 := Lib.hid hr0
  clear hr0
  have hrb0 : r0 ≤ 100000000 := by have := mndR_len s l; rw [HR0.out]; omega
  go_wp2_with fail
  refine (markStripe_own _ _ (mndR s l) 1 _ _ _ og0 (by omega) (by rw [← HR0.out]; omega)).mono ?_
  rintro e w16 ⟨he, og0, k16⟩
  have s16 := k16.size
  replace hB := k16.base hB (by omega) (by omega)
  replace os0 := os0.keep k16 (by omega)
  replace ca0 := cell_keepT ca0 la0 k16 (by omega)
  replace da0 := cell_keepT da0 la0 k16 (by omega)
  replace la0 := Nat.lt_of_lt_of_le la0 (k16).size
  replace cs0 := cell_keepT cs0 ls0 k16 (by omega)
  replace ds0 := cell_keepT ds0 ls0 k16 (by omega)
  replace ls0 := Nat.lt_of_lt_of_le ls0 (k16).size
  replace cx0 := cell_keepT cx0 lx0 k16 (by omega)
  replace dx0 := cell_keepT dx0 lx0 k16 (by omega)
  replace lx0 := Nat.lt_of_lt_of_le lx0 (k16).size
  replace cg0 := cell_keepT cg0 lg0 k16 (by omega)
  replace dg0 := cell_keepT dg0 lg0 k16 (by omega)
  replace lg0 := Nat.lt_of_lt_of_le lg0 (k16).size
  rw [← HR0.out] at he
  subst he
  go_wp2_with fail
  refine (heldStripe_own _ _ 1 (mndR s l).1.length (mndR s l).2.length _ og0.seen1 og0.seen2 (by omega) (by rw [← HR0.out]; omega)).mono ?_
  rintro e w17 ⟨he, k17⟩
  have s17 := k17.size
  replace hB := k17.base hB (by omega) (by omega)
  replace os0 := os0.keep k17 (by omega)
  replace og0 := og0.keep k17 (by omega)
  replace ca0 := cell_keepT ca0 la0 k17 (by omega)
  replace da0 := cell_keepT da0 la0 k17 (by omega)
  replace la0 := Nat.lt_of_lt_of_le la0 (k17).size
  replace cs0 := cell_keepT cs0 ls0 k17 (by omega)
  replace ds0 := cell_keepT ds0 ls0 k17 (by omega)
  replace ls0 := Nat.lt_of_lt_of_le ls0 (k17).size
  replace cx0 := cell_keepT cx0 lx0 k17 (by omega)
  replace dx0 := cell_keepT dx0 lx0 k17 (by omega)
  replace lx0 := Nat.lt_of_lt_of_le lx0 (k17).size
  replace cg0 := cell_keepT cg0 lg0 k17 (by omega)
  replace dg0 := cell_keepT dg0 lg0 k17 (by omega)
  replace lg0 := Nat.lt_of_lt_of_le lg0 (k17).size
  rw [← HR0.out] at he
  subst he
  have hq0 : ¬ (r0 : Int) < 0 := by omega
  have hqq : ((r0 : Int) != (r0 : Int)) = false := by simp
  go_wp2_with fail
  refine (toStripe_own _ _ s _ (HV0.out.below hB) (HU0.out.below hB) (by rw [← HN0.out]; omega) (by rw [← HP0.out]; omega)).mono ?_
  rintro e w18 ⟨tc0, tc0u, rfl, otc0, k18⟩
  obtain ⟨A_tc0, N_tc0, C_tc0, D_tc0, M_tc0, E_tc0, rfl, rfl⟩ := otc0.isSlice
  have s18 := k18.size
  replace hB := k18.base hB (by omega) (by omega)
  replace os0 := os0.keep k18 (by omega)
  replace og0 := og0.keep k18 (by omega)
  replace ca0 := cell_keepT ca0 la0 k18 (by omega)
  replace da0 := cell_keepT da0 la0 k18 (by omega)
  replace la0 := Nat.lt_of_lt_of_le la0 (k18).size
  replace cs0 := cell_keepT cs0 ls0 k18 (by omega)
  replace ds0 := cell_keepT ds0 ls0 k18 (by omega)
  replace ls0 := Nat.lt_of_lt_of_le ls0 (k18).size
  replace cx0 := cell_keepT cx0 lx0 k18 (by omega)
  replace dx0 := cell_keepT dx0 lx0 k18 (by omega)
  replace lx0 := Nat.lt_of_lt_of_le lx0 (k18).size
  replace cg0 := cell_keepT cg0 lg0 k18 (by omega)
  replace dg0 := cell_keepT dg0 lg0 k18 (by omega)
  replace lg0 := Nat.lt_of_lt_of_le lg0 (k18).size
  go_wp2_with fail
  refine (toIntS_own _ l _ (HV1.out.below hB) (by rw [← HN1.out]; omega)).mono ?_
  rintro e w19 ⟨tc1, rfl, otc1, k19⟩
  have s19 := k19.size
  replace hB := k19.base hB (by omega) (by omega)
  replace os0 := os0.keep k19 (by omega)
  replace og0 := og0.keep k19 (by omega)
  replace otc0 := otc0.keep k19 (by omega)
  replace ca0 := cell_keepT ca0 la0 k19 (by omega)
  replace da0 := cell_keepT da0 la0 k19 (by omega)
  replace la0 := Nat.lt_of_lt_of_le la0 (k19).size
  replace cs0 := cell_keepT cs0 ls0 k19 (by omega)
  replace ds0 := cell_keepT ds0 ls0 k19 (by omega)
  replace ls0 := Nat.lt_of_lt_of_le ls0 (k19).size
  replace cx0 := cell_keepT cx0 lx0 k19 (by omega)
  replace dx0 := cell_keepT dx0 lx0 k19 (by omega)
  replace lx0 := Nat.lt_of_lt_of_le lx0 (k19).size
  replace cg0 := cell_keepT cg0 lg0 k19 (by omega)
  replace dg0 := cell_keepT dg0 lg0 k19 (by omega)
  replace lg0 := Nat.lt_of_lt_of_le lg0 (k19).size
  go_wp2_with fail
  refine (mendStripe_own s l _ _ _ _ otc0.seen1 otc0.seen2 otc1.seen (ht.below hB h0) (by have := hB.size; omega)).mono ?_
  rintro e w20 ⟨h0, h0u, rfl, oh0, k20⟩
  obtain ⟨A_h0, N_h0, C_h0, D_h0, M_h0, E_h0, rfl, rfl⟩ := oh0.isSlice
  have s20 := k20.size
  replace hB := k20.base hB (by omega) (by omega)
  replace os0 := os0.keep k20 (by omega)
  replace og0 := og0.keep k20 (by omega)
  replace otc0 := otc0.keep k20 (by omega)
  replace otc1 := otc1.keep k20 (by omega)
  replace ca0 := cell_keepT ca0 la0 k20 (by omega)
  replace da0 := cell_keepT da0 la0 k20 (by omega)
  replace la0 := Nat.lt_of_lt_of_le la0 (k20).size
  replace cs0 := cell_keepT cs0 ls0 k20 (by omega)
  replace ds0 := cell_keepT ds0 ls0 k20 (by omega)
  replace ls0 := Nat.lt_of_lt_of_le ls0 (k20).size
  replace cx0 := cell_keepT cx0 lx0 k20 (by omega)
  replace dx0 := cell_keepT dx0 lx0 k20 (by omega)
  replace lx0 := Nat.lt_of_lt_of_le lx0 (k20).size
  replace cg0 := cell_keepT cg0 lg0 k20 (by omega)
  replace dg0 := cell_keepT dg0 lg0 k20 (by omega)
  replace lg0 := Nat.lt_of_lt_of_le lg0 (k20).size
  have a5 := turn_alloc w20 (.cells #[.slice A_h0 N_h0 C_h0, .slice D_h0 M_h0 E_h0] 25)
  have z5a := World.size_alloc w20 (.cells #[.slice A_h0 N_h0 C_h0, .slice D_h0 M_h0 E_h0] 25)
  replace hB := a5.base hB (by omega) (by omega)
  replace os0 := os0.keep a5 (by omega)
  replace og0 := og0.keep a5 (by omega)
  replace oh0 := oh0.keep a5 (by omega)
  replace ca0 := cell_keepT ca0 la0 a5 (by omega)
  replace da0 := cell_keepT da0 la0 a5 (by omega)
  replace la0 := Nat.lt_of_lt_of_le la0 (a5).size
  replace cs0 := cell_keepT cs0 ls0 a5 (by omega)
  replace ds0 := cell_keepT ds0 ls0 a5 (by omega)
  replace ls0 := Nat.lt_of_lt_of_le ls0 (a5).size
  replace cx0 := cell_keepT cx0 lx0 a5 (by omega)
  replace dx0 := cell_keepT dx0 lx0 a5 (by omega)
  replace lx0 := Nat.lt_of_lt_of_le lx0 (a5).size
  replace cg0 := cell_keepT cg0 lg0 a5 (by omega)
  replace dg0 := cell_keepT dg0 lg0 a5 (by omega)
  replace lg0 := Nat.lt_of_lt_of_le lg0 (a5).size
  have ch0 := alloc_duo0 w20 (.slice A_h0 N_h0 C_h0) (.slice D_h0 M_h0 E_h0) 25
  have dh0 := alloc_duo1 w20 (.slice A_h0 N_h0 C_h0) (.slice D_h0 M_h0 E_h0) 25
  have lh0 := alloc_ltT w20 (.cells #[.slice A_h0 N_h0 C_h0, .slice D_h0 M_h0 E_h0] 25)
  go_wp2_with fail
  refine (eqStripe_same _ _ _ _ (mndR s l) _ oh0.seen1 oh0.seen2 os0.seen1 os0.seen2).mono ?_
  rintro e w21 ⟨rfl, k21⟩
  have s21 := k21.size
  replace hB := k21.base hB (by omega) (by omega)
  replace os0 := os0.keep k21 (by omega)
  replace og0 := og0.keep k21 (by omega)
  replace oh0 := oh0.keep k21 (by omega)
  replace ca0 := cell_keepT ca0 la0 k21 (by omega)
  replace da0 := cell_keepT da0 la0 k21 (by omega)
  replace la0 := Nat.lt_of_lt_of_le la0 (k21).size
  replace cs0 := cell_keepT cs0 ls0 k21 (by omega)
  replace ds0 := cell_keepT ds0 ls0 k21 (by omega)
  replace ls0 := Nat.lt_of_lt_of_le ls0 (k21).size
  replace cx0 := cell_keepT cx0 lx0 k21 (by omega)
  replace dx0 := cell_keepT dx0 lx0 k21 (by omega)
  replace lx0 := Nat.lt_of_lt_of_le lx0 (k21).size
  replace cg0 := cell_keepT cg0 lg0 k21 (by omega)
  replace dg0 := cell_keepT dg0 lg0 k21 (by omega)
  replace lg0 := Nat.lt_of_lt_of_le lg0 (k21).size
  replace ch0 := cell_keepT ch0 lh0 k21 (by omega)
  replace dh0 := cell_keepT dh0 lh0 k21 (by omega)
  replace lh0 := Nat.lt_of_lt_of_le lh0 (k21).size
  go_wp2_with fail
  refine (heldStripe_own _ _ 1 (mndR s l).1.length (mndR s l).2.length _ og0.seen1 og0.seen2 (by omega) (by rw [← HR0.out]; omega)).mono ?_
  rintro e w22 ⟨he, k22⟩
  have s22 := k22.size
  replace hB := k22.base hB (by omega) (by omega)
  replace os0 := os0.keep k22 (by omega)
  replace og0 := og0.keep k22 (by omega)
  replace oh0 := oh0.keep k22 (by omega)
  replace ca0 := cell_keepT ca0 la0 k22 (by omega)
  replace da0 := cell_keepT da0 la0 k22 (by omega)
  replace la0 := Nat.lt_of_lt_of_le la0 (k22).size
  replace cs0 := cell_keepT cs0 ls0 k22 (by omega)
  replace ds0 := cell_keepT ds0 ls0 k22 (by omega)
  replace ls0 := Nat.lt_of_lt_of_le ls0 (k22).size
  replace cx0 := cell_keepT cx0 lx0 k22 (by omega)
  replace dx0 := cell_keepT dx0 lx0 k22 (by omega)
  replace lx0 := Nat.lt_of_lt_of_le lx0 (k22).size
  replace cg0 := cell_keepT cg0 lg0 k22 (by omega)
  replace dg0 := cell_keepT dg0 lg0 k22 (by omega)
  replace lg0 := Nat.lt_of_lt_of_le lg0 (k22).size
  replace ch0 := cell_keepT ch0 lh0 k22 (by omega)
  replace dh0 := cell_keepT dh0 lh0 k22 (by omega)
  replace lh0 := Nat.lt_of_lt_of_le lh0 (k22).size
  rw [← HR0.out] at he
  subst he
  have hq0 : ¬ (r0 : Int) < 0 := by omega
  have hqq : ((r0 : Int) != (r0 : Int)) = false := by simp
  go_wp2_with fail
  go_ret
  exact ⟨rfl, hB⟩

set_option maxRecDepth 100000 in
theorem walk_FnExactMendStripe : G294.LawWalk Tryd.prog 11 Tryd.f11 Rows.fnExactMendStripeSpec.vars false (fun W => laidMetH Tryd.prog Rows.fnExactMendStripeRow.laid W) := by
  intro H enc W base args ds gs before hval hW hX
  have hlt0 : ∀ p ∈ before, p.block < W.heap.size := fun p hp => hW.lt p hp
  obtain ⟨p, q, hA, hV, rfl, hfz, hnd⟩ := hW
  rw [Tryd.params11] at hA hval
  obtain ⟨u0, vs0, d0, ds0, p0, q0, hargs, rfl, rfl, t0, r0⟩ := trodAll_cons hA
  obtain ⟨u1, vs1, d1, ds1, p1, q1, rfl, rfl, rfl, t1, r1⟩ := trodAll_cons r0
  obtain ⟨rfl, rfl, rfl⟩ := trodAll_nil r1
  obtain rfl : args = #[u0, u1] := by cases args; simp_all
  obtain ⟨x0, y0, l0, m0, rfl, sn0, sm0, mx0, my0⟩ := seen_strp Tryd.underlying58 (by kernel_rfl) (by kernel_rfl) Tryd.underlying23 Tryd.underlying23 Tryd.underlying9 (by kernel_rfl) (hval 0 58 u0 rfl rfl) t0
  obtain ⟨l1, sn1⟩ := seen_ints Tryd.underlying47 Tryd.underlying3 (by kernel_rfl) (hval 1 47 u1 rfl rfl) t1 (fun x hx => hlt0 x (by simp [hx]))
  obtain ⟨ht, hs⟩ := tab_of (by kernel_rfl) hX 0 rfl (by kernel_rfl)
  exact exactMendStripe_walk x0 y0 (l0, m0) u1 l1 W sn0 sm0 mx0 my0 sn1 ht hs

end Go.Proofs.YtbopocpmodpfcaaDoor
