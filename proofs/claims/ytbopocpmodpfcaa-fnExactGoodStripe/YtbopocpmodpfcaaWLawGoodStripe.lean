/- The walk of FnExactGoodStripe. -/
import Derived.Test.YtbopocpmodpfcaaRows
import Derived.Deep.RegionHeld3
import Derived.Test.YtbopocpmodpfcaaBd00
import Derived.Test.YtbopocpmodpfcaaBd02
import Derived.Test.YtbopocpmodpfcaaBd03
import Derived.Test.YtbopocpmodpfcaaBd07
import Derived.Test.YtbopocpmodpfcaaBd10
set_option linter.unusedSimpArgs false
set_option linter.unusedVariables false
namespace Go.Proofs.Ytbopocpmodpfcaa
open Go.ChangeShapes Go.WideShapes Go.ChangeAt Go.RowKit G294

set_option maxRecDepth 100000 in
set_option maxHeartbeats 8000000 in
theorem exactGoodStripe_walk (v0 u0 : Value) (s : Strp) (w : World) (hv0 : Seen w v0 (strs s.1)) (hu0 : Seen w u0 (strs s.2)) (hmx0 : ∀ t ∈ s.1, t.length ≤ maxLen) (hmy0 : ∀ t ∈ s.2, t.length ≤ maxLen) :
    Calls Try.prog 3 #[.agg #[v0, u0]] w fun e w' => e = .returned (.bool true) ∧ Below w.heap.size w w' := by
  have hbb0 : (strpOk s != strpOk s) = false := by simp
  obtain ⟨A0, cc0, hvv0⟩ := hv0.len
  rw [strs_length] at hvv0
  rw [hvv0] at hv0 ⊢
  clear hvv0
  have HV0 := Lib.hid hv0
  clear hv0
  obtain ⟨B0, dd0, huu0⟩ := hu0.len
  rw [strs_length] at huu0
  rw [huu0] at hu0 ⊢
  clear huu0
  have HU0 := Lib.hid hu0
  clear hu0
  have hle0 := totT_le s
  obtain ⟨z0, hz0⟩ : ∃ zz, zz = totT s := ⟨_, rfl⟩
  have HZ0 := Lib.hid hz0
  rw [← hz0] at hle0
  clear hz0
  obtain ⟨n0, hn0⟩ : ∃ zz, zz = s.1.length := ⟨_, rfl⟩
  have HN0 := Lib.hid hn0
  rw [← hn0] at HV0 hle0 ⊢
  clear hn0
  obtain ⟨p0, hp0⟩ : ∃ zz, zz = s.2.length := ⟨_, rfl⟩
  have HP0 := Lib.hid hp0
  rw [← hp0] at HU0 hle0 ⊢
  clear hp0
  obtain ⟨hlu0, hlv0⟩ := hle0
  have HMX0 := Lib.hid hmx0
  clear hmx0
  have HMY0 := Lib.hid hmy0
  clear hmy0
  have hB := Below.refl w.heap.size w
  have a1 := turn_alloc w (.cells #[.slice A0 n0 cc0, .slice B0 p0 dd0] 24)
  have z1a := World.size_alloc w (.cells #[.slice A0 n0 cc0, .slice B0 p0 dd0] 24)
  replace hB := a1.base hB (by omega) (by omega)
  have ca0 := alloc_duo0 w (.slice A0 n0 cc0) (.slice B0 p0 dd0) 24
  have da0 := alloc_duo1 w (.slice A0 n0 cc0) (.slice B0 p0 dd0) 24
  have la0 := alloc_ltT w (.cells #[.slice A0 n0 cc0, .slice B0 p0 dd0] 24)
  go_enter Try.func3, Try.ntmps3
  by_cases hbz0 : 1048576 < z0
  · go_wp2_with fail
    refine (szStripe_no _ _ s (1048576) _ (HV0.out.below hB) (HU0.out.below hB) HMX0.out HMY0.out (by rw [← HZ0.out]; omega) (by omega)).mono ?_
    rintro e w1 ⟨rfl, k1⟩
    have s1 := k1.size
    replace hB := k1.base hB (by omega) (by omega)
    replace ca0 := cell_keepT ca0 la0 k1 (by omega)
    replace da0 := cell_keepT da0 la0 k1 (by omega)
    replace la0 := Nat.lt_of_lt_of_le la0 (k1).size
    go_wp2_with fail
    go_ret
    exact ⟨rfl, hB⟩
  go_wp2_with fail
  refine (szStripe_yes _ _ s (1048576) _ (HV0.out.below hB) (HU0.out.below hB) HMX0.out HMY0.out (by rw [← HZ0.out]; omega) (by omega)).mono ?_
  rintro e w1 ⟨he, k1⟩
  have s1 := k1.size
  replace hB := k1.base hB (by omega) (by omega)
  replace ca0 := cell_keepT ca0 la0 k1 (by omega)
  replace da0 := cell_keepT da0 la0 k1 (by omega)
  replace la0 := Nat.lt_of_lt_of_le la0 (k1).size
  rw [← HZ0.out] at he
  obtain ⟨left0, hleft0⟩ : ∃ zz : Nat, zz = 1048576 - z0 := ⟨_, rfl⟩
  have HL0 := Lib.hid hleft0
  rw [← hleft0] at he
  have hlb0 : left0 ≤ 1048576 := by omega
  clear hleft0
  subst he
  have hln0 : ¬ (left0 : Int) < 0 := by omega
  go_wp2_with fail
  refine (toStripe_own _ _ s _ (HV0.out.below hB) (HU0.out.below hB) (by rw [← HN0.out]; omega) (by rw [← HP0.out]; omega)).mono ?_
  rintro e w2 ⟨ta0, ta0u, rfl, ota0, k2⟩
  obtain ⟨A_ta0, N_ta0, C_ta0, D_ta0, M_ta0, E_ta0, rfl, rfl⟩ := ota0.isSlice
  have s2 := k2.size
  replace hB := k2.base hB (by omega) (by omega)
  replace ca0 := cell_keepT ca0 la0 k2 (by omega)
  replace da0 := cell_keepT da0 la0 k2 (by omega)
  replace la0 := Nat.lt_of_lt_of_le la0 (k2).size
  go_wp2_with fail
  refine (sGoodStripe_any _ _ s _ ota0.seen1 ota0.seen2).mono ?_
  rintro e w3 ⟨rfl, k3⟩
  have s3 := k3.size
  replace hB := k3.base hB (by omega) (by omega)
  replace ota0 := ota0.keep k3 (by omega)
  replace ca0 := cell_keepT ca0 la0 k3 (by omega)
  replace da0 := cell_keepT da0 la0 k3 (by omega)
  replace la0 := Nat.lt_of_lt_of_le la0 (k3).size
  go_wp2_with fail
  refine (toStripe_own _ _ s _ (HV0.out.below hB) (HU0.out.below hB) (by rw [← HN0.out]; omega) (by rw [← HP0.out]; omega)).mono ?_
  rintro e w4 ⟨x0, x0u, rfl, ox0, k4⟩
  obtain ⟨A_x0, N_x0, C_x0, D_x0, M_x0, E_x0, rfl, rfl⟩ := ox0.isSlice
  have s4 := k4.size
  replace hB := k4.base hB (by omega) (by omega)
  replace ca0 := cell_keepT ca0 la0 k4 (by omega)
  replace da0 := cell_keepT da0 la0 k4 (by omega)
  replace la0 := Nat.lt_of_lt_of_le la0 (k4).size
  have a2 := turn_alloc w4 (.cells #[.slice A_x0 N_x0 C_x0, .slice D_x0 M_x0 E_x0] 27)
  have z2a := World.size_alloc w4 (.cells #[.slice A_x0 N_x0 C_x0, .slice D_x0 M_x0 E_x0] 27)
  replace hB := a2.base hB (by omega) (by omega)
  replace ox0 := ox0.keep a2 (by omega)
  replace ca0 := cell_keepT ca0 la0 a2 (by omega)
  replace da0 := cell_keepT da0 la0 a2 (by omega)
  replace la0 := Nat.lt_of_lt_of_le la0 (a2).size
  have cx0 := alloc_duo0 w4 (.slice A_x0 N_x0 C_x0) (.slice D_x0 M_x0 E_x0) 27
  have dx0 := alloc_duo1 w4 (.slice A_x0 N_x0 C_x0) (.slice D_x0 M_x0 E_x0) 27
  have lx0 := alloc_ltT w4 (.cells #[.slice A_x0 N_x0 C_x0, .slice D_x0 M_x0 E_x0] 27)
  go_wp2_with fail
  refine (goodStripe_any _ _ s _ ox0.seen1 ox0.seen2).mono ?_
  rintro e w5 ⟨rfl, k5⟩
  have s5 := k5.size
  replace hB := k5.base hB (by omega) (by omega)
  replace ox0 := ox0.keep k5 (by omega)
  replace ca0 := cell_keepT ca0 la0 k5 (by omega)
  replace da0 := cell_keepT da0 la0 k5 (by omega)
  replace la0 := Nat.lt_of_lt_of_le la0 (k5).size
  replace cx0 := cell_keepT cx0 lx0 k5 (by omega)
  replace dx0 := cell_keepT dx0 lx0 k5 (by omega)
  replace lx0 := Nat.lt_of_lt_of_le lx0 (k5).size
  go_wp2_with fail
  go_region_held3 (fun w' => w'.cell? ⟨w4.heap.size, 0, none⟩ = some (.slice A_x0 N_x0 C_x0) ∧ w'.cell? ⟨w4.heap.size, 1, none⟩ = some (.slice D_x0 M_x0 E_x0) ∧ w'.cell? ⟨w.heap.size, 0, none⟩ = some (.slice A0 n0 cc0) ∧ w'.cell? ⟨w.heap.size, 1, none⟩ = some (.slice B0 p0 dd0))
    (first | exact ⟨cx0, dx0, ca0, da0⟩)
    (first | (go_at_call 6; refine (toStripe_own _ _ s (World.drew w5) (HV0.out.below hB.drew) (HU0.out.below hB.drew) (by rw [← HN0.out]; omega) (by rw [← HP0.out]; omega)).mono ?_; rintro e w6 ⟨tb0, tb0u, rfl, otb0, k6⟩; obtain ⟨A_tb0, N_tb0, C_tb0, D_tb0, M_tb0, E_tb0, rfl, rfl⟩ := otb0.isSlice; replace k6 := undrew k6; have s6 := k6.size; replace hB := k6.base hB (by omega) (by omega); replace ox0 := ox0.keep k6 (by omega); replace ca0 := cell_keepT ca0 la0 k6 (by omega); replace da0 := cell_keepT da0 la0 k6 (by omega); replace la0 := Nat.lt_of_lt_of_le la0 (k6).size; replace cx0 := cell_keepT cx0 lx0 k6 (by omega); replace dx0 := cell_keepT dx0 lx0 k6 (by omega); replace lx0 := Nat.lt_of_lt_of_le lx0 (k6).size) | (go_at_call 8; refine (eqStripe_same _ _ _ _ s _ ox0.seen1 ox0.seen2 otb0.seen1 otb0.seen2).mono ?_; rintro e w7 ⟨rfl, k7⟩; have s7 := k7.size; replace hB := k7.base hB (by omega) (by omega); replace ox0 := ox0.keep k7 (by omega); replace otb0 := otb0.keep k7 (by omega); replace ca0 := cell_keepT ca0 la0 k7 (by omega); replace da0 := cell_keepT da0 la0 k7 (by omega); replace la0 := Nat.lt_of_lt_of_le la0 (k7).size; replace cx0 := cell_keepT cx0 lx0 k7 (by omega); replace dx0 := cell_keepT dx0 lx0 k7 (by omega); replace lx0 := Nat.lt_of_lt_of_le lx0 (k7).size))
  go_wp2_with fail
  go_ret
  exact ⟨rfl, hB⟩

set_option maxRecDepth 100000 in
theorem walk_FnExactGoodStripe : G294.LawWalk Try.prog 3 Try.f3 Rows.fnExactGoodStripeSpec.vars false (fun _ => True) := by
  intro H enc W base args ds gs before hval hW hX
  have hlt0 : ∀ p ∈ before, p.block < W.heap.size := fun p hp => hW.lt p hp
  obtain ⟨p, q, hA, hV, rfl, hfz, hnd⟩ := hW
  rw [Try.params3] at hA hval
  obtain ⟨u0, vs0, d0, ds0, p0, q0, hargs, rfl, rfl, t0, r0⟩ := trodAll_cons hA
  obtain ⟨rfl, rfl, rfl⟩ := trodAll_nil r0
  obtain rfl : args = #[u0] := by cases args; simp_all
  obtain ⟨x0, y0, l0, m0, rfl, sn0, sm0, mx0, my0⟩ := seen_strp Try.underlying24 (by kernel_rfl) (by kernel_rfl) Try.underlying22 Try.underlying22 Try.underlying9 (by kernel_rfl) (hval 0 24 u0 rfl rfl) t0
  exact exactGoodStripe_walk x0 y0 (l0, m0) W sn0 sm0 mx0 my0

end Go.Proofs.Ytbopocpmodpfcaa
