/- The walk of FnExactStepPeel. -/
import Derived.Test.YtjklngheehhggaaRows
import Derived.Deep.RegionHeld3
import Derived.Deep.CutRange
import Derived.Test.YtjklngheehhggaaBd00
import Derived.Test.YtjklngheehhggaaBd11
import Derived.Test.YtjklngheehhggaaBd12
import Derived.Test.YtjklngheehhggaaBd15
import Derived.Test.YtjklngheehhggaaBd16
import Derived.Test.YtjklngheehhggaaBd19
set_option linter.unusedSimpArgs false
set_option linter.unusedVariables false
namespace Go.Proofs.Ytjklngheehhggaa
open Go.ChangeShapes Go.WideShapes Go.ChangeAt Go.RowKit G294

set_option maxRecDepth 100000 in
set_option maxHeartbeats 8000000 in
theorem exactStepPeel_walk (v0 : Value) (l : List Sh) (v1 u1 : Value) (p : Pee) (w : World) (hv0 : SeenH w v0 l) (hmx0 : ∀ s ∈ l, s.2.length ≤ maxLen) (hv1 : Seen w v1 (strs p.1)) (hu1 : Seen w u1 (bls p.2.1)) (hmx1 : ∀ t ∈ p.1, t.length ≤ maxLen) :
    Calls Try.prog 6 #[v0, .agg #[v1, u1, .int .i64 p.2.2]] w fun e w' => e = .returned (.bool true) ∧ Below w.heap.size w w' := by
  have hbb1 : (stpOk l p != stpOk l p) = false := by simp
  have HV0 := Lib.hid hv0
  clear hv0
  obtain ⟨z0, hz0⟩ : ∃ zz, zz = l.length + sizH l := ⟨_, rfl⟩
  have HZ0 := Lib.hid hz0
  have hlu0 : l.length ≤ z0 := by omega
  clear hz0
  obtain ⟨n0, hn0⟩ : ∃ zz, zz = l.length := ⟨_, rfl⟩
  have HN0 := Lib.hid hn0
  rw [← hn0] at hlu0
  clear hn0
  have HMX0 := Lib.hid hmx0
  clear hmx0
  obtain ⟨A1, cc1, hvv1⟩ := hv1.len
  rw [strs_length] at hvv1
  rw [hvv1] at hv1 ⊢
  clear hvv1
  have HV1 := Lib.hid hv1
  clear hv1
  obtain ⟨B1, dd1, huu1⟩ := hu1.len
  rw [bls_length] at huu1
  rw [huu1] at hu1 ⊢
  clear huu1
  have HU1 := Lib.hid hu1
  clear hu1
  have hle1 := totP_le p
  obtain ⟨z1, hz1⟩ : ∃ zz, zz = totP p := ⟨_, rfl⟩
  have HZ1 := Lib.hid hz1
  rw [← hz1] at hle1
  clear hz1
  obtain ⟨n1, hn1⟩ : ∃ zz, zz = p.1.length := ⟨_, rfl⟩
  have HN1 := Lib.hid hn1
  rw [← hn1] at HV1 hle1 ⊢
  clear hn1
  obtain ⟨p1, hp1⟩ : ∃ zz, zz = p.2.1.length := ⟨_, rfl⟩
  have HP1 := Lib.hid hp1
  rw [← hp1] at HU1 hle1 ⊢
  clear hp1
  obtain ⟨hlu1, hlv1⟩ := hle1
  have HMX1 := Lib.hid hmx1
  clear hmx1
  have hB := Below.refl w.heap.size w
  have a1 := turn_alloc w (.cells #[.slice A1 n1 cc1, .slice B1 p1 dd1, .int .i64 p.2.2] 45)
  have z1a := World.size_alloc w (.cells #[.slice A1 n1 cc1, .slice B1 p1 dd1, .int .i64 p.2.2] 45)
  replace hB := a1.base hB (by omega) (by omega)
  have ca1 := alloc_tri0 w (.slice A1 n1 cc1) (.slice B1 p1 dd1) (.int .i64 p.2.2) 45
  have da1 := alloc_tri1 w (.slice A1 n1 cc1) (.slice B1 p1 dd1) (.int .i64 p.2.2) 45
  have ea1 := alloc_tri2 w (.slice A1 n1 cc1) (.slice B1 p1 dd1) (.int .i64 p.2.2) 45
  have la1 := alloc_ltT w (.cells #[.slice A1 n1 cc1, .slice B1 p1 dd1, .int .i64 p.2.2] 45)
  go_enter Try.func6, Try.ntmps6
  by_cases hbz0 : 1048576 < z0
  · go_wp2_with fail
    refine (szDropS_no _ l (1048576) _ (HV0.out.below hB) HMX0.out (by rw [← HZ0.out]; omega) (by omega)).mono ?_
    rintro e w1 ⟨rfl, k1⟩
    have s1 := k1.size
    replace hB := k1.base hB (by omega) (by omega)
    replace ca1 := cell_keepT ca1 la1 k1 (by omega)
    replace da1 := cell_keepT da1 la1 k1 (by omega)
    replace ea1 := cell_keepT ea1 la1 k1 (by omega)
    replace la1 := Nat.lt_of_lt_of_le la1 (k1).size
    go_wp2_with fail
    go_ret
    exact ⟨rfl, hB⟩
  go_wp2_with fail
  refine (szDropS_yes _ l (1048576) _ (HV0.out.below hB) HMX0.out (by rw [← HZ0.out]; omega) (by omega)).mono ?_
  rintro e w1 ⟨he, k1⟩
  have s1 := k1.size
  replace hB := k1.base hB (by omega) (by omega)
  replace ca1 := cell_keepT ca1 la1 k1 (by omega)
  replace da1 := cell_keepT da1 la1 k1 (by omega)
  replace ea1 := cell_keepT ea1 la1 k1 (by omega)
  replace la1 := Nat.lt_of_lt_of_le la1 (k1).size
  rw [← HZ0.out] at he
  obtain ⟨left0, hleft0⟩ : ∃ zz : Nat, zz = 1048576 - z0 := ⟨_, rfl⟩
  have HL0 := Lib.hid hleft0
  rw [← hleft0] at he
  have hlb0 : left0 ≤ 1048576 := by omega
  clear hleft0
  subst he
  have hln0 : ¬ (left0 : Int) < 0 := by omega
  by_cases hbz1 : left0 < z1
  · go_wp2_with fail
    refine (szPeel_no _ _ p (left0) _ (HV1.out.below hB) (HU1.out.below hB) HMX1.out (by rw [← HZ1.out]; omega) (by omega)).mono ?_
    rintro e w2 ⟨rfl, k2⟩
    have s2 := k2.size
    replace hB := k2.base hB (by omega) (by omega)
    replace ca1 := cell_keepT ca1 la1 k2 (by omega)
    replace da1 := cell_keepT da1 la1 k2 (by omega)
    replace ea1 := cell_keepT ea1 la1 k2 (by omega)
    replace la1 := Nat.lt_of_lt_of_le la1 (k2).size
    go_wp2_with fail
    go_ret
    exact ⟨rfl, hB⟩
  go_wp2_with fail
  refine (szPeel_yes _ _ p (left0) _ (HV1.out.below hB) (HU1.out.below hB) HMX1.out (by rw [← HZ1.out]; omega) (by omega)).mono ?_
  rintro e w2 ⟨he, k2⟩
  have s2 := k2.size
  replace hB := k2.base hB (by omega) (by omega)
  replace ca1 := cell_keepT ca1 la1 k2 (by omega)
  replace da1 := cell_keepT da1 la1 k2 (by omega)
  replace ea1 := cell_keepT ea1 la1 k2 (by omega)
  replace la1 := Nat.lt_of_lt_of_le la1 (k2).size
  rw [← HZ1.out] at he
  obtain ⟨left1, hleft1⟩ : ∃ zz : Nat, zz = left0 - z1 := ⟨_, rfl⟩
  have HL1 := Lib.hid hleft1
  rw [← hleft1] at he
  have hlb1 : left1 ≤ 1048576 := by omega
  clear hleft1
  subst he
  have hln1 : ¬ (left1 : Int) < 0 := by omega
  go_wp2_with fail
  have HWAs := Lib.hid (HV0.out.below hB)
  have HWCs := Lib.hid (HV1.out.below hB)
  have HWDs := Lib.hid (HU1.out.below hB)
  have hS0 : Below w2.heap.size w2 w2.drew ∧ w2.drew.cell? ⟨w.heap.size, 0, none⟩ = some (.slice A1 n1 cc1) ∧ w2.drew.cell? ⟨w.heap.size, 1, none⟩ = some (.slice B1 p1 dd1) ∧ w2.drew.cell? ⟨w.heap.size, 2, none⟩ = some (.int .i64 p.2.2) := ⟨(Below.refl _ _).drew, ca1, da1, ea1⟩
  have HSS : Hid (∀ W, Below w2.heap.size w2 W → (Below w2.heap.size w2 W ∧ W.cell? ⟨w.heap.size, 0, none⟩ = some (.slice A1 n1 cc1) ∧ W.cell? ⟨w.heap.size, 1, none⟩ = some (.slice B1 p1 dd1) ∧ W.cell? ⟨w.heap.size, 2, none⟩ = some (.int .i64 p.2.2))) := Lib.hid (fun W hb => ⟨hb, (hb.cell (p := ⟨w.heap.size, 0, none⟩) la1).trans ca1, (hb.cell (p := ⟨w.heap.size, 1, none⟩) la1).trans da1, (hb.cell (p := ⟨w.heap.size, 2, none⟩) la1).trans ea1⟩)
  have HSA : Hid (∀ W o, (Below w2.heap.size w2 W ∧ W.cell? ⟨w.heap.size, 0, none⟩ = some (.slice A1 n1 cc1) ∧ W.cell? ⟨w.heap.size, 1, none⟩ = some (.slice B1 p1 dd1) ∧ W.cell? ⟨w.heap.size, 2, none⟩ = some (.int .i64 p.2.2)) → (Below w2.heap.size w2 (W.alloc o) ∧ (W.alloc o).cell? ⟨w.heap.size, 0, none⟩ = some (.slice A1 n1 cc1) ∧ (W.alloc o).cell? ⟨w.heap.size, 1, none⟩ = some (.slice B1 p1 dd1) ∧ (W.alloc o).cell? ⟨w.heap.size, 2, none⟩ = some (.int .i64 p.2.2))) := Lib.hid (fun W o h => HSS.out _ (h.1.alloc h.1.size o))
  have HST : Hid (∀ W W', TurnIn 0 0 W W' → (Below w2.heap.size w2 W ∧ W.cell? ⟨w.heap.size, 0, none⟩ = some (.slice A1 n1 cc1) ∧ W.cell? ⟨w.heap.size, 1, none⟩ = some (.slice B1 p1 dd1) ∧ W.cell? ⟨w.heap.size, 2, none⟩ = some (.int .i64 p.2.2)) → (Below w2.heap.size w2 W' ∧ W'.cell? ⟨w.heap.size, 0, none⟩ = some (.slice A1 n1 cc1) ∧ W'.cell? ⟨w.heap.size, 1, none⟩ = some (.slice B1 p1 dd1) ∧ W'.cell? ⟨w.heap.size, 2, none⟩ = some (.int .i64 p.2.2))) := Lib.hid (fun W W' t h => HSS.out _ (t.base h.1 h.1.size (by omega)))
  have HSC : Hid (∀ W B (o : Nat) x, w2.heap.size ≤ B → (Below w2.heap.size w2 W ∧ W.cell? ⟨w.heap.size, 0, none⟩ = some (.slice A1 n1 cc1) ∧ W.cell? ⟨w.heap.size, 1, none⟩ = some (.slice B1 p1 dd1) ∧ W.cell? ⟨w.heap.size, 2, none⟩ = some (.int .i64 p.2.2)) → (Below w2.heap.size w2 (W.setCell ⟨B, o, none⟩ x) ∧ (W.setCell ⟨B, o, none⟩ x).cell? ⟨w.heap.size, 0, none⟩ = some (.slice A1 n1 cc1) ∧ (W.setCell ⟨B, o, none⟩ x).cell? ⟨w.heap.size, 1, none⟩ = some (.slice B1 p1 dd1) ∧ (W.setCell ⟨B, o, none⟩ x).cell? ⟨w.heap.size, 2, none⟩ = some (.int .i64 p.2.2))) := Lib.hid (fun W B o x hB h => HSS.out _ (h.1.setCell (p := ⟨B, o, none⟩) hB x))
  go_cut [6, 7] from 27 to 34 (fun s6 s7 wx => PBoxOk 9 4 w2 (stpR l p) (stpOk l p) s6 s7 wx)
  case first =>
    go_region_held3 (fun W => Below w2.heap.size w2 W ∧ W.cell? ⟨w.heap.size, 0, none⟩ = some (.slice A1 n1 cc1) ∧ W.cell? ⟨w.heap.size, 1, none⟩ = some (.slice B1 p1 dd1) ∧ W.cell? ⟨w.heap.size, 2, none⟩ = some (.int .i64 p.2.2))
      (first | exact hS0 | exact hS3 | exact hS4 | exact hS5 | exact HSA.out _ _ (by assumption) | exact HSA.out _ _ hS0 | exact HSA.out _ _ hS3 | exact HSA.out _ _ hS4 | exact HSC.out _ _ _ _ (by omega) (HSC.out _ _ _ _ (by omega) (HSC.out _ _ _ _ (by omega) hS5)) | assumption)
      (first
        | (go_at_call 14; (with_reducible refine (toDropS_own v0 l _ (HWAs.out.below (And.left (by assumption))) (by rw [← HN0.out]; omega)).mono ?_); rintro e w3 ⟨tas, rfl, otas, k3⟩; have hS3 := HST.out _ _ k3 (by assumption); have hs3 := hS3.1.size; (first | (have fb := BoxT.keep ⟨b0, b1, b2, b3, b4, b5, b6⟩ k3 (by omega); obtain ⟨b0, b1, b2, b3, b4, b5, b6⟩ := fb) | (have fb := boxT_made k3; obtain ⟨b0, b1, b2, b3, b4, b5, b6⟩ := fb) | (have fb := boxT_made (undrew k3); obtain ⟨b0, b1, b2, b3, b4, b5, b6⟩ := fb) | skip))
        | (go_at_call 25; (with_reducible refine (toPeel_own (.slice A1 n1 cc1) (.slice B1 p1 dd1) p _ (HWCs.out.below (And.left (by assumption))) (HWDs.out.below (And.left (by assumption))) (by rw [← HN1.out]; omega) (by rw [← HP1.out]; omega)).mono ?_); rintro e w4 ⟨tbs, tbsu, rfl, otbs, k4⟩; obtain ⟨A_tbs, N_tbs, C_tbs, D_tbs, M_tbs, E_tbs, rfl, rfl⟩ := otbs.isSlice; have hS4 := HST.out _ _ k4 (by assumption); have hs4 := hS4.1.size; have k34 : TurnIn 0 0 w3 w4 := (by first | exact k4 | exact turn_trans (turn_alloc _ _) k4 (by omega)); replace otas := otas.keep k34 (by omega); (first | (have fb := BoxT.keep ⟨b0, b1, b2, b3, b4, b5, b6⟩ k4 (by omega); obtain ⟨b0, b1, b2, b3, b4, b5, b6⟩ := fb) | (have fb := boxT_made k4; obtain ⟨b0, b1, b2, b3, b4, b5, b6⟩ := fb) | (have fb := boxT_made (undrew k4); obtain ⟨b0, b1, b2, b3, b4, b5, b6⟩ := fb) | skip))
        | (go_at_call 24; refine (specStep_own _ _ _ l p _ (by first | exact otas.seen | exact (otas.keep (turn_alloc _ _) (by omega)).seen) (by first | exact otbs.seen1 | exact (otbs.keep (turn_alloc _ _) (by omega)).seen1) (by first | exact otbs.seen2 | exact (otbs.keep (turn_alloc _ _) (by omega)).seen2)).mono ?_; rintro e w5 ⟨s0, s0u, rfl, os0, k5⟩; obtain ⟨A_s0, N_s0, C_s0, D_s0, M_s0, E_s0, rfl, rfl⟩ := os0.isSlice; have hS5 := HST.out _ _ k5 (by assumption); have hs5 := hS5.1.size; have k45 : TurnIn 0 0 w4 w5 := (by first | exact k5 | exact turn_trans (turn_alloc _ _) k5 (by omega)); (first | (have hBl := b6; have fb := BoxT.keep ⟨b0, b1, b2, b3, b4, b5, b6⟩ k5 (by omega); obtain ⟨b0, b1, b2, b3, b4, b5, b6⟩ := fb) | (have hBl := alloc_lt w4 (.cells #[.slice none 0 0, .slice none 0 0, .int .i64 0] 33); have fb := boxT_made k5; obtain ⟨b0, b1, b2, b3, b4, b5, b6⟩ := fb) | skip)))
    all_goals
      have hs5 := hS5.1.size
      go_wp2_with fail
      go_meet
      first
        | exact pbox_new (TurnIn.of_below hS5.1) os0 (by first | omega | (simp; omega))
        | exact pbox_set ⟨b0, b1, b2, b3, b4, b5, b6⟩ hBl (by first | omega | (simp; omega)) (TurnIn.of_below hS5.1) os0
  obtain ⟨B_s0, x_s0, y_s0, lo_s0, hi_s0, rfl, rfl, hbx_s0, hBb_s0, os0, hlo_s0, hhi_s0, hor_s0, tc_s0⟩ := hcut
  obtain ⟨A_s0, N_s0, C_s0, D_s0, M_s0, E_s0, rfl, rfl⟩ := os0.isSlice
  have sc_s0 := tc_s0.size
  replace hB := tc_s0.base hB (by omega) (by omega)
  replace ca1 := cell_keepT ca1 la1 tc_s0 (by omega)
  replace da1 := cell_keepT da1 la1 tc_s0 (by omega)
  replace ea1 := cell_keepT ea1 la1 tc_s0 (by omega)
  replace la1 := Nat.lt_of_lt_of_le la1 (tc_s0).size
  have cs0 := hbx_s0.c0
  have ds0 := hbx_s0.c1
  have es0 := hbx_s0.c2
  have ls0 := hbx_s0.lt
  have hBs_s0 := hbx_s0.lt
  clear hbx_s0 HSS HSA HST HSC hS0
  generalize hwc : wc = wc_s at *
  clear hwc
  go_wp2_with fail
  refine (toDropS_own _ l _ (HV0.out.below hB) (by rw [← HN0.out]; omega)).mono ?_
  rintro e w3 ⟨x0, rfl, ox0, k3⟩
  have s3 := k3.size
  replace hB := k3.base hB (by omega) (by omega)
  replace os0 := os0.keep k3 (by omega)
  replace ca1 := cell_keepT ca1 la1 k3 (by omega)
  replace da1 := cell_keepT da1 la1 k3 (by omega)
  replace ea1 := cell_keepT ea1 la1 k3 (by omega)
  replace la1 := Nat.lt_of_lt_of_le la1 (k3).size
  replace cs0 := cell_keepT cs0 ls0 k3 (by omega)
  replace ds0 := cell_keepT ds0 ls0 k3 (by omega)
  replace es0 := cell_keepT es0 ls0 k3 (by omega)
  replace ls0 := Nat.lt_of_lt_of_le ls0 (k3).size
  go_wp2_with fail
  refine (toPeel_own _ _ p _ (HV1.out.below hB) (HU1.out.below hB) (by rw [← HN1.out]; omega) (by rw [← HP1.out]; omega)).mono ?_
  rintro e w4 ⟨x1, x1u, rfl, ox1, k4⟩
  obtain ⟨A_x1, N_x1, C_x1, D_x1, M_x1, E_x1, rfl, rfl⟩ := ox1.isSlice
  have s4 := k4.size
  replace hB := k4.base hB (by omega) (by omega)
  replace os0 := os0.keep k4 (by omega)
  replace ox0 := ox0.keep k4 (by omega)
  replace ca1 := cell_keepT ca1 la1 k4 (by omega)
  replace da1 := cell_keepT da1 la1 k4 (by omega)
  replace ea1 := cell_keepT ea1 la1 k4 (by omega)
  replace la1 := Nat.lt_of_lt_of_le la1 (k4).size
  replace cs0 := cell_keepT cs0 ls0 k4 (by omega)
  replace ds0 := cell_keepT ds0 ls0 k4 (by omega)
  replace es0 := cell_keepT es0 ls0 k4 (by omega)
  replace ls0 := Nat.lt_of_lt_of_le ls0 (k4).size
  have a2 := turn_alloc w4 (.cells #[.slice A_x1 N_x1 C_x1, .slice D_x1 M_x1 E_x1, .int .i64 p.2.2] 33)
  have z2a := World.size_alloc w4 (.cells #[.slice A_x1 N_x1 C_x1, .slice D_x1 M_x1 E_x1, .int .i64 p.2.2] 33)
  replace hB := a2.base hB (by omega) (by omega)
  replace os0 := os0.keep a2 (by omega)
  replace ox0 := ox0.keep a2 (by omega)
  replace ox1 := ox1.keep a2 (by omega)
  replace ca1 := cell_keepT ca1 la1 a2 (by omega)
  replace da1 := cell_keepT da1 la1 a2 (by omega)
  replace ea1 := cell_keepT ea1 la1 a2 (by omega)
  replace la1 := Nat.lt_of_lt_of_le la1 (a2).size
  replace cs0 := cell_keepT cs0 ls0 a2 (by omega)
  replace ds0 := cell_keepT ds0 ls0 a2 (by omega)
  replace es0 := cell_keepT es0 ls0 a2 (by omega)
  replace ls0 := Nat.lt_of_lt_of_le ls0 (a2).size
  have cx1 := alloc_tri0 w4 (.slice A_x1 N_x1 C_x1) (.slice D_x1 M_x1 E_x1) (.int .i64 p.2.2) 33
  have dx1 := alloc_tri1 w4 (.slice A_x1 N_x1 C_x1) (.slice D_x1 M_x1 E_x1) (.int .i64 p.2.2) 33
  have ex1 := alloc_tri2 w4 (.slice A_x1 N_x1 C_x1) (.slice D_x1 M_x1 E_x1) (.int .i64 p.2.2) 33
  have lx1 := alloc_ltT w4 (.cells #[.slice A_x1 N_x1 C_x1, .slice D_x1 M_x1 E_x1, .int .i64 p.2.2] 33)
  go_wp2_with fail
  refine (stepPeel_own _ _ _ l p _ ox0.seen ox1.seen1 ox1.seen2).mono ?_
  rintro e w5 ⟨g0, g0u, rfl, og0, k5⟩
  obtain ⟨A_g0, N_g0, C_g0, D_g0, M_g0, E_g0, rfl, rfl⟩ := og0.isSlice
  have s5 := k5.size
  replace hB := k5.base hB (by omega) (by omega)
  replace os0 := os0.keep k5 (by omega)
  replace ox0 := ox0.keep k5 (by omega)
  replace ox1 := ox1.keep k5 (by omega)
  replace ca1 := cell_keepT ca1 la1 k5 (by omega)
  replace da1 := cell_keepT da1 la1 k5 (by omega)
  replace ea1 := cell_keepT ea1 la1 k5 (by omega)
  replace la1 := Nat.lt_of_lt_of_le la1 (k5).size
  replace cs0 := cell_keepT cs0 ls0 k5 (by omega)
  replace ds0 := cell_keepT ds0 ls0 k5 (by omega)
  replace es0 := cell_keepT es0 ls0 k5 (by omega)
  replace ls0 := Nat.lt_of_lt_of_le ls0 (k5).size
  replace cx1 := cell_keepT cx1 lx1 k5 (by omega)
  replace dx1 := cell_keepT dx1 lx1 k5 (by omega)
  replace ex1 := cell_keepT ex1 lx1 k5 (by omega)
  replace lx1 := Nat.lt_of_lt_of_le lx1 (k5).size
  have a3 := turn_alloc w5 (.cells #[.slice A_g0 N_g0 C_g0, .slice D_g0 M_g0 E_g0, .int .i64 (stpR l p).2.2] 33)
  have z3a := World.size_alloc w5 (.cells #[.slice A_g0 N_g0 C_g0, .slice D_g0 M_g0 E_g0, .int .i64 (stpR l p).2.2] 33)
  replace hB := a3.base hB (by omega) (by omega)
  replace os0 := os0.keep a3 (by omega)
  replace ox0 := ox0.keep a3 (by omega)
  replace ox1 := ox1.keep a3 (by omega)
  replace og0 := og0.keep a3 (by omega)
  replace ca1 := cell_keepT ca1 la1 a3 (by omega)
  replace da1 := cell_keepT da1 la1 a3 (by omega)
  replace ea1 := cell_keepT ea1 la1 a3 (by omega)
  replace la1 := Nat.lt_of_lt_of_le la1 (a3).size
  replace cs0 := cell_keepT cs0 ls0 a3 (by omega)
  replace ds0 := cell_keepT ds0 ls0 a3 (by omega)
  replace es0 := cell_keepT es0 ls0 a3 (by omega)
  replace ls0 := Nat.lt_of_lt_of_le ls0 (a3).size
  replace cx1 := cell_keepT cx1 lx1 a3 (by omega)
  replace dx1 := cell_keepT dx1 lx1 a3 (by omega)
  replace ex1 := cell_keepT ex1 lx1 a3 (by omega)
  replace lx1 := Nat.lt_of_lt_of_le lx1 (a3).size
  have cg0 := alloc_tri0 w5 (.slice A_g0 N_g0 C_g0) (.slice D_g0 M_g0 E_g0) (.int .i64 (stpR l p).2.2) 33
  have dg0 := alloc_tri1 w5 (.slice A_g0 N_g0 C_g0) (.slice D_g0 M_g0 E_g0) (.int .i64 (stpR l p).2.2) 33
  have eg0 := alloc_tri2 w5 (.slice A_g0 N_g0 C_g0) (.slice D_g0 M_g0 E_g0) (.int .i64 (stpR l p).2.2) 33
  have lg0 := alloc_ltT w5 (.cells #[.slice A_g0 N_g0 C_g0, .slice D_g0 M_g0 E_g0, .int .i64 (stpR l p).2.2] 33)
  go_wp2_with fail
  refine (eqPeel_same _ _ _ _ (stpR l p) _ og0.seen1 og0.seen2 os0.seen1 os0.seen2).mono ?_
  rintro e w6 ⟨rfl, k6⟩
  have s6 := k6.size
  replace hB := k6.base hB (by omega) (by omega)
  replace os0 := os0.keep k6 (by omega)
  replace ox0 := ox0.keep k6 (by omega)
  replace ox1 := ox1.keep k6 (by omega)
  replace og0 := og0.keep k6 (by omega)
  replace ca1 := cell_keepT ca1 la1 k6 (by omega)
  replace da1 := cell_keepT da1 la1 k6 (by omega)
  replace ea1 := cell_keepT ea1 la1 k6 (by omega)
  replace la1 := Nat.lt_of_lt_of_le la1 (k6).size
  replace cs0 := cell_keepT cs0 ls0 k6 (by omega)
  replace ds0 := cell_keepT ds0 ls0 k6 (by omega)
  replace es0 := cell_keepT es0 ls0 k6 (by omega)
  replace ls0 := Nat.lt_of_lt_of_le ls0 (k6).size
  replace cx1 := cell_keepT cx1 lx1 k6 (by omega)
  replace dx1 := cell_keepT dx1 lx1 k6 (by omega)
  replace ex1 := cell_keepT ex1 lx1 k6 (by omega)
  replace lx1 := Nat.lt_of_lt_of_le lx1 (k6).size
  replace cg0 := cell_keepT cg0 lg0 k6 (by omega)
  replace dg0 := cell_keepT dg0 lg0 k6 (by omega)
  replace eg0 := cell_keepT eg0 lg0 k6 (by omega)
  replace lg0 := Nat.lt_of_lt_of_le lg0 (k6).size
  go_wp2_with fail
  refine (toDropS_own _ l _ (HV0.out.below hB) (by rw [← HN0.out]; omega)).mono ?_
  rintro e w7 ⟨tb0, rfl, otb0, k7⟩
  have s7 := k7.size
  replace hB := k7.base hB (by omega) (by omega)
  replace os0 := os0.keep k7 (by omega)
  replace ox0 := ox0.keep k7 (by omega)
  replace ox1 := ox1.keep k7 (by omega)
  replace og0 := og0.keep k7 (by omega)
  replace ca1 := cell_keepT ca1 la1 k7 (by omega)
  replace da1 := cell_keepT da1 la1 k7 (by omega)
  replace ea1 := cell_keepT ea1 la1 k7 (by omega)
  replace la1 := Nat.lt_of_lt_of_le la1 (k7).size
  replace cs0 := cell_keepT cs0 ls0 k7 (by omega)
  replace ds0 := cell_keepT ds0 ls0 k7 (by omega)
  replace es0 := cell_keepT es0 ls0 k7 (by omega)
  replace ls0 := Nat.lt_of_lt_of_le ls0 (k7).size
  replace cx1 := cell_keepT cx1 lx1 k7 (by omega)
  replace dx1 := cell_keepT dx1 lx1 k7 (by omega)
  replace ex1 := cell_keepT ex1 lx1 k7 (by omega)
  replace lx1 := Nat.lt_of_lt_of_le lx1 (k7).size
  replace cg0 := cell_keepT cg0 lg0 k7 (by omega)
  replace dg0 := cell_keepT dg0 lg0 k7 (by omega)
  replace eg0 := cell_keepT eg0 lg0 k7 (by omega)
  replace lg0 := Nat.lt_of_lt_of_le lg0 (k7).size
  go_wp2_with fail
  refine (eqDropS_same _ _ l _ ox0.seen otb0.seen).mono ?_
  rintro e w8 ⟨rfl, k8⟩
  have s8 := k8.size
  replace hB := k8.base hB (by omega) (by omega)
  replace os0 := os0.keep k8 (by omega)
  replace ox0 := ox0.keep k8 (by omega)
  replace ox1 := ox1.keep k8 (by omega)
  replace og0 := og0.keep k8 (by omega)
  replace otb0 := otb0.keep k8 (by omega)
  replace ca1 := cell_keepT ca1 la1 k8 (by omega)
  replace da1 := cell_keepT da1 la1 k8 (by omega)
  replace ea1 := cell_keepT ea1 la1 k8 (by omega)
  replace la1 := Nat.lt_of_lt_of_le la1 (k8).size
  replace cs0 := cell_keepT cs0 ls0 k8 (by omega)
  replace ds0 := cell_keepT ds0 ls0 k8 (by omega)
  replace es0 := cell_keepT es0 ls0 k8 (by omega)
  replace ls0 := Nat.lt_of_lt_of_le ls0 (k8).size
  replace cx1 := cell_keepT cx1 lx1 k8 (by omega)
  replace dx1 := cell_keepT dx1 lx1 k8 (by omega)
  replace ex1 := cell_keepT ex1 lx1 k8 (by omega)
  replace lx1 := Nat.lt_of_lt_of_le lx1 (k8).size
  replace cg0 := cell_keepT cg0 lg0 k8 (by omega)
  replace dg0 := cell_keepT dg0 lg0 k8 (by omega)
  replace eg0 := cell_keepT eg0 lg0 k8 (by omega)
  replace lg0 := Nat.lt_of_lt_of_le lg0 (k8).size
  go_wp2_with fail
  go_region_held3 (fun w' => w'.cell? ⟨w4.heap.size, 0, none⟩ = some (.slice A_x1 N_x1 C_x1) ∧ w'.cell? ⟨w4.heap.size, 1, none⟩ = some (.slice D_x1 M_x1 E_x1) ∧ w'.cell? ⟨w.heap.size, 0, none⟩ = some (.slice A1 n1 cc1) ∧ w'.cell? ⟨w.heap.size, 1, none⟩ = some (.slice B1 p1 dd1) ∧ w'.cell? ⟨w4.heap.size, 2, none⟩ = some (.int .i64 p.2.2) ∧ w'.cell? ⟨w.heap.size, 2, none⟩ = some (.int .i64 p.2.2))
    (first | exact ⟨cx1, dx1, ca1, da1, ex1, ea1⟩)
    (first | (go_at_call 25; refine (toPeel_own _ _ p (World.drew w8) (HV1.out.below hB.drew) (HU1.out.below hB.drew) (by rw [← HN1.out]; omega) (by rw [← HP1.out]; omega)).mono ?_; rintro e w9 ⟨tb1, tb1u, rfl, otb1, k9⟩; obtain ⟨A_tb1, N_tb1, C_tb1, D_tb1, M_tb1, E_tb1, rfl, rfl⟩ := otb1.isSlice; replace k9 := undrew k9; have s9 := k9.size; replace hB := k9.base hB (by omega) (by omega); replace os0 := os0.keep k9 (by omega); replace ox0 := ox0.keep k9 (by omega); replace ox1 := ox1.keep k9 (by omega); replace og0 := og0.keep k9 (by omega); replace ca1 := cell_keepT ca1 la1 k9 (by omega); replace da1 := cell_keepT da1 la1 k9 (by omega); replace ea1 := cell_keepT ea1 la1 k9 (by omega); replace la1 := Nat.lt_of_lt_of_le la1 (k9).size; replace cs0 := cell_keepT cs0 ls0 k9 (by omega); replace ds0 := cell_keepT ds0 ls0 k9 (by omega); replace es0 := cell_keepT es0 ls0 k9 (by omega); replace ls0 := Nat.lt_of_lt_of_le ls0 (k9).size; replace cx1 := cell_keepT cx1 lx1 k9 (by omega); replace dx1 := cell_keepT dx1 lx1 k9 (by omega); replace ex1 := cell_keepT ex1 lx1 k9 (by omega); replace lx1 := Nat.lt_of_lt_of_le lx1 (k9).size; replace cg0 := cell_keepT cg0 lg0 k9 (by omega); replace dg0 := cell_keepT dg0 lg0 k9 (by omega); replace eg0 := cell_keepT eg0 lg0 k9 (by omega); replace lg0 := Nat.lt_of_lt_of_le lg0 (k9).size) | (go_at_call 16; refine (eqPeel_same _ _ _ _ p _ ox1.seen1 ox1.seen2 otb1.seen1 otb1.seen2).mono ?_; rintro e w10 ⟨rfl, k10⟩; have s10 := k10.size; replace hB := k10.base hB (by omega) (by omega); replace os0 := os0.keep k10 (by omega); replace ox0 := ox0.keep k10 (by omega); replace ox1 := ox1.keep k10 (by omega); replace og0 := og0.keep k10 (by omega); replace otb1 := otb1.keep k10 (by omega); replace ca1 := cell_keepT ca1 la1 k10 (by omega); replace da1 := cell_keepT da1 la1 k10 (by omega); replace ea1 := cell_keepT ea1 la1 k10 (by omega); replace la1 := Nat.lt_of_lt_of_le la1 (k10).size; replace cs0 := cell_keepT cs0 ls0 k10 (by omega); replace ds0 := cell_keepT ds0 ls0 k10 (by omega); replace es0 := cell_keepT es0 ls0 k10 (by omega); replace ls0 := Nat.lt_of_lt_of_le ls0 (k10).size; replace cx1 := cell_keepT cx1 lx1 k10 (by omega); replace dx1 := cell_keepT dx1 lx1 k10 (by omega); replace ex1 := cell_keepT ex1 lx1 k10 (by omega); replace lx1 := Nat.lt_of_lt_of_le lx1 (k10).size; replace cg0 := cell_keepT cg0 lg0 k10 (by omega); replace dg0 := cell_keepT dg0 lg0 k10 (by omega); replace eg0 := cell_keepT eg0 lg0 k10 (by omega); replace lg0 := Nat.lt_of_lt_of_le lg0 (k10).size))
  obtain ⟨m0, hm0⟩ : ∃ zz : Nat, zz = 1 + l.length * 2 := ⟨_, rfl⟩
  have HM0 := Lib.hid hm0
  clear hm0
  have hmb0 : m0 ≤ 10000000 := by rw [HM0.out, ← HN0.out]; omega
  have hmp0 : 1 ≤ m0 := by rw [HM0.out]; omega
  go_wp2_with fail
  refine (markDropS_own _ l 1 _ _ _ ox0 (by omega) (by rw [← HM0.out]; omega)).mono ?_
  rintro e w11 ⟨he, ox0, k11⟩
  have s11 := k11.size
  replace hB := k11.base hB (by omega) (by omega)
  replace os0 := os0.keep k11 (by omega)
  replace ox1 := ox1.keep k11 (by omega)
  replace og0 := og0.keep k11 (by omega)
  replace ca1 := cell_keepT ca1 la1 k11 (by omega)
  replace da1 := cell_keepT da1 la1 k11 (by omega)
  replace ea1 := cell_keepT ea1 la1 k11 (by omega)
  replace la1 := Nat.lt_of_lt_of_le la1 (k11).size
  replace cs0 := cell_keepT cs0 ls0 k11 (by omega)
  replace ds0 := cell_keepT ds0 ls0 k11 (by omega)
  replace es0 := cell_keepT es0 ls0 k11 (by omega)
  replace ls0 := Nat.lt_of_lt_of_le ls0 (k11).size
  replace cx1 := cell_keepT cx1 lx1 k11 (by omega)
  replace dx1 := cell_keepT dx1 lx1 k11 (by omega)
  replace ex1 := cell_keepT ex1 lx1 k11 (by omega)
  replace lx1 := Nat.lt_of_lt_of_le lx1 (k11).size
  replace cg0 := cell_keepT cg0 lg0 k11 (by omega)
  replace dg0 := cell_keepT dg0 lg0 k11 (by omega)
  replace eg0 := cell_keepT eg0 lg0 k11 (by omega)
  replace lg0 := Nat.lt_of_lt_of_le lg0 (k11).size
  rw [← HM0.out] at he
  subst he
  obtain ⟨m1, hm1⟩ : ∃ zz : Nat, zz = m0 + (p.1.length + p.2.1.length) := ⟨_, rfl⟩
  have HM1 := Lib.hid hm1
  clear hm1
  have hmb1 : m1 ≤ 20000000 := by rw [HM1.out, ← HN1.out, ← HP1.out]; omega
  have hmp1 : 1 ≤ m1 := by rw [HM1.out]; omega
  go_wp2_with fail
  refine (markPeel_own _ _ p m0 _ _ _ ox1 (by omega) (by rw [← HM1.out]; omega)).mono ?_
  rintro e w12 ⟨he, ox1, k12⟩
  have s12 := k12.size
  replace hB := k12.base hB (by omega) (by omega)
  replace os0 := os0.keep k12 (by omega)
  replace og0 := og0.keep k12 (by omega)
  replace ca1 := cell_keepT ca1 la1 k12 (by omega)
  replace da1 := cell_keepT da1 la1 k12 (by omega)
  replace ea1 := cell_keepT ea1 la1 k12 (by omega)
  replace la1 := Nat.lt_of_lt_of_le la1 (k12).size
  replace cs0 := cell_keepT cs0 ls0 k12 (by omega)
  replace ds0 := cell_keepT ds0 ls0 k12 (by omega)
  replace es0 := cell_keepT es0 ls0 k12 (by omega)
  replace ls0 := Nat.lt_of_lt_of_le ls0 (k12).size
  replace cx1 := cell_keepT cx1 lx1 k12 (by omega)
  replace dx1 := cell_keepT dx1 lx1 k12 (by omega)
  replace ex1 := cell_keepT ex1 lx1 k12 (by omega)
  replace lx1 := Nat.lt_of_lt_of_le lx1 (k12).size
  replace cg0 := cell_keepT cg0 lg0 k12 (by omega)
  replace dg0 := cell_keepT dg0 lg0 k12 (by omega)
  replace eg0 := cell_keepT eg0 lg0 k12 (by omega)
  replace lg0 := Nat.lt_of_lt_of_le lg0 (k12).size
  rw [← HM1.out] at he
  subst he
  have hk0 : ¬ (m1 : Int) < 0 := by omega
  go_wp2_with fail
  refine (eqPeel_same _ _ _ _ (stpR l p) _ og0.seen1 og0.seen2 os0.seen1 os0.seen2).mono ?_
  rintro e w13 ⟨rfl, k13⟩
  have s13 := k13.size
  replace hB := k13.base hB (by omega) (by omega)
  replace os0 := os0.keep k13 (by omega)
  replace og0 := og0.keep k13 (by omega)
  replace ca1 := cell_keepT ca1 la1 k13 (by omega)
  replace da1 := cell_keepT da1 la1 k13 (by omega)
  replace ea1 := cell_keepT ea1 la1 k13 (by omega)
  replace la1 := Nat.lt_of_lt_of_le la1 (k13).size
  replace cs0 := cell_keepT cs0 ls0 k13 (by omega)
  replace ds0 := cell_keepT ds0 ls0 k13 (by omega)
  replace es0 := cell_keepT es0 ls0 k13 (by omega)
  replace ls0 := Nat.lt_of_lt_of_le ls0 (k13).size
  replace cx1 := cell_keepT cx1 lx1 k13 (by omega)
  replace dx1 := cell_keepT dx1 lx1 k13 (by omega)
  replace ex1 := cell_keepT ex1 lx1 k13 (by omega)
  replace lx1 := Nat.lt_of_lt_of_le lx1 (k13).size
  replace cg0 := cell_keepT cg0 lg0 k13 (by omega)
  replace dg0 := cell_keepT dg0 lg0 k13 (by omega)
  replace eg0 := cell_keepT eg0 lg0 k13 (by omega)
  replace lg0 := Nat.lt_of_lt_of_le lg0 (k13).size
  obtain ⟨r0, hr0⟩ : ∃ zz : Nat, zz = 1 + ((stpR l p).1.length + (stpR l p).2.1.length) := ⟨_, rfl⟩
  have HR0 := Lib.hid hr0
  clear hr0
  have hrb0 : r0 ≤ 100000000 := by have := stpR_len l p; rw [HR0.out]; omega
  go_wp2_with fail
  refine (markPeel_own _ _ (stpR l p) 1 _ _ _ og0 (by omega) (by rw [← HR0.out]; omega)).mono ?_
  rintro e w14 ⟨he, og0, k14⟩
  have s14 := k14.size
  replace hB := k14.base hB (by omega) (by omega)
  replace os0 := os0.keep k14 (by omega)
  replace ca1 := cell_keepT ca1 la1 k14 (by omega)
  replace da1 := cell_keepT da1 la1 k14 (by omega)
  replace ea1 := cell_keepT ea1 la1 k14 (by omega)
  replace la1 := Nat.lt_of_lt_of_le la1 (k14).size
  replace cs0 := cell_keepT cs0 ls0 k14 (by omega)
  replace ds0 := cell_keepT ds0 ls0 k14 (by omega)
  replace es0 := cell_keepT es0 ls0 k14 (by omega)
  replace ls0 := Nat.lt_of_lt_of_le ls0 (k14).size
  replace cx1 := cell_keepT cx1 lx1 k14 (by omega)
  replace dx1 := cell_keepT dx1 lx1 k14 (by omega)
  replace ex1 := cell_keepT ex1 lx1 k14 (by omega)
  replace lx1 := Nat.lt_of_lt_of_le lx1 (k14).size
  replace cg0 := cell_keepT cg0 lg0 k14 (by omega)
  replace dg0 := cell_keepT dg0 lg0 k14 (by omega)
  replace eg0 := cell_keepT eg0 lg0 k14 (by omega)
  replace lg0 := Nat.lt_of_lt_of_le lg0 (k14).size
  rw [← HR0.out] at he
  subst he
  go_wp2_with fail
  refine (heldPeel_own _ _ 1 (stpR l p).1.length (stpR l p).2.1.length _ _ og0.seen1 og0.seen2 (by omega) (by rw [← HR0.out]; omega)).mono ?_
  rintro e w15 ⟨he, k15⟩
  have s15 := k15.size
  replace hB := k15.base hB (by omega) (by omega)
  replace os0 := os0.keep k15 (by omega)
  replace og0 := og0.keep k15 (by omega)
  replace ca1 := cell_keepT ca1 la1 k15 (by omega)
  replace da1 := cell_keepT da1 la1 k15 (by omega)
  replace ea1 := cell_keepT ea1 la1 k15 (by omega)
  replace la1 := Nat.lt_of_lt_of_le la1 (k15).size
  replace cs0 := cell_keepT cs0 ls0 k15 (by omega)
  replace ds0 := cell_keepT ds0 ls0 k15 (by omega)
  replace es0 := cell_keepT es0 ls0 k15 (by omega)
  replace ls0 := Nat.lt_of_lt_of_le ls0 (k15).size
  replace cx1 := cell_keepT cx1 lx1 k15 (by omega)
  replace dx1 := cell_keepT dx1 lx1 k15 (by omega)
  replace ex1 := cell_keepT ex1 lx1 k15 (by omega)
  replace lx1 := Nat.lt_of_lt_of_le lx1 (k15).size
  replace cg0 := cell_keepT cg0 lg0 k15 (by omega)
  replace dg0 := cell_keepT dg0 lg0 k15 (by omega)
  replace eg0 := cell_keepT eg0 lg0 k15 (by omega)
  replace lg0 := Nat.lt_of_lt_of_le lg0 (k15).size
  rw [← HR0.out] at he
  subst he
  have hq0 : ¬ (r0 : Int) < 0 := by omega
  have hqq : ((r0 : Int) != (r0 : Int)) = false := by simp
  go_wp2_with fail
  have HWAh := Lib.hid (HV0.out.below hB)
  have HWCh := Lib.hid (HV1.out.below hB)
  have HWDh := Lib.hid (HU1.out.below hB)
  have hS0 : Below w15.heap.size w15 w15.drew ∧ w15.drew.cell? ⟨w.heap.size, 0, none⟩ = some (.slice A1 n1 cc1) ∧ w15.drew.cell? ⟨w.heap.size, 1, none⟩ = some (.slice B1 p1 dd1) ∧ w15.drew.cell? ⟨w.heap.size, 2, none⟩ = some (.int .i64 p.2.2) := ⟨(Below.refl _ _).drew, ca1, da1, ea1⟩
  have HSS : Hid (∀ W, Below w15.heap.size w15 W → (Below w15.heap.size w15 W ∧ W.cell? ⟨w.heap.size, 0, none⟩ = some (.slice A1 n1 cc1) ∧ W.cell? ⟨w.heap.size, 1, none⟩ = some (.slice B1 p1 dd1) ∧ W.cell? ⟨w.heap.size, 2, none⟩ = some (.int .i64 p.2.2))) := Lib.hid (fun W hb => ⟨hb, (hb.cell (p := ⟨w.heap.size, 0, none⟩) la1).trans ca1, (hb.cell (p := ⟨w.heap.size, 1, none⟩) la1).trans da1, (hb.cell (p := ⟨w.heap.size, 2, none⟩) la1).trans ea1⟩)
  have HSA : Hid (∀ W o, (Below w15.heap.size w15 W ∧ W.cell? ⟨w.heap.size, 0, none⟩ = some (.slice A1 n1 cc1) ∧ W.cell? ⟨w.heap.size, 1, none⟩ = some (.slice B1 p1 dd1) ∧ W.cell? ⟨w.heap.size, 2, none⟩ = some (.int .i64 p.2.2)) → (Below w15.heap.size w15 (W.alloc o) ∧ (W.alloc o).cell? ⟨w.heap.size, 0, none⟩ = some (.slice A1 n1 cc1) ∧ (W.alloc o).cell? ⟨w.heap.size, 1, none⟩ = some (.slice B1 p1 dd1) ∧ (W.alloc o).cell? ⟨w.heap.size, 2, none⟩ = some (.int .i64 p.2.2))) := Lib.hid (fun W o h => HSS.out _ (h.1.alloc h.1.size o))
  have HST : Hid (∀ W W', TurnIn 0 0 W W' → (Below w15.heap.size w15 W ∧ W.cell? ⟨w.heap.size, 0, none⟩ = some (.slice A1 n1 cc1) ∧ W.cell? ⟨w.heap.size, 1, none⟩ = some (.slice B1 p1 dd1) ∧ W.cell? ⟨w.heap.size, 2, none⟩ = some (.int .i64 p.2.2)) → (Below w15.heap.size w15 W' ∧ W'.cell? ⟨w.heap.size, 0, none⟩ = some (.slice A1 n1 cc1) ∧ W'.cell? ⟨w.heap.size, 1, none⟩ = some (.slice B1 p1 dd1) ∧ W'.cell? ⟨w.heap.size, 2, none⟩ = some (.int .i64 p.2.2))) := Lib.hid (fun W W' t h => HSS.out _ (t.base h.1 h.1.size (by omega)))
  have HSC : Hid (∀ W B (o : Nat) x, w15.heap.size ≤ B → (Below w15.heap.size w15 W ∧ W.cell? ⟨w.heap.size, 0, none⟩ = some (.slice A1 n1 cc1) ∧ W.cell? ⟨w.heap.size, 1, none⟩ = some (.slice B1 p1 dd1) ∧ W.cell? ⟨w.heap.size, 2, none⟩ = some (.int .i64 p.2.2)) → (Below w15.heap.size w15 (W.setCell ⟨B, o, none⟩ x) ∧ (W.setCell ⟨B, o, none⟩ x).cell? ⟨w.heap.size, 0, none⟩ = some (.slice A1 n1 cc1) ∧ (W.setCell ⟨B, o, none⟩ x).cell? ⟨w.heap.size, 1, none⟩ = some (.slice B1 p1 dd1) ∧ (W.setCell ⟨B, o, none⟩ x).cell? ⟨w.heap.size, 2, none⟩ = some (.int .i64 p.2.2))) := Lib.hid (fun W B o x hB h => HSS.out _ (h.1.setCell (p := ⟨B, o, none⟩) hB x))
  go_cut [15, 16] from 94 to 101 (fun s6 s7 wx => PBoxOk 9 4 w15 (stpR l p) (stpOk l p) s6 s7 wx)
  case first =>
    go_region_held3 (fun W => Below w15.heap.size w15 W ∧ W.cell? ⟨w.heap.size, 0, none⟩ = some (.slice A1 n1 cc1) ∧ W.cell? ⟨w.heap.size, 1, none⟩ = some (.slice B1 p1 dd1) ∧ W.cell? ⟨w.heap.size, 2, none⟩ = some (.int .i64 p.2.2))
      (first | exact hS0 | exact hS3 | exact hS4 | exact hS5 | exact HSA.out _ _ (by assumption) | exact HSA.out _ _ hS0 | exact HSA.out _ _ hS3 | exact HSA.out _ _ hS4 | exact HSC.out _ _ _ _ (by omega) (HSC.out _ _ _ _ (by omega) (HSC.out _ _ _ _ (by omega) hS5)) | assumption)
      (first
        | (go_at_call 14; (with_reducible refine (toDropS_own v0 l _ (HWAh.out.below (And.left (by assumption))) (by rw [← HN0.out]; omega)).mono ?_); rintro e w3 ⟨tah, rfl, otah, k3⟩; have hS3 := HST.out _ _ k3 (by assumption); have hs3 := hS3.1.size; (first | (have fb := BoxT.keep ⟨b0, b1, b2, b3, b4, b5, b6⟩ k3 (by omega); obtain ⟨b0, b1, b2, b3, b4, b5, b6⟩ := fb) | (have fb := boxT_made k3; obtain ⟨b0, b1, b2, b3, b4, b5, b6⟩ := fb) | (have fb := boxT_made (undrew k3); obtain ⟨b0, b1, b2, b3, b4, b5, b6⟩ := fb) | skip))
        | (go_at_call 25; (with_reducible refine (toPeel_own (.slice A1 n1 cc1) (.slice B1 p1 dd1) p _ (HWCh.out.below (And.left (by assumption))) (HWDh.out.below (And.left (by assumption))) (by rw [← HN1.out]; omega) (by rw [← HP1.out]; omega)).mono ?_); rintro e w4 ⟨tbh, tbhu, rfl, otbh, k4⟩; obtain ⟨A_tbh, N_tbh, C_tbh, D_tbh, M_tbh, E_tbh, rfl, rfl⟩ := otbh.isSlice; have hS4 := HST.out _ _ k4 (by assumption); have hs4 := hS4.1.size; have k34 : TurnIn 0 0 w3 w4 := (by first | exact k4 | exact turn_trans (turn_alloc _ _) k4 (by omega)); replace otah := otah.keep k34 (by omega); (first | (have fb := BoxT.keep ⟨b0, b1, b2, b3, b4, b5, b6⟩ k4 (by omega); obtain ⟨b0, b1, b2, b3, b4, b5, b6⟩ := fb) | (have fb := boxT_made k4; obtain ⟨b0, b1, b2, b3, b4, b5, b6⟩ := fb) | (have fb := boxT_made (undrew k4); obtain ⟨b0, b1, b2, b3, b4, b5, b6⟩ := fb) | skip))
        | (go_at_call 26; refine (stepPeel_own _ _ _ l p _ (by first | exact otah.seen | exact (otah.keep (turn_alloc _ _) (by omega)).seen) (by first | exact otbh.seen1 | exact (otbh.keep (turn_alloc _ _) (by omega)).seen1) (by first | exact otbh.seen2 | exact (otbh.keep (turn_alloc _ _) (by omega)).seen2)).mono ?_; rintro e w5 ⟨h0, h0u, rfl, oh0, k5⟩; obtain ⟨A_h0, N_h0, C_h0, D_h0, M_h0, E_h0, rfl, rfl⟩ := oh0.isSlice; have hS5 := HST.out _ _ k5 (by assumption); have hs5 := hS5.1.size; have k45 : TurnIn 0 0 w4 w5 := (by first | exact k5 | exact turn_trans (turn_alloc _ _) k5 (by omega)); (first | (have hBl := b6; have fb := BoxT.keep ⟨b0, b1, b2, b3, b4, b5, b6⟩ k5 (by omega); obtain ⟨b0, b1, b2, b3, b4, b5, b6⟩ := fb) | (have hBl := alloc_lt w4 (.cells #[.slice none 0 0, .slice none 0 0, .int .i64 0] 33); have fb := boxT_made k5; obtain ⟨b0, b1, b2, b3, b4, b5, b6⟩ := fb) | skip)))
    all_goals
      have hs5 := hS5.1.size
      go_wp2_with fail
      go_meet
      first
        | exact pbox_new (TurnIn.of_below hS5.1) oh0 (by first | omega | (simp; omega))
        | exact pbox_set ⟨b0, b1, b2, b3, b4, b5, b6⟩ hBl (by first | omega | (simp; omega)) (TurnIn.of_below hS5.1) oh0
  obtain ⟨B_h0, x_h0, y_h0, lo_h0, hi_h0, rfl, rfl, hbx_h0, hBb_h0, oh0, hlo_h0, hhi_h0, hor_h0, tc_h0⟩ := hcut
  obtain ⟨A_h0, N_h0, C_h0, D_h0, M_h0, E_h0, rfl, rfl⟩ := oh0.isSlice
  have sc_h0 := tc_h0.size
  replace hB := tc_h0.base hB (by omega) (by omega)
  replace os0 := os0.keep tc_h0 (by omega)
  replace og0 := og0.keep tc_h0 (by omega)
  replace ca1 := cell_keepT ca1 la1 tc_h0 (by omega)
  replace da1 := cell_keepT da1 la1 tc_h0 (by omega)
  replace ea1 := cell_keepT ea1 la1 tc_h0 (by omega)
  replace la1 := Nat.lt_of_lt_of_le la1 (tc_h0).size
  replace cs0 := cell_keepT cs0 ls0 tc_h0 (by omega)
  replace ds0 := cell_keepT ds0 ls0 tc_h0 (by omega)
  replace es0 := cell_keepT es0 ls0 tc_h0 (by omega)
  replace ls0 := Nat.lt_of_lt_of_le ls0 (tc_h0).size
  replace cx1 := cell_keepT cx1 lx1 tc_h0 (by omega)
  replace dx1 := cell_keepT dx1 lx1 tc_h0 (by omega)
  replace ex1 := cell_keepT ex1 lx1 tc_h0 (by omega)
  replace lx1 := Nat.lt_of_lt_of_le lx1 (tc_h0).size
  replace cg0 := cell_keepT cg0 lg0 tc_h0 (by omega)
  replace dg0 := cell_keepT dg0 lg0 tc_h0 (by omega)
  replace eg0 := cell_keepT eg0 lg0 tc_h0 (by omega)
  replace lg0 := Nat.lt_of_lt_of_le lg0 (tc_h0).size
  have ch0 := hbx_h0.c0
  have dh0 := hbx_h0.c1
  have eh0 := hbx_h0.c2
  have lh0 := hbx_h0.lt
  have hBs_h0 := hbx_h0.lt
  clear hbx_h0 HSS HSA HST HSC hS0
  generalize hwc : wc = wc_h at *
  clear hwc
  go_wp2_with fail
  refine (eqPeel_same _ _ _ _ (stpR l p) _ oh0.seen1 oh0.seen2 os0.seen1 os0.seen2).mono ?_
  rintro e w16 ⟨rfl, k16⟩
  have s16 := k16.size
  replace hB := k16.base hB (by omega) (by omega)
  replace os0 := os0.keep k16 (by omega)
  replace og0 := og0.keep k16 (by omega)
  replace oh0 := oh0.keep k16 (by omega)
  replace ca1 := cell_keepT ca1 la1 k16 (by omega)
  replace da1 := cell_keepT da1 la1 k16 (by omega)
  replace ea1 := cell_keepT ea1 la1 k16 (by omega)
  replace la1 := Nat.lt_of_lt_of_le la1 (k16).size
  replace cs0 := cell_keepT cs0 ls0 k16 (by omega)
  replace ds0 := cell_keepT ds0 ls0 k16 (by omega)
  replace es0 := cell_keepT es0 ls0 k16 (by omega)
  replace ls0 := Nat.lt_of_lt_of_le ls0 (k16).size
  replace cx1 := cell_keepT cx1 lx1 k16 (by omega)
  replace dx1 := cell_keepT dx1 lx1 k16 (by omega)
  replace ex1 := cell_keepT ex1 lx1 k16 (by omega)
  replace lx1 := Nat.lt_of_lt_of_le lx1 (k16).size
  replace cg0 := cell_keepT cg0 lg0 k16 (by omega)
  replace dg0 := cell_keepT dg0 lg0 k16 (by omega)
  replace eg0 := cell_keepT eg0 lg0 k16 (by omega)
  replace lg0 := Nat.lt_of_lt_of_le lg0 (k16).size
  replace ch0 := cell_keepT ch0 lh0 k16 (by omega)
  replace dh0 := cell_keepT dh0 lh0 k16 (by omega)
  replace eh0 := cell_keepT eh0 lh0 k16 (by omega)
  replace lh0 := Nat.lt_of_lt_of_le lh0 (k16).size
  go_wp2_with fail
  refine (heldPeel_own _ _ 1 (stpR l p).1.length (stpR l p).2.1.length _ _ og0.seen1 og0.seen2 (by omega) (by rw [← HR0.out]; omega)).mono ?_
  rintro e w17 ⟨he, k17⟩
  have s17 := k17.size
  replace hB := k17.base hB (by omega) (by omega)
  replace os0 := os0.keep k17 (by omega)
  replace og0 := og0.keep k17 (by omega)
  replace oh0 := oh0.keep k17 (by omega)
  replace ca1 := cell_keepT ca1 la1 k17 (by omega)
  replace da1 := cell_keepT da1 la1 k17 (by omega)
  replace ea1 := cell_keepT ea1 la1 k17 (by omega)
  replace la1 := Nat.lt_of_lt_of_le la1 (k17).size
  replace cs0 := cell_keepT cs0 ls0 k17 (by omega)
  replace ds0 := cell_keepT ds0 ls0 k17 (by omega)
  replace es0 := cell_keepT es0 ls0 k17 (by omega)
  replace ls0 := Nat.lt_of_lt_of_le ls0 (k17).size
  replace cx1 := cell_keepT cx1 lx1 k17 (by omega)
  replace dx1 := cell_keepT dx1 lx1 k17 (by omega)
  replace ex1 := cell_keepT ex1 lx1 k17 (by omega)
  replace lx1 := Nat.lt_of_lt_of_le lx1 (k17).size
  replace cg0 := cell_keepT cg0 lg0 k17 (by omega)
  replace dg0 := cell_keepT dg0 lg0 k17 (by omega)
  replace eg0 := cell_keepT eg0 lg0 k17 (by omega)
  replace lg0 := Nat.lt_of_lt_of_le lg0 (k17).size
  replace ch0 := cell_keepT ch0 lh0 k17 (by omega)
  replace dh0 := cell_keepT dh0 lh0 k17 (by omega)
  replace eh0 := cell_keepT eh0 lh0 k17 (by omega)
  replace lh0 := Nat.lt_of_lt_of_le lh0 (k17).size
  rw [← HR0.out] at he
  subst he
  have hq0 : ¬ (r0 : Int) < 0 := by omega
  have hqq : ((r0 : Int) != (r0 : Int)) = false := by simp
  go_wp2_with fail
  go_ret
  exact ⟨rfl, hB⟩

set_option maxRecDepth 100000 in
theorem walk_FnExactStepPeel : G294.LawWalk Try.prog 6 Try.f6 Rows.fnExactStepPeelSpec.vars false (fun _ => True) := by
  intro H enc W base args ds gs before hval hW hX
  have hlt0 : ∀ p ∈ before, p.block < W.heap.size := fun p hp => hW.lt p hp
  obtain ⟨p, q, hA, hV, rfl, hfz, hnd⟩ := hW
  rw [Try.params6] at hA hval
  obtain ⟨u0, vs0, d0, ds0, p0, q0, hargs, rfl, rfl, t0, r0⟩ := trodAll_cons hA
  obtain ⟨u1, vs1, d1, ds1, p1, q1, rfl, rfl, rfl, t1, r1⟩ := trodAll_cons r0
  obtain ⟨rfl, rfl, rfl⟩ := trodAll_nil r1
  obtain rfl : args = #[u0, u1] := by cases args; simp_all
  obtain ⟨l0, sn0, mx0⟩ := seen_shs Try.underlying28 Try.underlying57 (by kernel_rfl) rfl rfl (by kernel_rfl) (by kernel_rfl) Try.underlying3 Try.underlying9 (hval 0 28 u0 rfl rfl) t0 (fun x hx => hlt0 x (by simp [hx]))
  obtain ⟨x1, y1, l1, rfl, sn1, sm1, mx1⟩ := open_peel Try.underlying45 (by kernel_rfl) (by kernel_rfl) Try.underlying30 Try.underlying31 Try.underlying3 Try.underlying9 (by kernel_rfl) Try.underlying4 (by kernel_rfl) (hval 1 45 u1 rfl rfl) t1
  exact exactStepPeel_walk u0 l0 x1 y1 l1 W sn0 mx0 sn1 sm1 mx1

end Go.Proofs.Ytjklngheehhggaa
