/- The walk of FnExactMergeStripes. -/
import Derived.Test.YtbopocpmodpfcaaDoorRows
import Derived.Deep.RegionHeld3
import Derived.Deep.CutRange
import Derived.Test.YtbopocpmodpfcaaDoorBd00
import Derived.Test.YtbopocpmodpfcaaDoorBd02
import Derived.Test.YtbopocpmodpfcaaDoorBd03
import Derived.Test.YtbopocpmodpfcaaDoorBd07
import Derived.Test.YtbopocpmodpfcaaDoorBd11
import Derived.Test.YtbopocpmodpfcaaDoorBd17
import Derived.Test.YtbopocpmodpfcaaDoorBd18
import Derived.Test.YtbopocpmodpfcaaDoorBd10
set_option linter.unusedSimpArgs false
set_option linter.unusedVariables false
namespace Go.Proofs.YtbopocpmodpfcaaDoor
open Go.ChangeShapes Go.WideShapes Go.ChangeAt Go.RowKit G294

set_option maxRecDepth 100000 in
set_option maxHeartbeats 8000000 in
theorem exactMergeStripes_walk (v0 u0 : Value) (a : Strp) (v1 u1 : Value) (q : Strp) (w : World) (hv0 : Seen w v0 (strs a.1)) (hu0 : Seen w u0 (strs a.2)) (hmx0 : ∀ t ∈ a.1, t.length ≤ maxLen) (hmy0 : ∀ t ∈ a.2, t.length ≤ maxLen) (hv1 : Seen w v1 (strs q.1)) (hu1 : Seen w u1 (strs q.2)) (hmx1 : ∀ t ∈ q.1, t.length ≤ maxLen) (hmy1 : ∀ t ∈ q.2, t.length ≤ maxLen) (ht : Tab w) (h0 : 0 < w.heap.size) :
    Calls Tryd.prog 8 #[.agg #[v0, u0], .agg #[v1, u1]] w fun e w' => e = .returned (.bool true) ∧ Below w.heap.size w w' := by
  have hbb1 : (mrgOk a q != mrgOk a q) = false := by simp
  obtain ⟨A0, cc0, hvv0⟩ := hv0.len
  rw [strs_length] at hvv0
  rw [hvv0] at hv0 ⊢
  clear hvv0
  have HV0 := Lib.hid hv0
  clear hv0
  obtain ⟨B0, dd0, huu0⟩ := hu0.len
  rw [strs_length] at huu0
  rw [huu0] at hu0 ⊢
  clear huu0
  have HU0 := Lib.hid hu0
  clear hu0
  have hle0 := totT_le a
  obtain ⟨z0, hz0⟩ : ∃ zz, zz = totT a := ⟨_, rfl⟩
  have HZ0 := Lib.hid hz0
  rw [← hz0] at hle0
  clear hz0
  obtain ⟨n0, hn0⟩ : ∃ zz, zz = a.1.length := ⟨_, rfl⟩
  have HN0 := Lib.hid hn0
  rw [← hn0] at HV0 hle0 ⊢
  clear hn0
  obtain ⟨p0, hp0⟩ : ∃ zz, zz = a.2.length := ⟨_, rfl⟩
  have HP0 := Lib.hid hp0
  rw [← hp0] at HU0 hle0 ⊢
  clear hp0
  obtain ⟨hlu0, hlv0⟩ := hle0
  have HMX0 := Lib.hid hmx0
  clear hmx0
  have HMY0 := Lib.hid hmy0
  clear hmy0
  obtain ⟨A1, cc1, hvv1⟩ := hv1.len
  rw [strs_length] at hvv1
  rw [hvv1] at hv1 ⊢
  clear hvv1
  have HV1 := Lib.hid hv1
  clear hv1
  obtain ⟨B1, dd1, huu1⟩ := hu1.len
  rw [strs_length] at huu1
  rw [huu1] at hu1 ⊢
  clear huu1
  have HU1 := Lib.hid hu1
  clear hu1
  have hle1 := totT_le q
  obtain ⟨z1, hz1⟩ : ∃ zz, zz = totT q := ⟨_, rfl⟩
  have HZ1 := Lib.hid hz1
  rw [← hz1] at hle1
  clear hz1
  obtain ⟨n1, hn1⟩ : ∃ zz, zz = q.1.length := ⟨_, rfl⟩
  have HN1 := Lib.hid hn1
  rw [← hn1] at HV1 hle1 ⊢
  clear hn1
  obtain ⟨p1, hp1⟩ : ∃ zz, zz = q.2.length := ⟨_, rfl⟩
  have HP1 := Lib.hid hp1
  rw [← hp1] at HU1 hle1 ⊢
  clear hp1
  obtain ⟨hlu1, hlv1⟩ := hle1
  have HMX1 := Lib.hid hmx1
  clear hmx1
  have HMY1 := Lib.hid hmy1
  clear hmy1
  have hB := Below.refl w.heap.size w
  have a1 := turn_alloc w (.cells #[.slice A0 n0 cc0, .slice B0 p0 dd0] 58)
  have z1a := World.size_alloc w (.cells #[.slice A0 n0 cc0, .slice B0 p0 dd0] 58)
  replace hB := a1.base hB (by omega) (by omega)
  have ca0 := alloc_duo0 w (.slice A0 n0 cc0) (.slice B0 p0 dd0) 58
  have da0 := alloc_duo1 w (.slice A0 n0 cc0) (.slice B0 p0 dd0) 58
  have la0 := alloc_ltT w (.cells #[.slice A0 n0 cc0, .slice B0 p0 dd0] 58)
  have a2 := turn_alloc (World.alloc w (.cells #[.slice A0 n0 cc0, .slice B0 p0 dd0] 58)) (.cells #[.slice A1 n1 cc1, .slice B1 p1 dd1] 58)
  have z2a := World.size_alloc (World.alloc w (.cells #[.slice A0 n0 cc0, .slice B0 p0 dd0] 58)) (.cells #[.slice A1 n1 cc1, .slice B1 p1 dd1] 58)
  replace hB := a2.base hB (by omega) (by omega)
  replace ca0 := cell_keepT ca0 la0 a2 (by omega)
  replace da0 := cell_keepT da0 la0 a2 (by omega)
  replace la0 := Nat.lt_of_lt_of_le la0 (a2).size
  have ca1 := alloc_duo0 (World.alloc w (.cells #[.slice A0 n0 cc0, .slice B0 p0 dd0] 58)) (.slice A1 n1 cc1) (.slice B1 p1 dd1) 58
  have da1 := alloc_duo1 (World.alloc w (.cells #[.slice A0 n0 cc0, .slice B0 p0 dd0] 58)) (.slice A1 n1 cc1) (.slice B1 p1 dd1) 58
  have la1 := alloc_ltT (World.alloc w (.cells #[.slice A0 n0 cc0, .slice B0 p0 dd0] 58)) (.cells #[.slice A1 n1 cc1, .slice B1 p1 dd1] 58)
  rw [World.size_alloc] at ca1 da1
  replace la1 : w.heap.size + 1 < (World.alloc (World.alloc w (.cells #[.slice A0 n0 cc0, .slice B0 p0 dd0] 58)) (.cells #[.slice A1 n1 cc1, .slice B1 p1 dd1] 58)).heap.size := by simp
  go_enter Tryd.func8, Tryd.ntmps8
  by_cases hbz0 : 1048576 < z0
  · go_wp2_with fail
    refine (szStripe_no _ _ a (1048576) _ (HV0.out.below hB) (HU0.out.below hB) HMX0.out HMY0.out (by rw [← HZ0.out]; omega) (by omega)).mono ?_
    rintro e w1 ⟨rfl, k1⟩
    have s1 := k1.size
    replace hB := k1.base hB (by omega) (by omega)
    replace ca0 := cell_keepT ca0 la0 k1 (by omega)
    replace da0 := cell_keepT da0 la0 k1 (by omega)
    replace la0 := Nat.lt_of_lt_of_le la0 (k1).size
    replace ca1 := cell_keepT ca1 la1 k1 (by omega)
    replace da1 := cell_keepT da1 la1 k1 (by omega)
    replace la1 := Nat.lt_of_lt_of_le la1 (k1).size
    go_wp2_with fail
    go_ret
    exact ⟨rfl, hB⟩
  go_wp2_with fail
  refine (szStripe_yes _ _ a (1048576) _ (HV0.out.below hB) (HU0.out.below hB) HMX0.out HMY0.out (by rw [← HZ0.out]; omega) (by omega)).mono ?_
  rintro e w1 ⟨he, k1⟩
  have s1 := k1.size
  replace hB := k1.base hB (by omega) (by omega)
  replace ca0 := cell_keepT ca0 la0 k1 (by omega)
  replace da0 := cell_keepT da0 la0 k1 (by omega)
  replace la0 := Nat.lt_of_lt_of_le la0 (k1).size
  replace ca1 := cell_keepT ca1 la1 k1 (by omega)
  replace da1 := cell_keepT da1 la1 k1 (by omega)
  replace la1 := Nat.lt_of_lt_of_le la1 (k1).size
  rw [← HZ0.out] at he
  obtain ⟨left0, hleft0⟩ : ∃ zz : Nat, zz = 1048576 - z0 := ⟨_, rfl⟩
  have HL0 := Lib.hid hleft0
  rw [← hleft0] at he
  have hlb0 : left0 ≤ 1048576 := by omega
  clear hleft0
  subst he
  have hln0 : ¬ (left0 : Int) < 0 := by omega
  by_cases hbz1 : left0 < z1
  · go_wp2_with fail
    refine (szStripe_no _ _ q (left0) _ (HV1.out.below hB) (HU1.out.below hB) HMX1.out HMY1.out (by rw [← HZ1.out]; omega) (by omega)).mono ?_
    rintro e w2 ⟨rfl, k2⟩
    have s2 := k2.size
    replace hB := k2.base hB (by omega) (by omega)
    replace ca0 := cell_keepT ca0 la0 k2 (by omega)
    replace da0 := cell_keepT da0 la0 k2 (by omega)
    replace la0 := Nat.lt_of_lt_of_le la0 (k2).size
    replace ca1 := cell_keepT ca1 la1 k2 (by omega)
    replace da1 := cell_keepT da1 la1 k2 (by omega)
    replace la1 := Nat.lt_of_lt_of_le la1 (k2).size
    go_wp2_with fail
    go_ret
    exact ⟨rfl, hB⟩
  go_wp2_with fail
  refine (szStripe_yes _ _ q (left0) _ (HV1.out.below hB) (HU1.out.below hB) HMX1.out HMY1.out (by rw [← HZ1.out]; omega) (by omega)).mono ?_
  rintro e w2 ⟨he, k2⟩
  have s2 := k2.size
  replace hB := k2.base hB (by omega) (by omega)
  replace ca0 := cell_keepT ca0 la0 k2 (by omega)
  replace da0 := cell_keepT da0 la0 k2 (by omega)
  replace la0 := Nat.lt_of_lt_of_le la0 (k2).size
  replace ca1 := cell_keepT ca1 la1 k2 (by omega)
  replace da1 := cell_keepT da1 la1 k2 (by omega)
  replace la1 := Nat.lt_of_lt_of_le la1 (k2).size
  rw [← HZ1.out] at he
  obtain ⟨left1, hleft1⟩ : ∃ zz : Nat, zz = left0 - z1 := ⟨_, rfl⟩
  have HL1 := Lib.hid hleft1
  rw [← hleft1] at he
  have hlb1 : left1 ≤ 1048576 := by omega
  clear hleft1
  subst he
  have hln1 : ¬ (left1 : Int) < 0 := by omega
  go_wp2_with fail
  have HWAs := Lib.hid (HV0.out.below hB)
  have HWBs := Lib.hid (HU0.out.below hB)
  have HWCs := Lib.hid (HV1.out.below hB)
  have HWDs := Lib.hid (HU1.out.below hB)
  have hS0 : Below w2.heap.size w2 w2.drew ∧ w2.drew.cell? ⟨w.heap.size, 0, none⟩ = some (.slice A0 n0 cc0) ∧ w2.drew.cell? ⟨w.heap.size, 1, none⟩ = some (.slice B0 p0 dd0) ∧ w2.drew.cell? ⟨(w.heap.size + 1), 0, none⟩ = some (.slice A1 n1 cc1) ∧ w2.drew.cell? ⟨(w.heap.size + 1), 1, none⟩ = some (.slice B1 p1 dd1) := ⟨(Below.refl _ _).drew, ca0, da0, ca1, da1⟩
  have HSS : Hid (∀ W, Below w2.heap.size w2 W → (Below w2.heap.size w2 W ∧ W.cell? ⟨w.heap.size, 0, none⟩ = some (.slice A0 n0 cc0) ∧ W.cell? ⟨w.heap.size, 1, none⟩ = some (.slice B0 p0 dd0) ∧ W.cell? ⟨(w.heap.size + 1), 0, none⟩ = some (.slice A1 n1 cc1) ∧ W.cell? ⟨(w.heap.size + 1), 1, none⟩ = some (.slice B1 p1 dd1))) := Lib.hid (fun W hb => four_below ca0 da0 ca1 da1 la0 la1 hb)
  have HSA : Hid (∀ W o, (Below w2.heap.size w2 W ∧ W.cell? ⟨w.heap.size, 0, none⟩ = some (.slice A0 n0 cc0) ∧ W.cell? ⟨w.heap.size, 1, none⟩ = some (.slice B0 p0 dd0) ∧ W.cell? ⟨(w.heap.size + 1), 0, none⟩ = some (.slice A1 n1 cc1) ∧ W.cell? ⟨(w.heap.size + 1), 1, none⟩ = some (.slice B1 p1 dd1)) → (Below w2.heap.size w2 (W.alloc o) ∧ (W.alloc o).cell? ⟨w.heap.size, 0, none⟩ = some (.slice A0 n0 cc0) ∧ (W.alloc o).cell? ⟨w.heap.size, 1, none⟩ = some (.slice B0 p0 dd0) ∧ (W.alloc o).cell? ⟨(w.heap.size + 1), 0, none⟩ = some (.slice A1 n1 cc1) ∧ (W.alloc o).cell? ⟨(w.heap.size + 1), 1, none⟩ = some (.slice B1 p1 dd1))) := Lib.hid (fun W o h => HSS.out _ (h.1.alloc h.1.size o))
  have HST : Hid (∀ W W', TurnIn 0 0 W W' → (Below w2.heap.size w2 W ∧ W.cell? ⟨w.heap.size, 0, none⟩ = some (.slice A0 n0 cc0) ∧ W.cell? ⟨w.heap.size, 1, none⟩ = some (.slice B0 p0 dd0) ∧ W.cell? ⟨(w.heap.size + 1), 0, none⟩ = some (.slice A1 n1 cc1) ∧ W.cell? ⟨(w.heap.size + 1), 1, none⟩ = some (.slice B1 p1 dd1)) → (Below w2.heap.size w2 W' ∧ W'.cell? ⟨w.heap.size, 0, none⟩ = some (.slice A0 n0 cc0) ∧ W'.cell? ⟨w.heap.size, 1, none⟩ = some (.slice B0 p0 dd0) ∧ W'.cell? ⟨(w.heap.size + 1), 0, none⟩ = some (.slice A1 n1 cc1) ∧ W'.cell? ⟨(w.heap.size + 1), 1, none⟩ = some (.slice B1 p1 dd1))) := Lib.hid (fun W W' t h => HSS.out _ (t.base h.1 h.1.size (by omega)))
  have HSC : Hid (∀ W B (o : Nat) x, w2.heap.size ≤ B → (Below w2.heap.size w2 W ∧ W.cell? ⟨w.heap.size, 0, none⟩ = some (.slice A0 n0 cc0) ∧ W.cell? ⟨w.heap.size, 1, none⟩ = some (.slice B0 p0 dd0) ∧ W.cell? ⟨(w.heap.size + 1), 0, none⟩ = some (.slice A1 n1 cc1) ∧ W.cell? ⟨(w.heap.size + 1), 1, none⟩ = some (.slice B1 p1 dd1)) → (Below w2.heap.size w2 (W.setCell ⟨B, o, none⟩ x) ∧ (W.setCell ⟨B, o, none⟩ x).cell? ⟨w.heap.size, 0, none⟩ = some (.slice A0 n0 cc0) ∧ (W.setCell ⟨B, o, none⟩ x).cell? ⟨w.heap.size, 1, none⟩ = some (.slice B0 p0 dd0) ∧ (W.setCell ⟨B, o, none⟩ x).cell? ⟨(w.heap.size + 1), 0, none⟩ = some (.slice A1 n1 cc1) ∧ (W.setCell ⟨B, o, none⟩ x).cell? ⟨(w.heap.size + 1), 1, none⟩ = some (.slice B1 p1 dd1))) := Lib.hid (fun W B o x hB h => HSS.out _ (h.1.setCell (p := ⟨B, o, none⟩) hB x))
  go_cut [6, 7] from 27 to 34 (fun s6 s7 wx => TBoxOk 9 w2 (mrgR a q) (mrgOk a q) s6 s7 wx)
  case first =>
    go_region_held3 (fun W => Below w2.heap.size w2 W ∧ W.cell? ⟨w.heap.size, 0, none⟩ = some (.slice A0 n0 cc0) ∧ W.cell? ⟨w.heap.size, 1, none⟩ = some (.slice B0 p0 dd0) ∧ W.cell? ⟨(w.heap.size + 1), 0, none⟩ = some (.slice A1 n1 cc1) ∧ W.cell? ⟨(w.heap.size + 1), 1, none⟩ = some (.slice B1 p1 dd1))
      (first | exact hS0 | exact hS3 | exact hS4 | exact hS5 | exact HSA.out _ _ (by assumption) | exact HSA.out _ _ hS0 | exact HSA.out _ _ hS3 | exact HSA.out _ _ hS4 | exact HSC.out _ _ _ _ (by omega) (HSC.out _ _ _ _ (by omega) hS5) | assumption)
      (first
        | (go_at_call 44; (with_reducible refine (toStripe_own (.slice A0 n0 cc0) (.slice B0 p0 dd0) a _ (HWAs.out.below (And.left (by assumption))) (HWBs.out.below (And.left (by assumption))) (by rw [← HN0.out]; omega) (by rw [← HP0.out]; omega)).mono ?_); rintro e w3 ⟨tas, tasu, rfl, otas, k3⟩; obtain ⟨A_tas, N_tas, C_tas, D_tas, M_tas, E_tas, rfl, rfl⟩ := otas.isSlice; have hS3 := HST.out _ _ k3 (by assumption); have hs3 := hS3.1.size; (first | (have fb := boxD_kept ⟨b0, b1, b2, b3, b4⟩ k3; obtain ⟨b0, b1, b2, b3, b4⟩ := fb) | (have fb := boxD_made k3; obtain ⟨b0, b1, b2, b3, b4⟩ := fb) | (have fb := boxD_made (undrew k3); obtain ⟨b0, b1, b2, b3, b4⟩ := fb) | skip))
        | (go_at_call 44; (with_reducible refine (toStripe_own (.slice A1 n1 cc1) (.slice B1 p1 dd1) q _ (HWCs.out.below (And.left (by assumption))) (HWDs.out.below (And.left (by assumption))) (by rw [← HN1.out]; omega) (by rw [← HP1.out]; omega)).mono ?_); rintro e w4 ⟨tbs, tbsu, rfl, otbs, k4⟩; obtain ⟨A_tbs, N_tbs, C_tbs, D_tbs, M_tbs, E_tbs, rfl, rfl⟩ := otbs.isSlice; have hS4 := HST.out _ _ k4 (by assumption); have hs4 := hS4.1.size; have k34 : TurnIn 0 0 w3 w4 := (by first | exact k4 | exact turn_trans (turn_alloc _ _) k4 (by omega)); replace otas := otas.keep k34 (by omega); (first | (have fb := boxD_kept ⟨b0, b1, b2, b3, b4⟩ k4; obtain ⟨b0, b1, b2, b3, b4⟩ := fb) | (have fb := boxD_made k4; obtain ⟨b0, b1, b2, b3, b4⟩ := fb) | (have fb := boxD_made (undrew k4); obtain ⟨b0, b1, b2, b3, b4⟩ := fb) | skip))
        | (go_at_call 14; refine (sMergeStripes_own _ _ _ _ a q _ (by first | exact otas.seen1 | exact (otas.keep (turn_alloc _ _) (by omega)).seen1) (by first | exact otas.seen2 | exact (otas.keep (turn_alloc _ _) (by omega)).seen2) (by first | exact otbs.seen1 | exact (otbs.keep (turn_alloc _ _) (by omega)).seen1) (by first | exact otbs.seen2 | exact (otbs.keep (turn_alloc _ _) (by omega)).seen2)).mono ?_; rintro e w5 ⟨s0, s0u, rfl, os0, k5⟩; obtain ⟨A_s0, N_s0, C_s0, D_s0, M_s0, E_s0, rfl, rfl⟩ := os0.isSlice; have hS5 := HST.out _ _ k5 (by assumption); have hs5 := hS5.1.size; have k45 : TurnIn 0 0 w4 w5 := (by first | exact k5 | exact turn_trans (turn_alloc _ _) k5 (by omega)); (first | (have hBl := b4; have fb := boxD_kept ⟨b0, b1, b2, b3, b4⟩ k5; obtain ⟨b0, b1, b2, b3, b4⟩ := fb) | (have hBl := alloc_lt w4 (.cells #[.slice none 0 0, .slice none 0 0] 25); have fb := boxD_made k5; obtain ⟨b0, b1, b2, b3, b4⟩ := fb) | skip)))
    all_goals
      have hs5 := hS5.1.size
      go_wp2_with fail
      go_meet
      first
        | exact tbox_new (TurnIn.of_below hS5.1) os0 (by first | omega | (simp; omega))
        | exact tbox_set ⟨b0, b1, b2, b3, b4⟩ hBl (by first | omega | (simp; omega)) (TurnIn.of_below hS5.1) os0
  obtain ⟨B_s0, x_s0, y_s0, lo_s0, hi_s0, rfl, rfl, cc_s0, dd_s0, hBs_s0, hBb_s0, os0, hlo_s0, hhi_s0, hor_s0, tc_s0⟩ := hcut
  obtain ⟨A_s0, N_s0, C_s0, D_s0, M_s0, E_s0, rfl, rfl⟩ := os0.isSlice
  have sc_s0 := tc_s0.size
  replace hB := tc_s0.base hB (by omega) (by omega)
  replace ca0 := cell_keepT ca0 la0 tc_s0 (by omega)
  replace da0 := cell_keepT da0 la0 tc_s0 (by omega)
  replace la0 := Nat.lt_of_lt_of_le la0 (tc_s0).size
  replace ca1 := cell_keepT ca1 la1 tc_s0 (by omega)
  replace da1 := cell_keepT da1 la1 tc_s0 (by omega)
  replace la1 := Nat.lt_of_lt_of_le la1 (tc_s0).size
  have cs0 := cc_s0
  have ds0 := dd_s0
  have ls0 := hBs_s0
  clear cc_s0 dd_s0 HSS HSA HST HSC hS0
  generalize hwc : wc = wc_s at *
  clear hwc
  go_wp2_with fail
  refine (toStripe_own _ _ a _ (HV0.out.below hB) (HU0.out.below hB) (by rw [← HN0.out]; omega) (by rw [← HP0.out]; omega)).mono ?_
  rintro e w3 ⟨x0, x0u, rfl, ox0, k3⟩
  obtain ⟨A_x0, N_x0, C_x0, D_x0, M_x0, E_x0, rfl, rfl⟩ := ox0.isSlice
  have s3 := k3.size
  replace hB := k3.base hB (by omega) (by omega)
  replace os0 := os0.keep k3 (by omega)
  replace ca0 := cell_keepT ca0 la0 k3 (by omega)
  replace da0 := cell_keepT da0 la0 k3 (by omega)
  replace la0 := Nat.lt_of_lt_of_le la0 (k3).size
  replace ca1 := cell_keepT ca1 la1 k3 (by omega)
  replace da1 := cell_keepT da1 la1 k3 (by omega)
  replace la1 := Nat.lt_of_lt_of_le la1 (k3).size
  replace cs0 := cell_keepT cs0 ls0 k3 (by omega)
  replace ds0 := cell_keepT ds0 ls0 k3 (by omega)
  replace ls0 := Nat.lt_of_lt_of_le ls0 (k3).size
  have a3 := turn_alloc w3 (.cells #[.slice A_x0 N_x0 C_x0, .slice D_x0 M_x0 E_x0] 25)
  have z3a := World.size_alloc w3 (.cells #[.slice A_x0 N_x0 C_x0, .slice D_x0 M_x0 E_x0] 25)
  replace hB := a3.base hB (by omega) (by omega)
  replace os0 := os0.keep a3 (by omega)
  replace ox0 := ox0.keep a3 (by omega)
  replace ca0 := cell_keepT ca0 la0 a3 (by omega)
  replace da0 := cell_keepT da0 la0 a3 (by omega)
  replace la0 := Nat.lt_of_lt_of_le la0 (a3).size
  replace ca1 := cell_keepT ca1 la1 a3 (by omega)
  replace da1 := cell_keepT da1 la1 a3 (by omega)
  replace la1 := Nat.lt_of_lt_of_le la1 (a3).size
  replace cs0 := cell_keepT cs0 ls0 a3 (by omega)
  replace ds0 := cell_keepT ds0 ls0 a3 (by omega)
  replace ls0 := Nat.lt_of_lt_of_le ls0 (a3).size
  have cx0 := alloc_duo0 w3 (.slice A_x0 N_x0 C_x0) (.slice D_x0 M_x0 E_x0) 25
  have dx0 := alloc_duo1 w3 (.slice A_x0 N_x0 C_x0) (.slice D_x0 M_x0 E_x0) 25
  have lx0 := alloc_ltT w3 (.cells #[.slice A_x0 N_x0 C_x0, .slice D_x0 M_x0 E_x0] 25)
  go_wp2_with fail
  refine (toStripe_own _ _ q _ (HV1.out.below hB) (HU1.out.below hB) (by rw [← HN1.out]; omega) (by rw [← HP1.out]; omega)).mono ?_
  rintro e w4 ⟨x1, x1u, rfl, ox1, k4⟩
  obtain ⟨A_x1, N_x1, C_x1, D_x1, M_x1, E_x1, rfl, rfl⟩ := ox1.isSlice
  have s4 := k4.size
  replace hB := k4.base hB (by omega) (by omega)
  replace os0 := os0.keep k4 (by omega)
  replace ox0 := ox0.keep k4 (by omega)
  replace ca0 := cell_keepT ca0 la0 k4 (by omega)
  replace da0 := cell_keepT da0 la0 k4 (by omega)
  replace la0 := Nat.lt_of_lt_of_le la0 (k4).size
  replace ca1 := cell_keepT ca1 la1 k4 (by omega)
  replace da1 := cell_keepT da1 la1 k4 (by omega)
  replace la1 := Nat.lt_of_lt_of_le la1 (k4).size
  replace cs0 := cell_keepT cs0 ls0 k4 (by omega)
  replace ds0 := cell_keepT ds0 ls0 k4 (by omega)
  replace ls0 := Nat.lt_of_lt_of_le ls0 (k4).size
  replace cx0 := cell_keepT cx0 lx0 k4 (by omega)
  replace dx0 := cell_keepT dx0 lx0 k4 (by omega)
  replace lx0 := Nat.lt_of_lt_of_le lx0 (k4).size
  have a4 := turn_alloc w4 (.cells #[.slice A_x1 N_x1 C_x1, .slice D_x1 M_x1 E_x1] 25)
  have z4a := World.size_alloc w4 (.cells #[.slice A_x1 N_x1 C_x1, .slice D_x1 M_x1 E_x1] 25)
  replace hB := a4.base hB (by omega) (by omega)
  replace os0 := os0.keep a4 (by omega)
  replace ox0 := ox0.keep a4 (by omega)
  replace ox1 := ox1.keep a4 (by omega)
  replace ca0 := cell_keepT ca0 la0 a4 (by omega)
  replace da0 := cell_keepT da0 la0 a4 (by omega)
  replace la0 := Nat.lt_of_lt_of_le la0 (a4).size
  replace ca1 := cell_keepT ca1 la1 a4 (by omega)
  replace da1 := cell_keepT da1 la1 a4 (by omega)
  replace la1 := Nat.lt_of_lt_of_le la1 (a4).size
  replace cs0 := cell_keepT cs0 ls0 a4 (by omega)
  replace ds0 := cell_keepT ds0 ls0 a4 (by omega)
  replace ls0 := Nat.lt_of_lt_of_le ls0 (a4).size
  replace cx0 := cell_keepT cx0 lx0 a4 (by omega)
  replace dx0 := cell_keepT dx0 lx0 a4 (by omega)
  replace lx0 := Nat.lt_of_lt_of_le lx0 (a4).size
  have cx1 := alloc_duo0 w4 (.slice A_x1 N_x1 C_x1) (.slice D_x1 M_x1 E_x1) 25
  have dx1 := alloc_duo1 w4 (.slice A_x1 N_x1 C_x1) (.slice D_x1 M_x1 E_x1) 25
  have lx1 := alloc_ltT w4 (.cells #[.slice A_x1 N_x1 C_x1, .slice D_x1 M_x1 E_x1] 25)
  go_wp2_with fail
  refine (mergeStripes_own _ _ _ _ a q _ ox0.seen1 ox0.seen2 ox1.seen1 ox1.seen2 (ht.below hB h0) (by have := hB.size; omega)).mono ?_
  rintro e w5 ⟨g0, g0u, rfl, og0, k5⟩
  obtain ⟨A_g0, N_g0, C_g0, D_g0, M_g0, E_g0, rfl, rfl⟩ := og0.isSlice
  have s5 := k5.size
  replace hB := k5.base hB (by omega) (by omega)
  replace os0 := os0.keep k5 (by omega)
  replace ox0 := ox0.keep k5 (by omega)
  replace ox1 := ox1.keep k5 (by omega)
  replace ca0 := cell_keepT ca0 la0 k5 (by omega)
  replace da0 := cell_keepT da0 la0 k5 (by omega)
  replace la0 := Nat.lt_of_lt_of_le la0 (k5).size
  replace ca1 := cell_keepT ca1 la1 k5 (by omega)
  replace da1 := cell_keepT da1 la1 k5 (by omega)
  replace la1 := Nat.lt_of_lt_of_le la1 (k5).size
  replace cs0 := cell_keepT cs0 ls0 k5 (by omega)
  replace ds0 := cell_keepT ds0 ls0 k5 (by omega)
  replace ls0 := Nat.lt_of_lt_of_le ls0 (k5).size
  replace cx0 := cell_keepT cx0 lx0 k5 (by omega)
  replace dx0 := cell_keepT dx0 lx0 k5 (by omega)
  replace lx0 := Nat.lt_of_lt_of_le lx0 (k5).size
  replace cx1 := cell_keepT cx1 lx1 k5 (by omega)
  replace dx1 := cell_keepT dx1 lx1 k5 (by omega)
  replace lx1 := Nat.lt_of_lt_of_le lx1 (k5).size
  have a5 := turn_alloc w5 (.cells #[.slice A_g0 N_g0 C_g0, .slice D_g0 M_g0 E_g0] 25)
  have z5a := World.size_alloc w5 (.cells #[.slice A_g0 N_g0 C_g0, .slice D_g0 M_g0 E_g0] 25)
  replace hB := a5.base hB (by omega) (by omega)
  replace os0 := os0.keep a5 (by omega)
  replace ox0 := ox0.keep a5 (by omega)
  replace ox1 := ox1.keep a5 (by omega)
  replace og0 := og0.keep a5 (by omega)
  replace ca0 := cell_keepT ca0 la0 a5 (by omega)
  replace da0 := cell_keepT da0 la0 a5 (by omega)
  replace la0 := Nat.lt_of_lt_of_le la0 (a5).size
  replace ca1 := cell_keepT ca1 la1 a5 (by omega)
  replace da1 := cell_keepT da1 la1 a5 (by omega)
  replace la1 := Nat.lt_of_lt_of_le la1 (a5).size
  replace cs0 := cell_keepT cs0 ls0 a5 (by omega)
  replace ds0 := cell_keepT ds0 ls0 a5 (by omega)
  replace ls0 := Nat.lt_of_lt_of_le ls0 (a5).size
  replace cx0 := cell_keepT cx0 lx0 a5 (by omega)
  replace dx0 := cell_keepT dx0 lx0 a5 (by omega)
  replace lx0 := Nat.lt_of_lt_of_le lx0 (a5).size
  replace cx1 := cell_keepT cx1 lx1 a5 (by omega)
  replace dx1 := cell_keepT dx1 lx1 a5 (by omega)
  replace lx1 := Nat.lt_of_lt_of_le lx1 (a5).size
  have cg0 := alloc_duo0 w5 (.slice A_g0 N_g0 C_g0) (.slice D_g0 M_g0 E_g0) 25
  have dg0 := alloc_duo1 w5 (.slice A_g0 N_g0 C_g0) (.slice D_g0 M_g0 E_g0) 25
  have lg0 := alloc_ltT w5 (.cells #[.slice A_g0 N_g0 C_g0, .slice D_g0 M_g0 E_g0] 25)
  go_wp2_with fail
  refine (eqStripe_same _ _ _ _ (mrgR a q) _ og0.seen1 og0.seen2 os0.seen1 os0.seen2).mono ?_
  rintro e w6 ⟨rfl, k6⟩
  have s6 := k6.size
  replace hB := k6.base hB (by omega) (by omega)
  replace os0 := os0.keep k6 (by omega)
  replace ox0 := ox0.keep k6 (by omega)
  replace ox1 := ox1.keep k6 (by omega)
  replace og0 := og0.keep k6 (by omega)
  replace ca0 := cell_keepT ca0 la0 k6 (by omega)
  replace da0 := cell_keepT da0 la0 k6 (by omega)
  replace la0 := Nat.lt_of_lt_of_le la0 (k6).size
  replace ca1 := cell_keepT ca1 la1 k6 (by omega)
  replace da1 := cell_keepT da1 la1 k6 (by omega)
  replace la1 := Nat.lt_of_lt_of_le la1 (k6).size
  replace cs0 := cell_keepT cs0 ls0 k6 (by omega)
  replace ds0 := cell_keepT ds0 ls0 k6 (by omega)
  replace ls0 := Nat.lt_of_lt_of_le ls0 (k6).size
  replace cx0 := cell_keepT cx0 lx0 k6 (by omega)
  replace dx0 := cell_keepT dx0 lx0 k6 (by omega)
  replace lx0 := Nat.lt_of_lt_of_le lx0 (k6).size
  replace cx1 := cell_keepT cx1 lx1 k6 (by omega)
  replace dx1 := cell_keepT dx1 lx1 k6 (by omega)
  replace lx1 := Nat.lt_of_lt_of_le lx1 (k6).size
  replace cg0 := cell_keepT cg0 lg0 k6 (by omega)
  replace dg0 := cell_keepT dg0 lg0 k6 (by omega)
  replace lg0 := Nat.lt_of_lt_of_le lg0 (k6).size
  go_wp2_with fail
  go_region_held3 (fun w' => w'.cell? ⟨w3.heap.size, 0, none⟩ = some (.slice A_x0 N_x0 C_x0) ∧ w'.cell? ⟨w3.heap.size, 1, none⟩ = some (.slice D_x0 M_x0 E_x0) ∧ w'.cell? ⟨w.heap.size, 0, none⟩ = some (.slice A0 n0 cc0) ∧ w'.cell? ⟨w.heap.size, 1, none⟩ = some (.slice B0 p0 dd0))
    (first | exact ⟨cx0, dx0, ca0, da0⟩)
    (first | (go_at_call 44; refine (toStripe_own _ _ a (World.drew w6) (HV0.out.below hB.drew) (HU0.out.below hB.drew) (by rw [← HN0.out]; omega) (by rw [← HP0.out]; omega)).mono ?_; rintro e w7 ⟨tb0, tb0u, rfl, otb0, k7⟩; obtain ⟨A_tb0, N_tb0, C_tb0, D_tb0, M_tb0, E_tb0, rfl, rfl⟩ := otb0.isSlice; replace k7 := undrew k7; have s7 := k7.size; replace hB := k7.base hB (by omega) (by omega); replace os0 := os0.keep k7 (by omega); replace ox0 := ox0.keep k7 (by omega); replace ox1 := ox1.keep k7 (by omega); replace og0 := og0.keep k7 (by omega); replace ca0 := cell_keepT ca0 la0 k7 (by omega); replace da0 := cell_keepT da0 la0 k7 (by omega); replace la0 := Nat.lt_of_lt_of_le la0 (k7).size; replace ca1 := cell_keepT ca1 la1 k7 (by omega); replace da1 := cell_keepT da1 la1 k7 (by omega); replace la1 := Nat.lt_of_lt_of_le la1 (k7).size; replace cs0 := cell_keepT cs0 ls0 k7 (by omega); replace ds0 := cell_keepT ds0 ls0 k7 (by omega); replace ls0 := Nat.lt_of_lt_of_le ls0 (k7).size; replace cx0 := cell_keepT cx0 lx0 k7 (by omega); replace dx0 := cell_keepT dx0 lx0 k7 (by omega); replace lx0 := Nat.lt_of_lt_of_le lx0 (k7).size; replace cx1 := cell_keepT cx1 lx1 k7 (by omega); replace dx1 := cell_keepT dx1 lx1 k7 (by omega); replace lx1 := Nat.lt_of_lt_of_le lx1 (k7).size; replace cg0 := cell_keepT cg0 lg0 k7 (by omega); replace dg0 := cell_keepT dg0 lg0 k7 (by omega); replace lg0 := Nat.lt_of_lt_of_le lg0 (k7).size) | (go_at_call 38; refine (eqStripe_same _ _ _ _ a _ ox0.seen1 ox0.seen2 otb0.seen1 otb0.seen2).mono ?_; rintro e w8 ⟨rfl, k8⟩; have s8 := k8.size; replace hB := k8.base hB (by omega) (by omega); replace os0 := os0.keep k8 (by omega); replace ox0 := ox0.keep k8 (by omega); replace ox1 := ox1.keep k8 (by omega); replace og0 := og0.keep k8 (by omega); replace otb0 := otb0.keep k8 (by omega); replace ca0 := cell_keepT ca0 la0 k8 (by omega); replace da0 := cell_keepT da0 la0 k8 (by omega); replace la0 := Nat.lt_of_lt_of_le la0 (k8).size; replace ca1 := cell_keepT ca1 la1 k8 (by omega); replace da1 := cell_keepT da1 la1 k8 (by omega); replace la1 := Nat.lt_of_lt_of_le la1 (k8).size; replace cs0 := cell_keepT cs0 ls0 k8 (by omega); replace ds0 := cell_keepT ds0 ls0 k8 (by omega); replace ls0 := Nat.lt_of_lt_of_le ls0 (k8).size; replace cx0 := cell_keepT cx0 lx0 k8 (by omega); replace dx0 := cell_keepT dx0 lx0 k8 (by omega); replace lx0 := Nat.lt_of_lt_of_le lx0 (k8).size; replace cx1 := cell_keepT cx1 lx1 k8 (by omega); replace dx1 := cell_keepT dx1 lx1 k8 (by omega); replace lx1 := Nat.lt_of_lt_of_le lx1 (k8).size; replace cg0 := cell_keepT cg0 lg0 k8 (by omega); replace dg0 := cell_keepT dg0 lg0 k8 (by omega); replace lg0 := Nat.lt_of_lt_of_le lg0 (k8).size))
  go_wp2_with fail
  go_region_held3 (fun w' => w'.cell? ⟨w4.heap.size, 0, none⟩ = some (.slice A_x1 N_x1 C_x1) ∧ w'.cell? ⟨w4.heap.size, 1, none⟩ = some (.slice D_x1 M_x1 E_x1) ∧ w'.cell? ⟨(w.heap.size + 1), 0, none⟩ = some (.slice A1 n1 cc1) ∧ w'.cell? ⟨(w.heap.size + 1), 1, none⟩ = some (.slice B1 p1 dd1))
    (first | exact ⟨cx1, dx1, ca1, da1⟩)
    (first | (go_at_call 44; refine (toStripe_own _ _ q (World.drew w8) (HV1.out.below hB.drew) (HU1.out.below hB.drew) (by rw [← HN1.out]; omega) (by rw [← HP1.out]; omega)).mono ?_; rintro e w9 ⟨tb1, tb1u, rfl, otb1, k9⟩; obtain ⟨A_tb1, N_tb1, C_tb1, D_tb1, M_tb1, E_tb1, rfl, rfl⟩ := otb1.isSlice; replace k9 := undrew k9; have s9 := k9.size; replace hB := k9.base hB (by omega) (by omega); replace os0 := os0.keep k9 (by omega); replace ox0 := ox0.keep k9 (by omega); replace ox1 := ox1.keep k9 (by omega); replace og0 := og0.keep k9 (by omega); replace ca0 := cell_keepT ca0 la0 k9 (by omega); replace da0 := cell_keepT da0 la0 k9 (by omega); replace la0 := Nat.lt_of_lt_of_le la0 (k9).size; replace ca1 := cell_keepT ca1 la1 k9 (by omega); replace da1 := cell_keepT da1 la1 k9 (by omega); replace la1 := Nat.lt_of_lt_of_le la1 (k9).size; replace cs0 := cell_keepT cs0 ls0 k9 (by omega); replace ds0 := cell_keepT ds0 ls0 k9 (by omega); replace ls0 := Nat.lt_of_lt_of_le ls0 (k9).size; replace cx0 := cell_keepT cx0 lx0 k9 (by omega); replace dx0 := cell_keepT dx0 lx0 k9 (by omega); replace lx0 := Nat.lt_of_lt_of_le lx0 (k9).size; replace cx1 := cell_keepT cx1 lx1 k9 (by omega); replace dx1 := cell_keepT dx1 lx1 k9 (by omega); replace lx1 := Nat.lt_of_lt_of_le lx1 (k9).size; replace cg0 := cell_keepT cg0 lg0 k9 (by omega); replace dg0 := cell_keepT dg0 lg0 k9 (by omega); replace lg0 := Nat.lt_of_lt_of_le lg0 (k9).size) | (go_at_call 38; refine (eqStripe_same _ _ _ _ q _ ox1.seen1 ox1.seen2 otb1.seen1 otb1.seen2).mono ?_; rintro e w10 ⟨rfl, k10⟩; have s10 := k10.size; replace hB := k10.base hB (by omega) (by omega); replace os0 := os0.keep k10 (by omega); replace ox0 := ox0.keep k10 (by omega); replace ox1 := ox1.keep k10 (by omega); replace og0 := og0.keep k10 (by omega); replace otb1 := otb1.keep k10 (by omega); replace ca0 := cell_keepT ca0 la0 k10 (by omega); replace da0 := cell_keepT da0 la0 k10 (by omega); replace la0 := Nat.lt_of_lt_of_le la0 (k10).size; replace ca1 := cell_keepT ca1 la1 k10 (by omega); replace da1 := cell_keepT da1 la1 k10 (by omega); replace la1 := Nat.lt_of_lt_of_le la1 (k10).size; replace cs0 := cell_keepT cs0 ls0 k10 (by omega); replace ds0 := cell_keepT ds0 ls0 k10 (by omega); replace ls0 := Nat.lt_of_lt_of_le ls0 (k10).size; replace cx0 := cell_keepT cx0 lx0 k10 (by omega); replace dx0 := cell_keepT dx0 lx0 k10 (by omega); replace lx0 := Nat.lt_of_lt_of_le lx0 (k10).size; replace cx1 := cell_keepT cx1 lx1 k10 (by omega); replace dx1 := cell_keepT dx1 lx1 k10 (by omega); replace lx1 := Nat.lt_of_lt_of_le lx1 (k10).size; replace cg0 := cell_keepT cg0 lg0 k10 (by omega); replace dg0 := cell_keepT dg0 lg0 k10 (by omega); replace lg0 := Nat.lt_of_lt_of_le lg0 (k10).size))
  obtain ⟨m0, hm0⟩ : ∃ zz : Nat, zz = 1 + (a.1.length + a.2.length) := ⟨_, rfl⟩
  have HM0 := Lib.hid hm0
  clear hm0
  have hmb0 : m0 ≤ 10000000 := by rw [HM0.out, ← HN0.out, ← HP0.out]; omega
  have hmp0 : 1 ≤ m0 := by rw [HM0.out]; omega
  go_wp2_with fail
  refine (markStripe_own _ _ a 1 _ _ _ ox0 (by omega) (by rw [← HM0.out]; omega)).mono ?_
  rintro e w11 ⟨he, ox0, k11⟩
  have s11 := k11.size
  replace hB := k11.base hB (by omega) (by omega)
  replace os0 := os0.keep k11 (by omega)
  replace ox1 := ox1.keep k11 (by omega)
  replace og0 := og0.keep k11 (by omega)
  replace ca0 := cell_keepT ca0 la0 k11 (by omega)
  replace da0 := cell_keepT da0 la0 k11 (by omega)
  replace la0 := Nat.lt_of_lt_of_le la0 (k11).size
  replace ca1 := cell_keepT ca1 la1 k11 (by omega)
  replace da1 := cell_keepT da1 la1 k11 (by omega)
  replace la1 := Nat.lt_of_lt_of_le la1 (k11).size
  replace cs0 := cell_keepT cs0 ls0 k11 (by omega)
  replace ds0 := cell_keepT ds0 ls0 k11 (by omega)
  replace ls0 := Nat.lt_of_lt_of_le ls0 (k11).size
  replace cx0 := cell_keepT cx0 lx0 k11 (by omega)
  replace dx0 := cell_keepT dx0 lx0 k11 (by omega)
  replace lx0 := Nat.lt_of_lt_of_le lx0 (k11).size
  replace cx1 := cell_keepT cx1 lx1 k11 (by omega)
  replace dx1 := cell_keepT dx1 lx1 k11 (by omega)
  replace lx1 := Nat.lt_of_lt_of_le lx1 (k11).size
  replace cg0 := cell_keepT cg0 lg0 k11 (by omega)
  replace dg0 := cell_keepT dg0 lg0 k11 (by omega)
  replace lg0 := Nat.lt_of_lt_of_le lg0 (k11).size
  rw [← HM0.out] at he
  subst he
  obtain ⟨m1, hm1⟩ : ∃ zz : Nat, zz = m0 + (q.1.length + q.2.length) := ⟨_, rfl⟩
  have HM1 := Lib.hid hm1
  clear hm1
  have hmb1 : m1 ≤ 20000000 := by rw [HM1.out, ← HN1.out, ← HP1.out]; omega
  have hmp1 : 1 ≤ m1 := by rw [HM1.out]; omega
  go_wp2_with fail
  refine (markStripe_own _ _ q m0 _ _ _ ox1 (by omega) (by rw [← HM1.out]; omega)).mono ?_
  rintro e w12 ⟨he, ox1, k12⟩
  have s12 := k12.size
  replace hB := k12.base hB (by omega) (by omega)
  replace os0 := os0.keep k12 (by omega)
  replace og0 := og0.keep k12 (by omega)
  replace ca0 := cell_keepT ca0 la0 k12 (by omega)
  replace da0 := cell_keepT da0 la0 k12 (by omega)
  replace la0 := Nat.lt_of_lt_of_le la0 (k12).size
  replace ca1 := cell_keepT ca1 la1 k12 (by omega)
  replace da1 := cell_keepT da1 la1 k12 (by omega)
  replace la1 := Nat.lt_of_lt_of_le la1 (k12).size
  replace cs0 := cell_keepT cs0 ls0 k12 (by omega)
  replace ds0 := cell_keepT ds0 ls0 k12 (by omega)
  replace ls0 := Nat.lt_of_lt_of_le ls0 (k12).size
  replace cx0 := cell_keepT cx0 lx0 k12 (by omega)
  replace dx0 := cell_keepT dx0 lx0 k12 (by omega)
  replace lx0 := Nat.lt_of_lt_of_le lx0 (k12).size
  replace cx1 := cell_keepT cx1 lx1 k12 (by omega)
  replace dx1 := cell_keepT dx1 lx1 k12 (by omega)
  replace lx1 := Nat.lt_of_lt_of_le lx1 (k12).size
  replace cg0 := cell_keepT cg0 lg0 k12 (by omega)
  replace dg0 := cell_keepT dg0 lg0 k12 (by omega)
  replace lg0 := Nat.lt_of_lt_of_le lg0 (k12).size
  rw [← HM1.out] at he
  subst he
  have hk0 : ¬ (m1 : Int) < 0 := by omega
  go_wp2_with fail
  refine (eqStripe_same _ _ _ _ (mrgR a q) _ og0.seen1 og0.seen2 os0.seen1 os0.seen2).mono ?_
  rintro e w13 ⟨rfl, k13⟩
  have s13 := k13.size
  replace hB := k13.base hB (by omega) (by omega)
  replace os0 := os0.keep k13 (by omega)
  replace og0 := og0.keep k13 (by omega)
  replace ca0 := cell_keepT ca0 la0 k13 (by omega)
  replace da0 := cell_keepT da0 la0 k13 (by omega)
  replace la0 := Nat.lt_of_lt_of_le la0 (k13).size
  replace ca1 := cell_keepT ca1 la1 k13 (by omega)
  replace da1 := cell_keepT da1 la1 k13 (by omega)
  replace la1 := Nat.lt_of_lt_of_le la1 (k13).size
  replace cs0 := cell_keepT cs0 ls0 k13 (by omega)
  replace ds0 := cell_keepT ds0 ls0 k13 (by omega)
  replace ls0 := Nat.lt_of_lt_of_le ls0 (k13).size
  replace cx0 := cell_keepT cx0 lx0 k13 (by omega)
  replace dx0 := cell_keepT dx0 lx0 k13 (by omega)
  replace lx0 := Nat.lt_of_lt_of_le lx0 (k13).size
  replace cx1 := cell_keepT cx1 lx1 k13 (by omega)
  replace dx1 := cell_keepT dx1 lx1 k13 (by omega)
  replace lx1 := Nat.lt_of_lt_of_le lx1 (k13).size
  replace cg0 := cell_keepT cg0 lg0 k13 (by omega)
  replace dg0 := cell_keepT dg0 lg0 k13 (by omega)
  replace lg0 := Nat.lt_of_lt_of_le lg0 (k13).size
  obtain ⟨r0, hr0⟩ : ∃ zz : Nat, zz = 1 + ((mrgR a q).1.length + (mrgR a q).2.length) := ⟨_, rfl⟩
  have HR0 := Lib.hid hr0
  clear hr0
  have hrb0 : r0 ≤ 100000000 := by have := mrgR_len a q; rw [HR0.out]; omega
  go_wp2_with fail
  refine (markStripe_own _ _ (mrgR a q) 1 _ _ _ og0 (by omega) (by rw [← HR0.out]; omega)).mono ?_
  rintro e w14 ⟨he, og0, k14⟩
  have s14 := k14.size
  replace hB := k14.base hB (by omega) (by omega)
  replace os0 := os0.keep k14 (by omega)
  replace ca0 := cell_keepT ca0 la0 k14 (by omega)
  replace da0 := cell_keepT da0 la0 k14 (by omega)
  replace la0 := Nat.lt_of_lt_of_le la0 (k14).size
  replace ca1 := cell_keepT ca1 la1 k14 (by omega)
  replace da1 := cell_keepT da1 la1 k14 (by omega)
  replace la1 := Nat.lt_of_lt_of_le la1 (k14).size
  replace cs0 := cell_keepT cs0 ls0 k14 (by omega)
  replace ds0 := cell_keepT ds0 ls0 k14 (by omega)
  replace ls0 := Nat.lt_of_lt_of_le ls0 (k14).size
  replace cx0 := cell_keepT cx0 lx0 k14 (by omega)
  replace dx0 := cell_keepT dx0 lx0 k14 (by omega)
  replace lx0 := Nat.lt_of_lt_of_le lx0 (k14).size
  replace cx1 := cell_keepT cx1 lx1 k14 (by omega)
  replace dx1 := cell_keepT dx1 lx1 k14 (by omega)
  replace lx1 := Nat.lt_of_lt_of_le lx1 (k14).size
  replace cg0 := cell_keepT cg0 lg0 k14 (by omega)
  replace dg0 := cell_keepT dg0 lg0 k14 (by omega)
  replace lg0 := Nat.lt_of_lt_of_le lg0 (k14).size
  rw [← HR0.out] at he
  subst he
  go_wp2_with fail
  refine (heldStripe_own _ _ 1 (mrgR a q).1.length (mrgR a q).2.length _ og0.seen1 og0.seen2 (by omega) (by rw [← HR0.out]; omega)).mono ?_
  rintro e w15 ⟨he, k15⟩
  have s15 := k15.size
  replace hB := k15.base hB (by omega) (by omega)
  replace os0 := os0.keep k15 (by omega)
  replace og0 := og0.keep k15 (by omega)
  replace ca0 := cell_keepT ca0 la0 k15 (by omega)
  replace da0 := cell_keepT da0 la0 k15 (by omega)
  replace la0 := Nat.lt_of_lt_of_le la0 (k15).size
  replace ca1 := cell_keepT ca1 la1 k15 (by omega)
  replace da1 := cell_keepT da1 la1 k15 (by omega)
  replace la1 := Nat.lt_of_lt_of_le la1 (k15).size
  replace cs0 := cell_keepT cs0 ls0 k15 (by omega)
  replace ds0 := cell_keepT ds0 ls0 k15 (by omega)
  replace ls0 := Nat.lt_of_lt_of_le ls0 (k15).size
  replace cx0 := cell_keepT cx0 lx0 k15 (by omega)
  replace dx0 := cell_keepT dx0 lx0 k15 (by omega)
  replace lx0 := Nat.lt_of_lt_of_le lx0 (k15).size
  replace cx1 := cell_keepT cx1 lx1 k15 (by omega)
  replace dx1 := cell_keepT dx1 lx1 k15 (by omega)
  replace lx1 := Nat.lt_of_lt_of_le lx1 (k15).size
  replace cg0 := cell_keepT cg0 lg0 k15 (by omega)
  replace dg0 := cell_keepT dg0 lg0 k15 (by omega)
  replace lg0 := Nat.lt_of_lt_of_le lg0 (k15).size
  rw [← HR0.out] at he
  subst he
  have hq0 : ¬ (r0 : Int) < 0 := by omega
  have hqq : ((r0 : Int) != (r0 : Int)) = false := by simp
  go_wp2_with fail
  have HWAh := Lib.hid (HV0.out.below hB)
  have HWBh := Lib.hid (HU0.out.below hB)
  have HWCh := Lib.hid (HV1.out.below hB)
  have HWDh := Lib.hid (HU1.out.below hB)
  have hS0 : Below w15.heap.size w15 w15.drew ∧ w15.drew.cell? ⟨w.heap.size, 0, none⟩ = some (.slice A0 n0 cc0) ∧ w15.drew.cell? ⟨w.heap.size, 1, none⟩ = some (.slice B0 p0 dd0) ∧ w15.drew.cell? ⟨(w.heap.size + 1), 0, none⟩ = some (.slice A1 n1 cc1) ∧ w15.drew.cell? ⟨(w.heap.size + 1), 1, none⟩ = some (.slice B1 p1 dd1) := ⟨(Below.refl _ _).drew, ca0, da0, ca1, da1⟩
  have HSS : Hid (∀ W, Below w15.heap.size w15 W → (Below w15.heap.size w15 W ∧ W.cell? ⟨w.heap.size, 0, none⟩ = some (.slice A0 n0 cc0) ∧ W.cell? ⟨w.heap.size, 1, none⟩ = some (.slice B0 p0 dd0) ∧ W.cell? ⟨(w.heap.size + 1), 0, none⟩ = some (.slice A1 n1 cc1) ∧ W.cell? ⟨(w.heap.size + 1), 1, none⟩ = some (.slice B1 p1 dd1))) := Lib.hid (fun W hb => four_below ca0 da0 ca1 da1 la0 la1 hb)
  have HSA : Hid (∀ W o, (Below w15.heap.size w15 W ∧ W.cell? ⟨w.heap.size, 0, none⟩ = some (.slice A0 n0 cc0) ∧ W.cell? ⟨w.heap.size, 1, none⟩ = some (.slice B0 p0 dd0) ∧ W.cell? ⟨(w.heap.size + 1), 0, none⟩ = some (.slice A1 n1 cc1) ∧ W.cell? ⟨(w.heap.size + 1), 1, none⟩ = some (.slice B1 p1 dd1)) → (Below w15.heap.size w15 (W.alloc o) ∧ (W.alloc o).cell? ⟨w.heap.size, 0, none⟩ = some (.slice A0 n0 cc0) ∧ (W.alloc o).cell? ⟨w.heap.size, 1, none⟩ = some (.slice B0 p0 dd0) ∧ (W.alloc o).cell? ⟨(w.heap.size + 1), 0, none⟩ = some (.slice A1 n1 cc1) ∧ (W.alloc o).cell? ⟨(w.heap.size + 1), 1, none⟩ = some (.slice B1 p1 dd1))) := Lib.hid (fun W o h => HSS.out _ (h.1.alloc h.1.size o))
  have HST : Hid (∀ W W', TurnIn 0 0 W W' → (Below w15.heap.size w15 W ∧ W.cell? ⟨w.heap.size, 0, none⟩ = some (.slice A0 n0 cc0) ∧ W.cell? ⟨w.heap.size, 1, none⟩ = some (.slice B0 p0 dd0) ∧ W.cell? ⟨(w.heap.size + 1), 0, none⟩ = some (.slice A1 n1 cc1) ∧ W.cell? ⟨(w.heap.size + 1), 1, none⟩ = some (.slice B1 p1 dd1)) → (Below w15.heap.size w15 W' ∧ W'.cell? ⟨w.heap.size, 0, none⟩ = some (.slice A0 n0 cc0) ∧ W'.cell? ⟨w.heap.size, 1, none⟩ = some (.slice B0 p0 dd0) ∧ W'.cell? ⟨(w.heap.size + 1), 0, none⟩ = some (.slice A1 n1 cc1) ∧ W'.cell? ⟨(w.heap.size + 1), 1, none⟩ = some (.slice B1 p1 dd1))) := Lib.hid (fun W W' t h => HSS.out _ (t.base h.1 h.1.size (by omega)))
  have HSC : Hid (∀ W B (o : Nat) x, w15.heap.size ≤ B → (Below w15.heap.size w15 W ∧ W.cell? ⟨w.heap.size, 0, none⟩ = some (.slice A0 n0 cc0) ∧ W.cell? ⟨w.heap.size, 1, none⟩ = some (.slice B0 p0 dd0) ∧ W.cell? ⟨(w.heap.size + 1), 0, none⟩ = some (.slice A1 n1 cc1) ∧ W.cell? ⟨(w.heap.size + 1), 1, none⟩ = some (.slice B1 p1 dd1)) → (Below w15.heap.size w15 (W.setCell ⟨B, o, none⟩ x) ∧ (W.setCell ⟨B, o, none⟩ x).cell? ⟨w.heap.size, 0, none⟩ = some (.slice A0 n0 cc0) ∧ (W.setCell ⟨B, o, none⟩ x).cell? ⟨w.heap.size, 1, none⟩ = some (.slice B0 p0 dd0) ∧ (W.setCell ⟨B, o, none⟩ x).cell? ⟨(w.heap.size + 1), 0, none⟩ = some (.slice A1 n1 cc1) ∧ (W.setCell ⟨B, o, none⟩ x).cell? ⟨(w.heap.size + 1), 1, none⟩ = some (.slice B1 p1 dd1))) := Lib.hid (fun W B o x hB h => HSS.out _ (h.1.setCell (p := ⟨B, o, none⟩) hB x))
  have HTB : Hid (∀ W, (Below w15.heap.size w15 W ∧ W.cell? ⟨w.heap.size, 0, none⟩ = some (.slice A0 n0 cc0) ∧ W.cell? ⟨w.heap.size, 1, none⟩ = some (.slice B0 p0 dd0) ∧ W.cell? ⟨(w.heap.size + 1), 0, none⟩ = some (.slice A1 n1 cc1) ∧ W.cell? ⟨(w.heap.size + 1), 1, none⟩ = some (.slice B1 p1 dd1)) → Tab W ∧ 0 < W.heap.size) := Lib.hid (fun W h => ⟨ht.below ((TurnIn.of_below h.1).base hB hB.size (by omega)) h0, by have := h.1.size; have := hB.size; omega⟩)
  go_cut [15, 16] from 94 to 101 (fun s6 s7 wx => TBoxOk 9 w15 (mrgR a q) (mrgOk a q) s6 s7 wx)
  case first =>
    go_region_held3 (fun W => Below w15.heap.size w15 W ∧ W.cell? ⟨w.heap.size, 0, none⟩ = some (.slice A0 n0 cc0) ∧ W.cell? ⟨w.heap.size, 1, none⟩ = some (.slice B0 p0 dd0) ∧ W.cell? ⟨(w.heap.size + 1), 0, none⟩ = some (.slice A1 n1 cc1) ∧ W.cell? ⟨(w.heap.size + 1), 1, none⟩ = some (.slice B1 p1 dd1))
      (first | exact hS0 | exact hS3 | exact hS4 | exact hS5 | exact HSA.out _ _ (by assumption) | exact HSA.out _ _ hS0 | exact HSA.out _ _ hS3 | exact HSA.out _ _ hS4 | exact HSC.out _ _ _ _ (by omega) (HSC.out _ _ _ _ (by omega) hS5) | assumption)
      (first
        | (go_at_call 44; (with_reducible refine (toStripe_own (.slice A0 n0 cc0) (.slice B0 p0 dd0) a _ (HWAh.out.below (And.left (by assumption))) (HWBh.out.below (And.left (by assumption))) (by rw [← HN0.out]; omega) (by rw [← HP0.out]; omega)).mono ?_); rintro e w3 ⟨tah, tahu, rfl, otah, k3⟩; obtain ⟨A_tah, N_tah, C_tah, D_tah, M_tah, E_tah, rfl, rfl⟩ := otah.isSlice; have hS3 := HST.out _ _ k3 (by assumption); have hs3 := hS3.1.size; (first | (have fb := boxD_kept ⟨b0, b1, b2, b3, b4⟩ k3; obtain ⟨b0, b1, b2, b3, b4⟩ := fb) | (have fb := boxD_made k3; obtain ⟨b0, b1, b2, b3, b4⟩ := fb) | (have fb := boxD_made (undrew k3); obtain ⟨b0, b1, b2, b3, b4⟩ := fb) | skip))
        | (go_at_call 44; (with_reducible refine (toStripe_own (.slice A1 n1 cc1) (.slice B1 p1 dd1) q _ (HWCh.out.below (And.left (by assumption))) (HWDh.out.below (And.left (by assumption))) (by rw [← HN1.out]; omega) (by rw [← HP1.out]; omega)).mono ?_); rintro e w4 ⟨tbh, tbhu, rfl, otbh, k4⟩; obtain ⟨A_tbh, N_tbh, C_tbh, D_tbh, M_tbh, E_tbh, rfl, rfl⟩ := otbh.isSlice; have hS4 := HST.out _ _ k4 (by assumption); have hs4 := hS4.1.size; have k34 : TurnIn 0 0 w3 w4 := (by first | exact k4 | exact turn_trans (turn_alloc _ _) k4 (by omega)); replace otah := otah.keep k34 (by omega); (first | (have fb := boxD_kept ⟨b0, b1, b2, b3, b4⟩ k4; obtain ⟨b0, b1, b2, b3, b4⟩ := fb) | (have fb := boxD_made k4; obtain ⟨b0, b1, b2, b3, b4⟩ := fb) | (have fb := boxD_made (undrew k4); obtain ⟨b0, b1, b2, b3, b4⟩ := fb) | skip))
        | (go_at_call 13; refine (mergeStripes_own _ _ _ _ a q _ (by first | exact otah.seen1 | exact (otah.keep (turn_alloc _ _) (by omega)).seen1) (by first | exact otah.seen2 | exact (otah.keep (turn_alloc _ _) (by omega)).seen2) (by first | exact otbh.seen1 | exact (otbh.keep (turn_alloc _ _) (by omega)).seen1) (by first | exact otbh.seen2 | exact (otbh.keep (turn_alloc _ _) (by omega)).seen2) (And.left (HTB.out _ (by assumption))) (And.right (HTB.out _ (by assumption)))).mono ?_; rintro e w5 ⟨h0, h0u, rfl, oh0, k5⟩; obtain ⟨A_h0, N_h0, C_h0, D_h0, M_h0, E_h0, rfl, rfl⟩ := oh0.isSlice; have hS5 := HST.out _ _ k5 (by assumption); have hs5 := hS5.1.size; have k45 : TurnIn 0 0 w4 w5 := (by first | exact k5 | exact turn_trans (turn_alloc _ _) k5 (by omega)); (first | (have hBl := b4; have fb := boxD_kept ⟨b0, b1, b2, b3, b4⟩ k5; obtain ⟨b0, b1, b2, b3, b4⟩ := fb) | (have hBl := alloc_lt w4 (.cells #[.slice none 0 0, .slice none 0 0] 25); have fb := boxD_made k5; obtain ⟨b0, b1, b2, b3, b4⟩ := fb) | skip)))
    all_goals
      have hs5 := hS5.1.size
      go_wp2_with fail
      go_meet
      first
        | exact tbox_new (TurnIn.of_below hS5.1) oh0 (by first | omega | (simp; omega))
        | exact tbox_set ⟨b0, b1, b2, b3, b4⟩ hBl (by first | omega | (simp; omega)) (TurnIn.of_below hS5.1) oh0
  obtain ⟨B_h0, x_h0, y_h0, lo_h0, hi_h0, rfl, rfl, cc_h0, dd_h0, hBs_h0, hBb_h0, oh0, hlo_h0, hhi_h0, hor_h0, tc_h0⟩ := hcut
  obtain ⟨A_h0, N_h0, C_h0, D_h0, M_h0, E_h0, rfl, rfl⟩ := oh0.isSlice
  have sc_h0 := tc_h0.size
  replace hB := tc_h0.base hB (by omega) (by omega)
  replace os0 := os0.keep tc_h0 (by omega)
  replace og0 := og0.keep tc_h0 (by omega)
  replace ca0 := cell_keepT ca0 la0 tc_h0 (by omega)
  replace da0 := cell_keepT da0 la0 tc_h0 (by omega)
  replace la0 := Nat.lt_of_lt_of_le la0 (tc_h0).size
  replace ca1 := cell_keepT ca1 la1 tc_h0 (by omega)
  replace da1 := cell_keepT da1 la1 tc_h0 (by omega)
  replace la1 := Nat.lt_of_lt_of_le la1 (tc_h0).size
  replace cs0 := cell_keepT cs0 ls0 tc_h0 (by omega)
  replace ds0 := cell_keepT ds0 ls0 tc_h0 (by omega)
  replace ls0 := Nat.lt_of_lt_of_le ls0 (tc_h0).size
  replace cx0 := cell_keepT cx0 lx0 tc_h0 (by omega)
  replace dx0 := cell_keepT dx0 lx0 tc_h0 (by omega)
  replace lx0 := Nat.lt_of_lt_of_le lx0 (tc_h0).size
  replace cx1 := cell_keepT cx1 lx1 tc_h0 (by omega)
  replace dx1 := cell_keepT dx1 lx1 tc_h0 (by omega)
  replace lx1 := Nat.lt_of_lt_of_le lx1 (tc_h0).size
  replace cg0 := cell_keepT cg0 lg0 tc_h0 (by omega)
  replace dg0 := cell_keepT dg0 lg0 tc_h0 (by omega)
  replace lg0 := Nat.lt_of_lt_of_le lg0 (tc_h0).size
  have ch0 := cc_h0
  have dh0 := dd_h0
  have lh0 := hBs_h0
  clear cc_h0 dd_h0 HSS HSA HST HSC hS0
  generalize hwc : wc = wc_h at *
  clear hwc
  go_wp2_with fail
  refine (eqStripe_same _ _ _ _ (mrgR a q) _ oh0.seen1 oh0.seen2 os0.seen1 os0.seen2).mono ?_
  rintro e w16 ⟨rfl, k16⟩
  have s16 := k16.size
  replace hB := k16.base hB (by omega) (by omega)
  replace os0 := os0.keep k16 (by omega)
  replace og0 := og0.keep k16 (by omega)
  replace oh0 := oh0.keep k16 (by omega)
  replace ca0 := cell_keepT ca0 la0 k16 (by omega)
  replace da0 := cell_keepT da0 la0 k16 (by omega)
  replace la0 := Nat.lt_of_lt_of_le la0 (k16).size
  replace ca1 := cell_keepT ca1 la1 k16 (by omega)
  replace da1 := cell_keepT da1 la1 k16 (by omega)
  replace la1 := Nat.lt_of_lt_of_le la1 (k16).size
  replace cs0 := cell_keepT cs0 ls0 k16 (by omega)
  replace ds0 := cell_keepT ds0 ls0 k16 (by omega)
  replace ls0 := Nat.lt_of_lt_of_le ls0 (k16).size
  replace cx0 := cell_keepT cx0 lx0 k16 (by omega)
  replace dx0 := cell_keepT dx0 lx0 k16 (by omega)
  replace lx0 := Nat.lt_of_lt_of_le lx0 (k16).size
  replace cx1 := cell_keepT cx1 lx1 k16 (by omega)
  replace dx1 := cell_keepT dx1 lx1 k16 (by omega)
  replace lx1 := Nat.lt_of_lt_of_le lx1 (k16).size
  replace cg0 := cell_keepT cg0 lg0 k16 (by omega)
  replace dg0 := cell_keepT dg0 lg0 k16 (by omega)
  replace lg0 := Nat.lt_of_lt_of_le lg0 (k16).size
  replace ch0 := cell_keepT ch0 lh0 k16 (by omega)
  replace dh0 := cell_keepT dh0 lh0 k16 (by omega)
  replace lh0 := Nat.lt_of_lt_of_le lh0 (k16).size
  go_wp2_with fail
  refine (heldStripe_own _ _ 1 (mrgR a q).1.length (mrgR a q).2.length _ og0.seen1 og0.seen2 (by omega) (by rw [← HR0.out]; omega)).mono ?_
  rintro e w17 ⟨he, k17⟩
  have s17 := k17.size
  replace hB := k17.base hB (by omega) (by omega)
  replace os0 := os0.keep k17 (by omega)
  replace og0 := og0.keep k17 (by omega)
  replace oh0 := oh0.keep k17 (by omega)
  replace ca0 := cell_keepT ca0 la0 k17 (by omega)
  replace da0 := cell_keepT da0 la0 k17 (by omega)
  replace la0 := Nat.lt_of_lt_of_le la0 (k17).size
  replace ca1 := cell_keepT ca1 la1 k17 (by omega)
  replace da1 := cell_keepT da1 la1 k17 (by omega)
  replace la1 := Nat.lt_of_lt_of_le la1 (k17).size
  replace cs0 := cell_keepT cs0 ls0 k17 (by omega)
  replace ds0 := cell_keepT ds0 ls0 k17 (by omega)
  replace ls0 := Nat.lt_of_lt_of_le ls0 (k17).size
  replace cx0 := cell_keepT cx0 lx0 k17 (by omega)
  replace dx0 := cell_keepT dx0 lx0 k17 (by omega)
  replace lx0 := Nat.lt_of_lt_of_le lx0 (k17).size
  replace cx1 := cell_keepT cx1 lx1 k17 (by omega)
  replace dx1 := cell_keepT dx1 lx1 k17 (by omega)
  replace lx1 := Nat.lt_of_lt_of_le lx1 (k17).size
  replace cg0 := cell_keepT cg0 lg0 k17 (by omega)
  replace dg0 := cell_keepT dg0 lg0 k17 (by omega)
  replace lg0 := Nat.lt_of_lt_of_le lg0 (k17).size
  replace ch0 := cell_keepT ch0 lh0 k17 (by omega)
  replace dh0 := cell_keepT dh0 lh0 k17 (by omega)
  replace lh0 := Nat.lt_of_lt_of_le lh0 (k17).size
  rw [← HR0.out] at he
  subst he
  have hq0 : ¬ (r0 : Int) < 0 := by omega
  have hqq : ((r0 : Int) != (r0 : Int)) = false := by simp
  go_wp2_with fail
  go_ret
  exact ⟨rfl, hB⟩

set_option maxRecDepth 100000 in
theorem walk_FnExactMergeStripes : G294.LawWalk Tryd.prog 8 Tryd.f8 Rows.fnExactMergeStripesSpec.vars false (fun W => laidMetH Tryd.prog Rows.fnExactMergeStripesRow.laid W) := by
  intro H enc W base args ds gs before hval hW hX
  have hlt0 : ∀ p ∈ before, p.block < W.heap.size := fun p hp => hW.lt p hp
  obtain ⟨p, q, hA, hV, rfl, hfz, hnd⟩ := hW
  rw [Tryd.params8] at hA hval
  obtain ⟨u0, vs0, d0, ds0, p0, q0, hargs, rfl, rfl, t0, r0⟩ := trodAll_cons hA
  obtain ⟨u1, vs1, d1, ds1, p1, q1, rfl, rfl, rfl, t1, r1⟩ := trodAll_cons r0
  obtain ⟨rfl, rfl, rfl⟩ := trodAll_nil r1
  obtain rfl : args = #[u0, u1] := by cases args; simp_all
  obtain ⟨x0, y0, l0, m0, rfl, sn0, sm0, mx0, my0⟩ := seen_strp Tryd.underlying58 (by kernel_rfl) (by kernel_rfl) Tryd.underlying23 Tryd.underlying23 Tryd.underlying9 (by kernel_rfl) (hval 0 58 u0 rfl rfl) t0
  obtain ⟨x1, y1, l1, m1, rfl, sn1, sm1, mx1, my1⟩ := seen_strp Tryd.underlying58 (by kernel_rfl) (by kernel_rfl) Tryd.underlying23 Tryd.underlying23 Tryd.underlying9 (by kernel_rfl) (hval 1 58 u1 rfl rfl) t1
  obtain ⟨ht, hs⟩ := tab_of (by kernel_rfl) hX 0 rfl (by kernel_rfl)
  exact exactMergeStripes_walk x0 y0 (l0, m0) x1 y1 (l1, m1) W sn0 sm0 mx0 my0 sn1 sm1 mx1 my1 ht hs

end Go.Proofs.YtbopocpmodpfcaaDoor
