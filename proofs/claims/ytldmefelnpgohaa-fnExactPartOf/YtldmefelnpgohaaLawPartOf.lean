/- The walk of FnExactPartOf. -/
import Derived.Test.YtldmefelnpgohaaRows
import Derived.Test.YtldmefelnpgohaaOpenMats
import Derived.Test.YtldmefelnpgohaaMatArgs
import Derived.Test.YtldmefelnpgohaaSpecPart
import Derived.Test.YtldmefelnpgohaaPartWalks
import Derived.Test.YtldmefelnpgohaaBoxes
set_option linter.unusedSimpArgs false
set_option linter.unusedVariables false
namespace Go.Proofs.Ytldmefelnpgohaa
open Go.ChangeShapes Go.WideShapes Go.ChangeAt Go.RowKit G294

theorem ptR_siz (l : Mat) (p q : List Int) : sizM (ptR l p q) ≤ 256 := by
  unfold ptR; split
  · rename_i h
    simp only [ptOk, chosen, Bool.and_eq_true] at h
    obtain ⟨⟨hg, h1⟩, h2⟩ := h
    have := (goodM_iff l).1 hg
    have := some_len h1.1
    have := some_len h2.1
    exact sizM_side _ (by omega) (by omega)
  · simp [sizM]

set_option maxRecDepth 100000 in
set_option maxHeartbeats 4000000 in
theorem exactPartOf_walk (v0 : Value) (l : Mat) (v1 : Value) (p : List Int) (v2 : Value) (q : List Int) (w : World) (hv0 : SeenM w v0 l) (hv1 : Seen w v1 (ints p)) (hv2 : Seen w v2 (ints q)) :
    Calls Try.prog 8 #[.agg #[v0], v1, v2] w fun e w' => e = .returned (.bool true) ∧ Below w.heap.size w w' := by
  obtain ⟨A1, cc1, hvv1⟩ := hv1.len
  rw [ints_length] at hvv1
  obtain ⟨A2, cc2, hvv2⟩ := hv2.len
  rw [ints_length] at hvv2
  obtain ⟨A0, cc0, hvv0, _, _⟩ := hv0.len
  have hbb1 : (ptOk l p q != ptOk l p q) = false := by simp
  have HVV0 := Lib.hid hvv0
  rw [hvv0] at hv0 ⊢
  clear hvv0
  have HV0 := Lib.hid hv0
  clear hv0
  obtain ⟨z0, hz0⟩ : ∃ zz, zz = (l).length + sizM (l) := ⟨_, rfl⟩
  have HZ0 := Lib.hid hz0
  clear hz0
  have HVV1 := Lib.hid hvv1
  rw [hvv1] at hv1 ⊢
  clear hvv1
  have HV1 := Lib.hid hv1
  clear hv1
  obtain ⟨n1, hn1⟩ : ∃ zz, zz = p.length := ⟨_, rfl⟩
  have HN1 := Lib.hid hn1
  rw [← hn1] at HV1 ⊢
  clear hn1
  have HVV2 := Lib.hid hvv2
  rw [hvv2] at hv2 ⊢
  clear hvv2
  have HV2 := Lib.hid hv2
  clear hv2
  obtain ⟨n2, hn2⟩ : ∃ zz, zz = q.length := ⟨_, rfl⟩
  have HN2 := Lib.hid hn2
  rw [← hn2] at HV2 ⊢
  clear hn2
  have hB := Below.refl w.heap.size w
  have a1 := turn_alloc w (.cells #[.slice A0 (l).length cc0] 24)
  have z1a := World.size_alloc w (.cells #[.slice A0 (l).length cc0] 24)
  replace hB := a1.base hB (by omega) (by omega)
  have ca0 := alloc_cell w (.slice A0 (l).length cc0) 24
  have la0 := alloc_lt w (.cells #[.slice A0 (l).length cc0] 24)
  by_cases hbig1 : 1048576 < n1
  · go_enter Try.func8, Try.ntmps8
    go_wp2_with fail
    go_ret
    exact ⟨rfl, hB⟩
  by_cases hbig2 : 1048576 < n2
  · go_enter Try.func8, Try.ntmps8
    go_wp2_with fail
    go_ret
    exact ⟨rfl, hB⟩
  go_enter Try.func8, Try.ntmps8
  by_cases hbz0 : 1048576 < z0
  · go_wp2_with fail
    refine (szMatrix_no _ l (1048576) _ (HV0.out.below hB) (by rw [← HZ0.out]; omega)).mono ?_
    rintro e w1 ⟨rfl, k1⟩
    have s1 := k1.size
    replace hB := k1.base hB (by omega) (by omega)
    replace ca0 := box_keep ca0 la0 k1 (by omega)
    replace la0 := Nat.lt_of_lt_of_le la0 (k1).size
    go_wp2_with fail
    go_ret
    exact ⟨rfl, hB⟩
  go_wp2_with fail
  refine (szMatrix_yes _ l (1048576) _ (HV0.out.below hB) (by rw [← HZ0.out]; omega) (by omega)).mono ?_
  rintro e w1 ⟨he, k1⟩
  have s1 := k1.size
  replace hB := k1.base hB (by omega) (by omega)
  replace ca0 := box_keep ca0 la0 k1 (by omega)
  replace la0 := Nat.lt_of_lt_of_le la0 (k1).size
  rw [← HZ0.out] at he
  obtain ⟨left0, hleft0⟩ : ∃ zz : Nat, zz = 1048576 - z0 := ⟨_, rfl⟩
  have HL0 := Lib.hid hleft0
  rw [← hleft0] at he
  have hlb0 : left0 ≤ 1048576 := by omega
  clear hleft0
  subst he
  have hln0 : ¬ (left0 : Int) < 0 := by omega
  go_wp2_with fail
  refine (toMatrix_own _ l _ (HV0.out.below hB) (by rw [← HZ0.out]; omega)).mono ?_
  rintro e w2 ⟨ta0, ta0vs, rfl, ota0, k2⟩
  obtain ⟨A_ta0, N_ta0, C_ta0, rfl⟩ := ota0.isSlice
  have s2 := k2.size
  replace hB := k2.base hB (by omega) (by omega)
  replace ca0 := box_keep ca0 la0 k2 (by omega)
  replace la0 := Nat.lt_of_lt_of_le la0 (k2).size
  go_wp2_with fail
  refine (toIntS_own _ p _ (HV1.out.below hB) (by rw [← HN1.out]; omega)).mono ?_
  rintro e w3 ⟨ta1, rfl, ota1, k3⟩
  have s3 := k3.size
  replace hB := k3.base hB (by omega) (by omega)
  replace ota0 := ota0.keep k3 (by omega)
  replace ca0 := box_keep ca0 la0 k3 (by omega)
  replace la0 := Nat.lt_of_lt_of_le la0 (k3).size
  go_wp2_with fail
  refine (toIntS_own _ q _ (HV2.out.below hB) (by rw [← HN2.out]; omega)).mono ?_
  rintro e w4 ⟨ta2, rfl, ota2, k4⟩
  have s4 := k4.size
  replace hB := k4.base hB (by omega) (by omega)
  replace ota0 := ota0.keep k4 (by omega)
  replace ota1 := ota1.keep k4 (by omega)
  replace ca0 := box_keep ca0 la0 k4 (by omega)
  replace la0 := Nat.lt_of_lt_of_le la0 (k4).size
  go_wp2_with fail
  refine (sPartOf_own _ _ _ l p q _ ota0.seen ota1.seen ota2.seen).mono ?_
  rintro e w5 ⟨s0, s0vs, rfl, os0, k5⟩
  obtain ⟨A_s0, N_s0, C_s0, rfl⟩ := os0.isSlice
  have s5 := k5.size
  replace hB := k5.base hB (by omega) (by omega)
  replace ota0 := ota0.keep k5 (by omega)
  replace ota1 := ota1.keep k5 (by omega)
  replace ota2 := ota2.keep k5 (by omega)
  replace ca0 := box_keep ca0 la0 k5 (by omega)
  replace la0 := Nat.lt_of_lt_of_le la0 (k5).size
  have a2 := turn_alloc w5 (.cells #[.slice A_s0 N_s0 C_s0] 27)
  have z2a := World.size_alloc w5 (.cells #[.slice A_s0 N_s0 C_s0] 27)
  replace hB := a2.base hB (by omega) (by omega)
  replace os0 := os0.keep a2 (by omega)
  replace ca0 := box_keep ca0 la0 a2 (by omega)
  replace la0 := Nat.lt_of_lt_of_le la0 (a2).size
  have cs0 := alloc_cell w5 (.slice A_s0 N_s0 C_s0) 27
  have ls0 := alloc_lt w5 (.cells #[.slice A_s0 N_s0 C_s0] 27)
  go_wp2_with fail
  refine (toMatrix_own _ l _ (HV0.out.below hB) (by rw [← HZ0.out]; omega)).mono ?_
  rintro e w6 ⟨x0, x0vs, rfl, ox0, k6⟩
  obtain ⟨A_x0, N_x0, C_x0, rfl⟩ := ox0.isSlice
  have s6 := k6.size
  replace hB := k6.base hB (by omega) (by omega)
  replace os0 := os0.keep k6 (by omega)
  replace ca0 := box_keep ca0 la0 k6 (by omega)
  replace la0 := Nat.lt_of_lt_of_le la0 (k6).size
  replace cs0 := box_keep cs0 ls0 k6 (by omega)
  replace ls0 := Nat.lt_of_lt_of_le ls0 (k6).size
  have a3 := turn_alloc w6 (.cells #[.slice A_x0 N_x0 C_x0] 27)
  have z3a := World.size_alloc w6 (.cells #[.slice A_x0 N_x0 C_x0] 27)
  replace hB := a3.base hB (by omega) (by omega)
  replace os0 := os0.keep a3 (by omega)
  replace ox0 := ox0.keep a3 (by omega)
  replace ca0 := box_keep ca0 la0 a3 (by omega)
  replace la0 := Nat.lt_of_lt_of_le la0 (a3).size
  replace cs0 := box_keep cs0 ls0 a3 (by omega)
  replace ls0 := Nat.lt_of_lt_of_le ls0 (a3).size
  have cx0 := alloc_cell w6 (.slice A_x0 N_x0 C_x0) 27
  have lx0 := alloc_lt w6 (.cells #[.slice A_x0 N_x0 C_x0] 27)
  go_wp2_with fail
  refine (toIntS_own _ p _ (HV1.out.below hB) (by rw [← HN1.out]; omega)).mono ?_
  rintro e w7 ⟨x1, rfl, ox1, k7⟩
  have s7 := k7.size
  replace hB := k7.base hB (by omega) (by omega)
  replace os0 := os0.keep k7 (by omega)
  replace ox0 := ox0.keep k7 (by omega)
  replace ca0 := box_keep ca0 la0 k7 (by omega)
  replace la0 := Nat.lt_of_lt_of_le la0 (k7).size
  replace cs0 := box_keep cs0 ls0 k7 (by omega)
  replace ls0 := Nat.lt_of_lt_of_le ls0 (k7).size
  replace cx0 := box_keep cx0 lx0 k7 (by omega)
  replace lx0 := Nat.lt_of_lt_of_le lx0 (k7).size
  go_wp2_with fail
  refine (toIntS_own _ q _ (HV2.out.below hB) (by rw [← HN2.out]; omega)).mono ?_
  rintro e w8 ⟨x2, rfl, ox2, k8⟩
  have s8 := k8.size
  replace hB := k8.base hB (by omega) (by omega)
  replace os0 := os0.keep k8 (by omega)
  replace ox0 := ox0.keep k8 (by omega)
  replace ox1 := ox1.keep k8 (by omega)
  replace ca0 := box_keep ca0 la0 k8 (by omega)
  replace la0 := Nat.lt_of_lt_of_le la0 (k8).size
  replace cs0 := box_keep cs0 ls0 k8 (by omega)
  replace ls0 := Nat.lt_of_lt_of_le ls0 (k8).size
  replace cx0 := box_keep cx0 lx0 k8 (by omega)
  replace lx0 := Nat.lt_of_lt_of_le lx0 (k8).size
  go_wp2_with fail
  refine (partOf_own _ _ _ l p q _ ox0.seen ox1.seen ox2.seen).mono ?_
  rintro e w9 ⟨g0, g0vs, rfl, og0, k9⟩
  obtain ⟨A_g0, N_g0, C_g0, rfl⟩ := og0.isSlice
  have s9 := k9.size
  replace hB := k9.base hB (by omega) (by omega)
  replace os0 := os0.keep k9 (by omega)
  replace ox0 := ox0.keep k9 (by omega)
  replace ox1 := ox1.keep k9 (by omega)
  replace ox2 := ox2.keep k9 (by omega)
  replace ca0 := box_keep ca0 la0 k9 (by omega)
  replace la0 := Nat.lt_of_lt_of_le la0 (k9).size
  replace cs0 := box_keep cs0 ls0 k9 (by omega)
  replace ls0 := Nat.lt_of_lt_of_le ls0 (k9).size
  replace cx0 := box_keep cx0 lx0 k9 (by omega)
  replace lx0 := Nat.lt_of_lt_of_le lx0 (k9).size
  have a4 := turn_alloc w9 (.cells #[.slice A_g0 N_g0 C_g0] 27)
  have z4a := World.size_alloc w9 (.cells #[.slice A_g0 N_g0 C_g0] 27)
  replace hB := a4.base hB (by omega) (by omega)
  replace os0 := os0.keep a4 (by omega)
  replace ox0 := ox0.keep a4 (by omega)
  replace ox1 := ox1.keep a4 (by omega)
  replace ox2 := ox2.keep a4 (by omega)
  replace og0 := og0.keep a4 (by omega)
  replace ca0 := box_keep ca0 la0 a4 (by omega)
  replace la0 := Nat.lt_of_lt_of_le la0 (a4).size
  replace cs0 := box_keep cs0 ls0 a4 (by omega)
  replace ls0 := Nat.lt_of_lt_of_le ls0 (a4).size
  replace cx0 := box_keep cx0 lx0 a4 (by omega)
  replace lx0 := Nat.lt_of_lt_of_le lx0 (a4).size
  have cg0 := alloc_cell w9 (.slice A_g0 N_g0 C_g0) 27
  have lg0 := alloc_lt w9 (.cells #[.slice A_g0 N_g0 C_g0] 27)
  go_wp2_with fail
  refine (eqMatrix_same _ _ (ptR l p q) _ og0.seen os0.seen).mono ?_
  rintro e w10 ⟨rfl, k10⟩
  have s10 := k10.size
  replace hB := k10.base hB (by omega) (by omega)
  replace os0 := os0.keep k10 (by omega)
  replace ox0 := ox0.keep k10 (by omega)
  replace ox1 := ox1.keep k10 (by omega)
  replace ox2 := ox2.keep k10 (by omega)
  replace og0 := og0.keep k10 (by omega)
  replace ca0 := box_keep ca0 la0 k10 (by omega)
  replace la0 := Nat.lt_of_lt_of_le la0 (k10).size
  replace cs0 := box_keep cs0 ls0 k10 (by omega)
  replace ls0 := Nat.lt_of_lt_of_le ls0 (k10).size
  replace cx0 := box_keep cx0 lx0 k10 (by omega)
  replace lx0 := Nat.lt_of_lt_of_le lx0 (k10).size
  replace cg0 := box_keep cg0 lg0 k10 (by omega)
  replace lg0 := Nat.lt_of_lt_of_le lg0 (k10).size
  go_wp2_with fail
  go_region_held3 (fun w' => w'.cell? ⟨w6.heap.size, 0, none⟩ = some (.slice A_x0 N_x0 C_x0) ∧ w'.cell? ⟨w.heap.size, 0, none⟩ = some (.slice A0 (l).length cc0))
    (first | exact ⟨cx0, ca0⟩)
    (first | (go_at_call 13; refine (toMatrix_own _ l (World.drew w10) (HV0.out.below hB.drew) (by rw [← HZ0.out]; omega)).mono ?_; rintro e w11 ⟨tb0, tb0vs, rfl, otb0, k11⟩; obtain ⟨A_tb0, N_tb0, C_tb0, rfl⟩ := otb0.isSlice; replace k11 := undrew k11; have s11 := k11.size; replace hB := k11.base hB (by omega) (by omega); replace os0 := os0.keep k11 (by omega); replace ox0 := ox0.keep k11 (by omega); replace ox1 := ox1.keep k11 (by omega); replace ox2 := ox2.keep k11 (by omega); replace og0 := og0.keep k11 (by omega); replace ca0 := box_keep ca0 la0 k11 (by omega); replace la0 := Nat.lt_of_lt_of_le la0 (k11).size; replace cs0 := box_keep cs0 ls0 k11 (by omega); replace ls0 := Nat.lt_of_lt_of_le ls0 (k11).size; replace cx0 := box_keep cx0 lx0 k11 (by omega); replace lx0 := Nat.lt_of_lt_of_le lx0 (k11).size; replace cg0 := box_keep cg0 lg0 k11 (by omega); replace lg0 := Nat.lt_of_lt_of_le lg0 (k11).size) | (go_at_call 15; refine (eqMatrix_same _ _ l _ ox0.seen otb0.seen).mono ?_; rintro e w12 ⟨rfl, k12⟩; have s12 := k12.size; replace hB := k12.base hB (by omega) (by omega); replace os0 := os0.keep k12 (by omega); replace ox0 := ox0.keep k12 (by omega); replace ox1 := ox1.keep k12 (by omega); replace ox2 := ox2.keep k12 (by omega); replace og0 := og0.keep k12 (by omega); replace otb0 := otb0.keep k12 (by omega); replace ca0 := box_keep ca0 la0 k12 (by omega); replace la0 := Nat.lt_of_lt_of_le la0 (k12).size; replace cs0 := box_keep cs0 ls0 k12 (by omega); replace ls0 := Nat.lt_of_lt_of_le ls0 (k12).size; replace cx0 := box_keep cx0 lx0 k12 (by omega); replace lx0 := Nat.lt_of_lt_of_le lx0 (k12).size; replace cg0 := box_keep cg0 lg0 k12 (by omega); replace lg0 := Nat.lt_of_lt_of_le lg0 (k12).size))
  go_wp2_with fail
  refine (toIntS_own _ p _ (HV1.out.below hB) (by rw [← HN1.out]; omega)).mono ?_
  rintro e w13 ⟨tb1, rfl, otb1, k13⟩
  have s13 := k13.size
  replace hB := k13.base hB (by omega) (by omega)
  replace os0 := os0.keep k13 (by omega)
  replace ox0 := ox0.keep k13 (by omega)
  replace ox1 := ox1.keep k13 (by omega)
  replace ox2 := ox2.keep k13 (by omega)
  replace og0 := og0.keep k13 (by omega)
  replace ca0 := box_keep ca0 la0 k13 (by omega)
  replace la0 := Nat.lt_of_lt_of_le la0 (k13).size
  replace cs0 := box_keep cs0 ls0 k13 (by omega)
  replace ls0 := Nat.lt_of_lt_of_le ls0 (k13).size
  replace cx0 := box_keep cx0 lx0 k13 (by omega)
  replace lx0 := Nat.lt_of_lt_of_le lx0 (k13).size
  replace cg0 := box_keep cg0 lg0 k13 (by omega)
  replace lg0 := Nat.lt_of_lt_of_le lg0 (k13).size
  go_wp2_with fail
  refine (eqIntS_same _ _ p _ ox1.seen otb1.seen).mono ?_
  rintro e w14 ⟨rfl, k14⟩
  have s14 := k14.size
  replace hB := k14.base hB (by omega) (by omega)
  replace os0 := os0.keep k14 (by omega)
  replace ox0 := ox0.keep k14 (by omega)
  replace ox1 := ox1.keep k14 (by omega)
  replace ox2 := ox2.keep k14 (by omega)
  replace og0 := og0.keep k14 (by omega)
  replace otb1 := otb1.keep k14 (by omega)
  replace ca0 := box_keep ca0 la0 k14 (by omega)
  replace la0 := Nat.lt_of_lt_of_le la0 (k14).size
  replace cs0 := box_keep cs0 ls0 k14 (by omega)
  replace ls0 := Nat.lt_of_lt_of_le ls0 (k14).size
  replace cx0 := box_keep cx0 lx0 k14 (by omega)
  replace lx0 := Nat.lt_of_lt_of_le lx0 (k14).size
  replace cg0 := box_keep cg0 lg0 k14 (by omega)
  replace lg0 := Nat.lt_of_lt_of_le lg0 (k14).size
  go_wp2_with fail
  refine (toIntS_own _ q _ (HV2.out.below hB) (by rw [← HN2.out]; omega)).mono ?_
  rintro e w15 ⟨tb2, rfl, otb2, k15⟩
  have s15 := k15.size
  replace hB := k15.base hB (by omega) (by omega)
  replace os0 := os0.keep k15 (by omega)
  replace ox0 := ox0.keep k15 (by omega)
  replace ox1 := ox1.keep k15 (by omega)
  replace ox2 := ox2.keep k15 (by omega)
  replace og0 := og0.keep k15 (by omega)
  replace ca0 := box_keep ca0 la0 k15 (by omega)
  replace la0 := Nat.lt_of_lt_of_le la0 (k15).size
  replace cs0 := box_keep cs0 ls0 k15 (by omega)
  replace ls0 := Nat.lt_of_lt_of_le ls0 (k15).size
  replace cx0 := box_keep cx0 lx0 k15 (by omega)
  replace lx0 := Nat.lt_of_lt_of_le lx0 (k15).size
  replace cg0 := box_keep cg0 lg0 k15 (by omega)
  replace lg0 := Nat.lt_of_lt_of_le lg0 (k15).size
  go_wp2_with fail
  refine (eqIntS_same _ _ q _ ox2.seen otb2.seen).mono ?_
  rintro e w16 ⟨rfl, k16⟩
  have s16 := k16.size
  replace hB := k16.base hB (by omega) (by omega)
  replace os0 := os0.keep k16 (by omega)
  replace ox0 := ox0.keep k16 (by omega)
  replace ox1 := ox1.keep k16 (by omega)
  replace ox2 := ox2.keep k16 (by omega)
  replace og0 := og0.keep k16 (by omega)
  replace otb2 := otb2.keep k16 (by omega)
  replace ca0 := box_keep ca0 la0 k16 (by omega)
  replace la0 := Nat.lt_of_lt_of_le la0 (k16).size
  replace cs0 := box_keep cs0 ls0 k16 (by omega)
  replace ls0 := Nat.lt_of_lt_of_le ls0 (k16).size
  replace cx0 := box_keep cx0 lx0 k16 (by omega)
  replace lx0 := Nat.lt_of_lt_of_le lx0 (k16).size
  replace cg0 := box_keep cg0 lg0 k16 (by omega)
  replace lg0 := Nat.lt_of_lt_of_le lg0 (k16).size
  obtain ⟨m0, hm0⟩ : ∃ zz : Nat, zz = 1 + sizM (l) := ⟨_, rfl⟩
  have HM0 := Lib.hid hm0
  clear hm0
  have hmb0 : m0 ≤ 10000000 := by have hzz := HZ0.out; rw [HM0.out]; omega
  go_wp2_with fail
  refine (markMatrix_own _ l _ 1 _ _ _ ox0 (by rw [← HM0.out]; omega)).mono ?_
  rintro e w17 ⟨he, ox0, k17⟩
  have s17 := k17.size
  replace hB := k17.base hB (by omega) (by omega)
  replace os0 := os0.keep k17 (by omega)
  replace ox1 := ox1.keep k17 (by omega)
  replace ox2 := ox2.keep k17 (by omega)
  replace og0 := og0.keep k17 (by omega)
  replace ca0 := box_keep ca0 la0 k17 (by omega)
  replace la0 := Nat.lt_of_lt_of_le la0 (k17).size
  replace cs0 := box_keep cs0 ls0 k17 (by omega)
  replace ls0 := Nat.lt_of_lt_of_le ls0 (k17).size
  replace cx0 := box_keep cx0 lx0 k17 (by omega)
  replace lx0 := Nat.lt_of_lt_of_le lx0 (k17).size
  replace cg0 := box_keep cg0 lg0 k17 (by omega)
  replace lg0 := Nat.lt_of_lt_of_le lg0 (k17).size
  rw [← HM0.out] at he
  subst he
  obtain ⟨m1, hm1⟩ : ∃ zz : Nat, zz = m0 + (p).length := ⟨_, rfl⟩
  have HM1 := Lib.hid hm1
  clear hm1
  have hmb1 : m1 ≤ 20000000 := by rw [HM1.out, ← HN1.out]; omega
  go_wp2_with fail
  refine (markIntS_own _ p m0 _ _ _ ox1 (by rw [← HM1.out]; omega)).mono ?_
  rintro e w18 ⟨he, ox1, k18⟩
  have s18 := k18.size
  replace hB := k18.base hB (by omega) (by omega)
  replace os0 := os0.keep k18 (by omega)
  replace ox2 := ox2.keep k18 (by omega)
  replace og0 := og0.keep k18 (by omega)
  replace ca0 := box_keep ca0 la0 k18 (by omega)
  replace la0 := Nat.lt_of_lt_of_le la0 (k18).size
  replace cs0 := box_keep cs0 ls0 k18 (by omega)
  replace ls0 := Nat.lt_of_lt_of_le ls0 (k18).size
  replace cx0 := box_keep cx0 lx0 k18 (by omega)
  replace lx0 := Nat.lt_of_lt_of_le lx0 (k18).size
  replace cg0 := box_keep cg0 lg0 k18 (by omega)
  replace lg0 := Nat.lt_of_lt_of_le lg0 (k18).size
  rw [← HM1.out] at he
  subst he
  obtain ⟨m2, hm2⟩ : ∃ zz : Nat, zz = m1 + (q).length := ⟨_, rfl⟩
  have HM2 := Lib.hid hm2
  clear hm2
  have hmb2 : m2 ≤ 30000000 := by rw [HM2.out, ← HN2.out]; omega
  go_wp2_with fail
  refine (markIntS_own _ q m1 _ _ _ ox2 (by rw [← HM2.out]; omega)).mono ?_
  rintro e w19 ⟨he, ox2, k19⟩
  have s19 := k19.size
  replace hB := k19.base hB (by omega) (by omega)
  replace os0 := os0.keep k19 (by omega)
  replace og0 := og0.keep k19 (by omega)
  replace ca0 := box_keep ca0 la0 k19 (by omega)
  replace la0 := Nat.lt_of_lt_of_le la0 (k19).size
  replace cs0 := box_keep cs0 ls0 k19 (by omega)
  replace ls0 := Nat.lt_of_lt_of_le ls0 (k19).size
  replace cx0 := box_keep cx0 lx0 k19 (by omega)
  replace lx0 := Nat.lt_of_lt_of_le lx0 (k19).size
  replace cg0 := box_keep cg0 lg0 k19 (by omega)
  replace lg0 := Nat.lt_of_lt_of_le lg0 (k19).size
  rw [← HM2.out] at he
  subst he
  have hk0 : ¬ (m2 : Int) < 0 := by omega
  go_wp2_with fail
  refine (eqMatrix_same _ _ (ptR l p q) _ og0.seen os0.seen).mono ?_
  rintro e w20 ⟨rfl, k20⟩
  have s20 := k20.size
  replace hB := k20.base hB (by omega) (by omega)
  replace os0 := os0.keep k20 (by omega)
  replace og0 := og0.keep k20 (by omega)
  replace ca0 := box_keep ca0 la0 k20 (by omega)
  replace la0 := Nat.lt_of_lt_of_le la0 (k20).size
  replace cs0 := box_keep cs0 ls0 k20 (by omega)
  replace ls0 := Nat.lt_of_lt_of_le ls0 (k20).size
  replace cx0 := box_keep cx0 lx0 k20 (by omega)
  replace lx0 := Nat.lt_of_lt_of_le lx0 (k20).size
  replace cg0 := box_keep cg0 lg0 k20 (by omega)
  replace lg0 := Nat.lt_of_lt_of_le lg0 (k20).size
  obtain ⟨r0, hr0⟩ : ∃ zz : Nat, zz = 1 + sizM (ptR l p q) := ⟨_, rfl⟩
  have HR0 := Lib.hid hr0
  clear hr0
  have hrb0 : r0 ≤ 100000000 := by have := ptR_siz l p q; rw [HR0.out]; omega
  go_wp2_with fail
  refine (markMatrix_own _ (ptR l p q) _ 1 _ _ _ og0 (by rw [← HR0.out]; omega)).mono ?_
  rintro e w21 ⟨he, og0, k21⟩
  have s21 := k21.size
  replace hB := k21.base hB (by omega) (by omega)
  replace os0 := os0.keep k21 (by omega)
  replace ca0 := box_keep ca0 la0 k21 (by omega)
  replace la0 := Nat.lt_of_lt_of_le la0 (k21).size
  replace cs0 := box_keep cs0 ls0 k21 (by omega)
  replace ls0 := Nat.lt_of_lt_of_le ls0 (k21).size
  replace cx0 := box_keep cx0 lx0 k21 (by omega)
  replace lx0 := Nat.lt_of_lt_of_le lx0 (k21).size
  replace cg0 := box_keep cg0 lg0 k21 (by omega)
  replace lg0 := Nat.lt_of_lt_of_le lg0 (k21).size
  rw [← HR0.out] at he
  subst he
  go_wp2_with fail
  refine (heldMatrix_own _ (ptR l p q) 1 _ og0.seen (by rw [← HR0.out]; omega)).mono ?_
  rintro e w22 ⟨he, k22⟩
  have s22 := k22.size
  replace hB := k22.base hB (by omega) (by omega)
  replace os0 := os0.keep k22 (by omega)
  replace og0 := og0.keep k22 (by omega)
  replace ca0 := box_keep ca0 la0 k22 (by omega)
  replace la0 := Nat.lt_of_lt_of_le la0 (k22).size
  replace cs0 := box_keep cs0 ls0 k22 (by omega)
  replace ls0 := Nat.lt_of_lt_of_le ls0 (k22).size
  replace cx0 := box_keep cx0 lx0 k22 (by omega)
  replace lx0 := Nat.lt_of_lt_of_le lx0 (k22).size
  replace cg0 := box_keep cg0 lg0 k22 (by omega)
  replace lg0 := Nat.lt_of_lt_of_le lg0 (k22).size
  rw [← HR0.out] at he
  subst he
  have hq0 : ¬ (r0 : Int) < 0 := by omega
  have hqq : ((r0 : Int) != (r0 : Int)) = false := by simp
  go_wp2_with fail
  refine (toMatrix_own _ l _ (HV0.out.below hB) (by rw [← HZ0.out]; omega)).mono ?_
  rintro e w23 ⟨tc0, tc0vs, rfl, otc0, k23⟩
  obtain ⟨A_tc0, N_tc0, C_tc0, rfl⟩ := otc0.isSlice
  have s23 := k23.size
  replace hB := k23.base hB (by omega) (by omega)
  replace os0 := os0.keep k23 (by omega)
  replace og0 := og0.keep k23 (by omega)
  replace ca0 := box_keep ca0 la0 k23 (by omega)
  replace la0 := Nat.lt_of_lt_of_le la0 (k23).size
  replace cs0 := box_keep cs0 ls0 k23 (by omega)
  replace ls0 := Nat.lt_of_lt_of_le ls0 (k23).size
  replace cx0 := box_keep cx0 lx0 k23 (by omega)
  replace lx0 := Nat.lt_of_lt_of_le lx0 (k23).size
  replace cg0 := box_keep cg0 lg0 k23 (by omega)
  replace lg0 := Nat.lt_of_lt_of_le lg0 (k23).size
  go_wp2_with fail
  refine (toIntS_own _ p _ (HV1.out.below hB) (by rw [← HN1.out]; omega)).mono ?_
  rintro e w24 ⟨tc1, rfl, otc1, k24⟩
  have s24 := k24.size
  replace hB := k24.base hB (by omega) (by omega)
  replace os0 := os0.keep k24 (by omega)
  replace og0 := og0.keep k24 (by omega)
  replace otc0 := otc0.keep k24 (by omega)
  replace ca0 := box_keep ca0 la0 k24 (by omega)
  replace la0 := Nat.lt_of_lt_of_le la0 (k24).size
  replace cs0 := box_keep cs0 ls0 k24 (by omega)
  replace ls0 := Nat.lt_of_lt_of_le ls0 (k24).size
  replace cx0 := box_keep cx0 lx0 k24 (by omega)
  replace lx0 := Nat.lt_of_lt_of_le lx0 (k24).size
  replace cg0 := box_keep cg0 lg0 k24 (by omega)
  replace lg0 := Nat.lt_of_lt_of_le lg0 (k24).size
  go_wp2_with fail
  refine (toIntS_own _ q _ (HV2.out.below hB) (by rw [← HN2.out]; omega)).mono ?_
  rintro e w25 ⟨tc2, rfl, otc2, k25⟩
  have s25 := k25.size
  replace hB := k25.base hB (by omega) (by omega)
  replace os0 := os0.keep k25 (by omega)
  replace og0 := og0.keep k25 (by omega)
  replace otc0 := otc0.keep k25 (by omega)
  replace otc1 := otc1.keep k25 (by omega)
  replace ca0 := box_keep ca0 la0 k25 (by omega)
  replace la0 := Nat.lt_of_lt_of_le la0 (k25).size
  replace cs0 := box_keep cs0 ls0 k25 (by omega)
  replace ls0 := Nat.lt_of_lt_of_le ls0 (k25).size
  replace cx0 := box_keep cx0 lx0 k25 (by omega)
  replace lx0 := Nat.lt_of_lt_of_le lx0 (k25).size
  replace cg0 := box_keep cg0 lg0 k25 (by omega)
  replace lg0 := Nat.lt_of_lt_of_le lg0 (k25).size
  go_wp2_with fail
  refine (partOf_own _ _ _ l p q _ otc0.seen otc1.seen otc2.seen).mono ?_
  rintro e w26 ⟨h0, h0vs, rfl, oh0, k26⟩
  obtain ⟨A_h0, N_h0, C_h0, rfl⟩ := oh0.isSlice
  have s26 := k26.size
  replace hB := k26.base hB (by omega) (by omega)
  replace os0 := os0.keep k26 (by omega)
  replace og0 := og0.keep k26 (by omega)
  replace otc0 := otc0.keep k26 (by omega)
  replace otc1 := otc1.keep k26 (by omega)
  replace otc2 := otc2.keep k26 (by omega)
  replace ca0 := box_keep ca0 la0 k26 (by omega)
  replace la0 := Nat.lt_of_lt_of_le la0 (k26).size
  replace cs0 := box_keep cs0 ls0 k26 (by omega)
  replace ls0 := Nat.lt_of_lt_of_le ls0 (k26).size
  replace cx0 := box_keep cx0 lx0 k26 (by omega)
  replace lx0 := Nat.lt_of_lt_of_le lx0 (k26).size
  replace cg0 := box_keep cg0 lg0 k26 (by omega)
  replace lg0 := Nat.lt_of_lt_of_le lg0 (k26).size
  have a5 := turn_alloc w26 (.cells #[.slice A_h0 N_h0 C_h0] 27)
  have z5a := World.size_alloc w26 (.cells #[.slice A_h0 N_h0 C_h0] 27)
  replace hB := a5.base hB (by omega) (by omega)
  replace os0 := os0.keep a5 (by omega)
  replace og0 := og0.keep a5 (by omega)
  replace oh0 := oh0.keep a5 (by omega)
  replace ca0 := box_keep ca0 la0 a5 (by omega)
  replace la0 := Nat.lt_of_lt_of_le la0 (a5).size
  replace cs0 := box_keep cs0 ls0 a5 (by omega)
  replace ls0 := Nat.lt_of_lt_of_le ls0 (a5).size
  replace cx0 := box_keep cx0 lx0 a5 (by omega)
  replace lx0 := Nat.lt_of_lt_of_le lx0 (a5).size
  replace cg0 := box_keep cg0 lg0 a5 (by omega)
  replace lg0 := Nat.lt_of_lt_of_le lg0 (a5).size
  have ch0 := alloc_cell w26 (.slice A_h0 N_h0 C_h0) 27
  have lh0 := alloc_lt w26 (.cells #[.slice A_h0 N_h0 C_h0] 27)
  go_wp2_with fail
  refine (eqMatrix_same _ _ (ptR l p q) _ oh0.seen os0.seen).mono ?_
  rintro e w27 ⟨rfl, k27⟩
  have s27 := k27.size
  replace hB := k27.base hB (by omega) (by omega)
  replace os0 := os0.keep k27 (by omega)
  replace og0 := og0.keep k27 (by omega)
  replace oh0 := oh0.keep k27 (by omega)
  replace ca0 := box_keep ca0 la0 k27 (by omega)
  replace la0 := Nat.lt_of_lt_of_le la0 (k27).size
  replace cs0 := box_keep cs0 ls0 k27 (by omega)
  replace ls0 := Nat.lt_of_lt_of_le ls0 (k27).size
  replace cx0 := box_keep cx0 lx0 k27 (by omega)
  replace lx0 := Nat.lt_of_lt_of_le lx0 (k27).size
  replace cg0 := box_keep cg0 lg0 k27 (by omega)
  replace lg0 := Nat.lt_of_lt_of_le lg0 (k27).size
  replace ch0 := box_keep ch0 lh0 k27 (by omega)
  replace lh0 := Nat.lt_of_lt_of_le lh0 (k27).size
  go_wp2_with fail
  refine (heldMatrix_own _ (ptR l p q) 1 _ og0.seen (by rw [← HR0.out]; omega)).mono ?_
  rintro e w28 ⟨he, k28⟩
  have s28 := k28.size
  replace hB := k28.base hB (by omega) (by omega)
  replace os0 := os0.keep k28 (by omega)
  replace og0 := og0.keep k28 (by omega)
  replace oh0 := oh0.keep k28 (by omega)
  replace ca0 := box_keep ca0 la0 k28 (by omega)
  replace la0 := Nat.lt_of_lt_of_le la0 (k28).size
  replace cs0 := box_keep cs0 ls0 k28 (by omega)
  replace ls0 := Nat.lt_of_lt_of_le ls0 (k28).size
  replace cx0 := box_keep cx0 lx0 k28 (by omega)
  replace lx0 := Nat.lt_of_lt_of_le lx0 (k28).size
  replace cg0 := box_keep cg0 lg0 k28 (by omega)
  replace lg0 := Nat.lt_of_lt_of_le lg0 (k28).size
  replace ch0 := box_keep ch0 lh0 k28 (by omega)
  replace lh0 := Nat.lt_of_lt_of_le lh0 (k28).size
  rw [← HR0.out] at he
  subst he
  have hq0 : ¬ (r0 : Int) < 0 := by omega
  have hqq : ((r0 : Int) != (r0 : Int)) = false := by simp
  go_wp2_with fail
  go_ret
  exact ⟨rfl, hB⟩

set_option maxRecDepth 100000 in
theorem walk_FnExactPartOf : G294.LawWalk Try.prog 8 Try.f8 Rows.fnExactPartOfSpec.vars false (fun _ => True) := by
  intro H enc W base args ds gs before hval hW hX
  have hlt0 : ∀ p ∈ before, p.block < W.heap.size := fun p hp => hW.lt p hp
  obtain ⟨p, q, hA, hV, rfl, hfz, hnd⟩ := hW
  rw [Try.params8] at hA hval
  obtain ⟨u0, vs0, d0, ds0, p0, q0, hargs, rfl, rfl, t0, r0⟩ := trodAll_cons hA
  obtain ⟨u1, vs1, d1, ds1, p1, q1, rfl, rfl, rfl, t1, r1⟩ := trodAll_cons r0
  obtain ⟨u2, vs2, d2, ds2, p2, q2, rfl, rfl, rfl, t2, r2⟩ := trodAll_cons r1
  obtain ⟨rfl, rfl, rfl⟩ := trodAll_nil r2
  obtain rfl : args = #[u0, u1, u2] := by cases args; simp_all
  obtain ⟨y0, l0, rfl, sn0⟩ := seen_matrix (hval 0 24 u0 rfl rfl) t0 (fun x hx => hlt0 x (by simp [hx]))
  obtain ⟨l1, sn1⟩ := seen_ints Try.underlying38 Try.underlying3 (by kernel_rfl) (hval 1 38 u1 rfl rfl) t1 (fun x hx => hlt0 x (by simp [hx]))
  obtain ⟨l2, sn2⟩ := seen_ints Try.underlying38 Try.underlying3 (by kernel_rfl) (hval 2 38 u2 rfl rfl) t2 (fun x hx => hlt0 x (by simp [hx]))
  exact exactPartOf_walk y0 l0 u1 l1 u2 l2 W sn0 sn1 sn2

end Go.Proofs.Ytldmefelnpgohaa
