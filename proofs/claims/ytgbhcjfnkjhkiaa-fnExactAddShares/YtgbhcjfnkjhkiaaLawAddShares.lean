/- The walk of FnExactAddShares. -/
import Derived.Test.YtgbhcjfnkjhkiaaRows
import Derived.Test.YtgbhcjfnkjhkiaaOpenShr
import Derived.Test.YtgbhcjfnkjhkiaaShrWalks
import Derived.Test.YtgbhcjfnkjhkiaaAddShr
import Derived.Test.YtgbhcjfnkjhkiaaFrame
set_option linter.unusedSimpArgs false
set_option linter.unusedVariables false
namespace Go.Proofs.Ytgbhcjfnkjhkiaa
open Go.ChangeShapes Go.WideShapes Go.ChangeAt Go.RowKit G294

set_option maxRecDepth 100000 in
set_option maxHeartbeats 4000000 in
theorem exactAddShares_walk (v0 : Value) (l : List Sr) (v1 : Value) (m : List Sr) (w : World) (hv0 : SeenR w v0 l) (hv1 : SeenR w v1 m) :
    Calls Try.prog 3 #[v0, v1] w fun e w' => e = .returned (.bool true) ∧ Below w.heap.size w w' := by
  obtain ⟨A0, cc0, hvv0⟩ := hv0.len
  obtain ⟨A1, cc1, hvv1⟩ := hv1.len
  have hbb1 : (adsOk l m != adsOk l m) = false := by simp
  have HVV0 := Lib.hid hvv0
  rw [hvv0] at hv0 ⊢
  clear hvv0
  have HV0 := Lib.hid hv0
  clear hv0
  obtain ⟨z0, hz0⟩ : ∃ zz, zz = (l).length := ⟨_, rfl⟩
  have HZ0 := Lib.hid hz0
  have hnz0 : l.length ≤ z0 := by omega
  clear hz0
  obtain ⟨n0, hn0⟩ : ∃ zz, zz = l.length := ⟨_, rfl⟩
  have HN0 := Lib.hid hn0
  rw [← hn0] at HV0 hnz0 ⊢
  clear hn0
  have HVV1 := Lib.hid hvv1
  rw [hvv1] at hv1 ⊢
  clear hvv1
  have HV1 := Lib.hid hv1
  clear hv1
  obtain ⟨z1, hz1⟩ : ∃ zz, zz = (m).length := ⟨_, rfl⟩
  have HZ1 := Lib.hid hz1
  have hnz1 : m.length ≤ z1 := by omega
  clear hz1
  obtain ⟨n1, hn1⟩ : ∃ zz, zz = m.length := ⟨_, rfl⟩
  have HN1 := Lib.hid hn1
  rw [← hn1] at HV1 hnz1 ⊢
  clear hn1
  have hB := Below.refl w.heap.size w
  go_enter Try.func3, Try.ntmps3
  by_cases hbz0 : 1048576 < z0
  · go_wp2_with fail
    refine (szShareS_no _ l (1048576) _ (HV0.out.below hB) (by rw [← HZ0.out]; omega) (by omega)).mono ?_
    rintro e w1 ⟨rfl, k1⟩
    have s1 := k1.size
    replace hB := k1.base hB (by omega) (by omega)
    go_wp2_with fail
    go_ret
    exact ⟨rfl, hB⟩
  go_wp2_with fail
  refine (szShareS_yes _ l (1048576) _ (HV0.out.below hB) (by rw [← HZ0.out]; omega) (by omega)).mono ?_
  rintro e w1 ⟨he, k1⟩
  have s1 := k1.size
  replace hB := k1.base hB (by omega) (by omega)
  rw [← HZ0.out] at he
  obtain ⟨left0, hleft0⟩ : ∃ zz : Nat, zz = 1048576 - z0 := ⟨_, rfl⟩
  have HL0 := Lib.hid hleft0
  rw [← hleft0] at he
  have hlb0 : left0 ≤ 1048576 := by omega
  clear hleft0
  subst he
  have hln0 : ¬ (left0 : Int) < 0 := by omega
  by_cases hbz1 : left0 < z1
  · go_wp2_with fail
    refine (szShareS_no _ m (left0) _ (HV1.out.below hB) (by rw [← HZ1.out]; omega) (by omega)).mono ?_
    rintro e w2 ⟨rfl, k2⟩
    have s2 := k2.size
    replace hB := k2.base hB (by omega) (by omega)
    go_wp2_with fail
    go_ret
    exact ⟨rfl, hB⟩
  go_wp2_with fail
  refine (szShareS_yes _ m (left0) _ (HV1.out.below hB) (by rw [← HZ1.out]; omega) (by omega)).mono ?_
  rintro e w2 ⟨he, k2⟩
  have s2 := k2.size
  replace hB := k2.base hB (by omega) (by omega)
  rw [← HZ1.out] at he
  obtain ⟨left1, hleft1⟩ : ∃ zz : Nat, zz = left0 - z1 := ⟨_, rfl⟩
  have HL1 := Lib.hid hleft1
  rw [← hleft1] at he
  have hlb1 : left1 ≤ 1048576 := by omega
  clear hleft1
  subst he
  have hln1 : ¬ (left1 : Int) < 0 := by omega
  go_wp2_with fail
  refine (toShareS_own _ l _ (HV0.out.below hB) (by rw [← HN0.out]; omega)).mono ?_
  rintro e w3 ⟨ta0, rfl, ota0, k3⟩
  have s3 := k3.size
  replace hB := k3.base hB (by omega) (by omega)
  go_wp2_with fail
  refine (toShareS_own _ m _ (HV1.out.below hB) (by rw [← HN1.out]; omega)).mono ?_
  rintro e w4 ⟨ta1, rfl, ota1, k4⟩
  have s4 := k4.size
  replace hB := k4.base hB (by omega) (by omega)
  replace ota0 := ota0.keep k4 (by omega)
  go_wp2_with fail
  refine (sAddShares_own _ _ l m _ ota0.seen ota1.seen).mono ?_
  rintro e w5 ⟨s0, rfl, os0, k5⟩
  have s5 := k5.size
  replace hB := k5.base hB (by omega) (by omega)
  replace ota0 := ota0.keep k5 (by omega)
  replace ota1 := ota1.keep k5 (by omega)
  go_wp2_with fail
  refine (toShareS_own _ l _ (HV0.out.below hB) (by rw [← HN0.out]; omega)).mono ?_
  rintro e w6 ⟨x0, rfl, ox0, k6⟩
  have s6 := k6.size
  replace hB := k6.base hB (by omega) (by omega)
  replace os0 := os0.keep k6 (by omega)
  go_wp2_with fail
  refine (toShareS_own _ m _ (HV1.out.below hB) (by rw [← HN1.out]; omega)).mono ?_
  rintro e w7 ⟨x1, rfl, ox1, k7⟩
  have s7 := k7.size
  replace hB := k7.base hB (by omega) (by omega)
  replace os0 := os0.keep k7 (by omega)
  replace ox0 := ox0.keep k7 (by omega)
  go_wp2_with fail
  refine (addShares_own _ _ l m _ ox0.seen ox1.seen).mono ?_
  rintro e w8 ⟨g0, rfl, og0, k8⟩
  have s8 := k8.size
  replace hB := k8.base hB (by omega) (by omega)
  replace os0 := os0.keep k8 (by omega)
  replace ox0 := ox0.keep k8 (by omega)
  replace ox1 := ox1.keep k8 (by omega)
  go_wp2_with fail
  refine (eqShareS_same _ _ (adsR l m) _ og0.seen os0.seen).mono ?_
  rintro e w9 ⟨rfl, k9⟩
  have s9 := k9.size
  replace hB := k9.base hB (by omega) (by omega)
  replace os0 := os0.keep k9 (by omega)
  replace ox0 := ox0.keep k9 (by omega)
  replace ox1 := ox1.keep k9 (by omega)
  replace og0 := og0.keep k9 (by omega)
  go_wp2_with fail
  refine (toShareS_own _ l _ (HV0.out.below hB) (by rw [← HN0.out]; omega)).mono ?_
  rintro e w10 ⟨tb0, rfl, otb0, k10⟩
  have s10 := k10.size
  replace hB := k10.base hB (by omega) (by omega)
  replace os0 := os0.keep k10 (by omega)
  replace ox0 := ox0.keep k10 (by omega)
  replace ox1 := ox1.keep k10 (by omega)
  replace og0 := og0.keep k10 (by omega)
  go_wp2_with fail
  refine (eqShareS_same _ _ l _ ox0.seen otb0.seen).mono ?_
  rintro e w11 ⟨rfl, k11⟩
  have s11 := k11.size
  replace hB := k11.base hB (by omega) (by omega)
  replace os0 := os0.keep k11 (by omega)
  replace ox0 := ox0.keep k11 (by omega)
  replace ox1 := ox1.keep k11 (by omega)
  replace og0 := og0.keep k11 (by omega)
  replace otb0 := otb0.keep k11 (by omega)
  go_wp2_with fail
  refine (toShareS_own _ m _ (HV1.out.below hB) (by rw [← HN1.out]; omega)).mono ?_
  rintro e w12 ⟨tb1, rfl, otb1, k12⟩
  have s12 := k12.size
  replace hB := k12.base hB (by omega) (by omega)
  replace os0 := os0.keep k12 (by omega)
  replace ox0 := ox0.keep k12 (by omega)
  replace ox1 := ox1.keep k12 (by omega)
  replace og0 := og0.keep k12 (by omega)
  go_wp2_with fail
  refine (eqShareS_same _ _ m _ ox1.seen otb1.seen).mono ?_
  rintro e w13 ⟨rfl, k13⟩
  have s13 := k13.size
  replace hB := k13.base hB (by omega) (by omega)
  replace os0 := os0.keep k13 (by omega)
  replace ox0 := ox0.keep k13 (by omega)
  replace ox1 := ox1.keep k13 (by omega)
  replace og0 := og0.keep k13 (by omega)
  replace otb1 := otb1.keep k13 (by omega)
  obtain ⟨m0, hm0⟩ : ∃ zz : Nat, zz = 1 + (l).length * 2 := ⟨_, rfl⟩
  have HM0 := Lib.hid hm0
  clear hm0
  have hmb0 : m0 ≤ 10000000 := by rw [HM0.out, ← HN0.out]; omega
  go_wp2_with fail
  refine (markShareS_own _ l 1 _ _ _ ox0 (by rw [← HM0.out]; omega)).mono ?_
  rintro e w14 ⟨he, ox0, k14⟩
  have s14 := k14.size
  replace hB := k14.base hB (by omega) (by omega)
  replace os0 := os0.keep k14 (by omega)
  replace ox1 := ox1.keep k14 (by omega)
  replace og0 := og0.keep k14 (by omega)
  rw [← HM0.out] at he
  subst he
  obtain ⟨m1, hm1⟩ : ∃ zz : Nat, zz = m0 + (m).length * 2 := ⟨_, rfl⟩
  have HM1 := Lib.hid hm1
  clear hm1
  have hmb1 : m1 ≤ 20000000 := by rw [HM1.out, ← HN1.out]; omega
  go_wp2_with fail
  refine (markShareS_own _ m m0 _ _ _ ox1 (by rw [← HM1.out]; omega)).mono ?_
  rintro e w15 ⟨he, ox1, k15⟩
  have s15 := k15.size
  replace hB := k15.base hB (by omega) (by omega)
  replace os0 := os0.keep k15 (by omega)
  replace og0 := og0.keep k15 (by omega)
  rw [← HM1.out] at he
  subst he
  have hk0 : ¬ (m1 : Int) < 0 := by omega
  go_wp2_with fail
  refine (eqShareS_same _ _ (adsR l m) _ og0.seen os0.seen).mono ?_
  rintro e w16 ⟨rfl, k16⟩
  have s16 := k16.size
  replace hB := k16.base hB (by omega) (by omega)
  replace os0 := os0.keep k16 (by omega)
  replace og0 := og0.keep k16 (by omega)
  obtain ⟨r0, hr0⟩ : ∃ zz : Nat, zz = 1 + (adsR l m).length * 2 := ⟨_, rfl⟩
  have HR0 := Lib.hid hr0
  clear hr0
  have hrb0 : r0 ≤ 100000000 := by have := adsR_len l m; rw [HR0.out]; omega
  go_wp2_with fail
  refine (markShareS_own _ (adsR l m) 1 _ _ _ og0 (by rw [← HR0.out]; omega)).mono ?_
  rintro e w17 ⟨he, og0, k17⟩
  have s17 := k17.size
  replace hB := k17.base hB (by omega) (by omega)
  replace os0 := os0.keep k17 (by omega)
  rw [← HR0.out] at he
  subst he
  go_wp2_with fail
  refine (heldShareS_own _ 1 ((adsR l m).length) _ og0.seen (by rw [← HR0.out]; omega)).mono ?_
  rintro e w18 ⟨he, k18⟩
  have s18 := k18.size
  replace hB := k18.base hB (by omega) (by omega)
  replace os0 := os0.keep k18 (by omega)
  replace og0 := og0.keep k18 (by omega)
  rw [← HR0.out] at he
  subst he
  have hq0 : ¬ (r0 : Int) < 0 := by omega
  have hqq : ((r0 : Int) != (r0 : Int)) = false := by simp
  go_wp2_with fail
  refine (toShareS_own _ l _ (HV0.out.below hB) (by rw [← HN0.out]; omega)).mono ?_
  rintro e w19 ⟨tc0, rfl, otc0, k19⟩
  have s19 := k19.size
  replace hB := k19.base hB (by omega) (by omega)
  replace os0 := os0.keep k19 (by omega)
  replace og0 := og0.keep k19 (by omega)
  go_wp2_with fail
  refine (toShareS_own _ m _ (HV1.out.below hB) (by rw [← HN1.out]; omega)).mono ?_
  rintro e w20 ⟨tc1, rfl, otc1, k20⟩
  have s20 := k20.size
  replace hB := k20.base hB (by omega) (by omega)
  replace os0 := os0.keep k20 (by omega)
  replace og0 := og0.keep k20 (by omega)
  replace otc0 := otc0.keep k20 (by omega)
  go_wp2_with fail
  refine (addShares_own _ _ l m _ otc0.seen otc1.seen).mono ?_
  rintro e w21 ⟨h0, rfl, oh0, k21⟩
  have s21 := k21.size
  replace hB := k21.base hB (by omega) (by omega)
  replace os0 := os0.keep k21 (by omega)
  replace og0 := og0.keep k21 (by omega)
  replace otc0 := otc0.keep k21 (by omega)
  replace otc1 := otc1.keep k21 (by omega)
  go_wp2_with fail
  refine (eqShareS_same _ _ (adsR l m) _ oh0.seen os0.seen).mono ?_
  rintro e w22 ⟨rfl, k22⟩
  have s22 := k22.size
  replace hB := k22.base hB (by omega) (by omega)
  replace os0 := os0.keep k22 (by omega)
  replace og0 := og0.keep k22 (by omega)
  replace oh0 := oh0.keep k22 (by omega)
  go_wp2_with fail
  refine (heldShareS_own _ 1 ((adsR l m).length) _ og0.seen (by rw [← HR0.out]; omega)).mono ?_
  rintro e w23 ⟨he, k23⟩
  have s23 := k23.size
  replace hB := k23.base hB (by omega) (by omega)
  replace os0 := os0.keep k23 (by omega)
  replace og0 := og0.keep k23 (by omega)
  replace oh0 := oh0.keep k23 (by omega)
  rw [← HR0.out] at he
  subst he
  have hq0 : ¬ (r0 : Int) < 0 := by omega
  have hqq : ((r0 : Int) != (r0 : Int)) = false := by simp
  go_wp2_with fail
  go_ret
  exact ⟨rfl, hB⟩

set_option maxRecDepth 100000 in
theorem walk_FnExactAddShares : G294.LawWalk Try.prog 3 Try.f3 Rows.fnExactAddSharesSpec.vars false (fun _ => True) := by
  intro H enc W base args ds gs before hval hW hX
  have hlt0 : ∀ p ∈ before, p.block < W.heap.size := fun p hp => hW.lt p hp
  obtain ⟨p, q, hA, hV, rfl, hfz, hnd⟩ := hW
  rw [Try.params3] at hA hval
  obtain ⟨u0, vs0, d0, ds0, p0, q0, hargs, rfl, rfl, t0, r0⟩ := trodAll_cons hA
  obtain ⟨u1, vs1, d1, ds1, p1, q1, rfl, rfl, rfl, t1, r1⟩ := trodAll_cons r0
  obtain ⟨rfl, rfl, rfl⟩ := trodAll_nil r1
  obtain rfl : args = #[u0, u1] := by cases args; simp_all
  obtain ⟨l0, sn0⟩ := seen_srs Try.underlying22 Try.underlying35 (by kernel_rfl) rfl rfl (by kernel_rfl) (by kernel_rfl) Try.underlying5 Try.underlying5 (hval 0 22 u0 rfl rfl) t0 (fun x hx => hlt0 x (by simp [hx]))
  obtain ⟨l1, sn1⟩ := seen_srs Try.underlying22 Try.underlying35 (by kernel_rfl) rfl rfl (by kernel_rfl) (by kernel_rfl) Try.underlying5 Try.underlying5 (hval 1 22 u1 rfl rfl) t1 (fun x hx => hlt0 x (by simp [hx]))
  exact exactAddShares_walk u0 l0 u1 l1 W sn0 sn1

end Go.Proofs.Ytgbhcjfnkjhkiaa
