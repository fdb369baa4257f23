/- The walk of FnExactShareSecret. -/
import Derived.Test.YtgbhcjfnkjhkiaaDoorRows
import Derived.Test.YtgbhcjfnkjhkiaaDoorOpenArgs
import Derived.Test.YtgbhcjfnkjhkiaaDoorShrWalks
import Derived.Test.YtgbhcjfnkjhkiaaDoorShaSec
import Derived.Test.YtgbhcjfnkjhkiaaDoorTabOf
import Derived.Test.YtgbhcjfnkjhkiaaDoorFrame
set_option linter.unusedSimpArgs false
set_option linter.unusedVariables false
namespace Go.Proofs.YtgbhcjfnkjhkiaaDoor
open Go.ChangeShapes Go.WideShapes Go.ChangeAt Go.RowKit G294

set_option maxRecDepth 100000 in
set_option maxHeartbeats 4000000 in
theorem exactShareSecret_walk (s : UInt8) (v1 : Value) (l : List UInt8) (n : Int) (w : World) (hv1 : Seen w v1 (bys l)) (ht : Tab w) (h0 : 0 < w.heap.size) :
    Calls Tryd.prog 9 #[.int .u8 (s.toNat : Int), v1, .int .i64 n] w fun e w' => e = .returned (.bool true) ∧ Below w.heap.size w w' := by
  obtain ⟨A1, cc1, hvv1⟩ := hv1.len
  rw [bys_length] at hvv1
  have hbb1 : (shaOk l n != shaOk l n) = false := by simp
  have HVV1 := Lib.hid hvv1
  rw [hvv1] at hv1 ⊢
  clear hvv1
  have HV1 := Lib.hid hv1
  clear hv1
  obtain ⟨n1, hn1⟩ : ∃ zz, zz = l.length := ⟨_, rfl⟩
  have HN1 := Lib.hid hn1
  rw [← hn1] at HV1 ⊢
  clear hn1
  have hB := Below.refl w.heap.size w
  by_cases hbig1 : 1048576 < n1
  · go_enter Tryd.func9, Tryd.ntmps9
    go_wp2_with fail
    go_ret
    exact ⟨rfl, hB⟩
  go_enter Tryd.func9, Tryd.ntmps9
  go_wp2_with fail
  refine (toByteS_own _ l _ (HV1.out.below hB) (by rw [← HN1.out]; omega)).mono ?_
  rintro e w1 ⟨ta1, rfl, ota1, k1⟩
  have s1 := k1.size
  replace hB := k1.base hB (by omega) (by omega)
  go_wp2_with fail
  refine (sShareSecret_own s _ l n _ ota1.seen ota1.nilOk).mono ?_
  rintro e w2 ⟨s0, rfl, os0, k2⟩
  have s2 := k2.size
  replace hB := k2.base hB (by omega) (by omega)
  replace ota1 := ota1.keep k2 (by omega)
  go_wp2_with fail
  refine (toByteS_own _ l _ (HV1.out.below hB) (by rw [← HN1.out]; omega)).mono ?_
  rintro e w3 ⟨x1, rfl, ox1, k3⟩
  have s3 := k3.size
  replace hB := k3.base hB (by omega) (by omega)
  replace os0 := os0.keep k3 (by omega)
  go_wp2_with fail
  refine (shareSecret_own s _ l n _ ox1.seen (ht.below hB h0) (by have := hB.size; omega)).mono ?_
  rintro e w4 ⟨g0, rfl, og0, k4⟩
  have s4 := k4.size
  replace hB := k4.base hB (by omega) (by omega)
  replace os0 := os0.keep k4 (by omega)
  replace ox1 := ox1.keep k4 (by omega)
  go_wp2_with fail
  refine (eqShareS_same _ _ (shaR s l n) _ og0.seen os0.seen).mono ?_
  rintro e w5 ⟨rfl, k5⟩
  have s5 := k5.size
  replace hB := k5.base hB (by omega) (by omega)
  replace os0 := os0.keep k5 (by omega)
  replace ox1 := ox1.keep k5 (by omega)
  replace og0 := og0.keep k5 (by omega)
  go_wp2_with fail
  refine (toByteS_own _ l _ (HV1.out.below hB) (by rw [← HN1.out]; omega)).mono ?_
  rintro e w6 ⟨tb1, rfl, otb1, k6⟩
  have s6 := k6.size
  replace hB := k6.base hB (by omega) (by omega)
  replace os0 := os0.keep k6 (by omega)
  replace ox1 := ox1.keep k6 (by omega)
  replace og0 := og0.keep k6 (by omega)
  go_wp2_with fail
  refine (eqByteS_same _ _ l _ ox1.seen otb1.seen).mono ?_
  rintro e w7 ⟨rfl, k7⟩
  have s7 := k7.size
  replace hB := k7.base hB (by omega) (by omega)
  replace os0 := os0.keep k7 (by omega)
  replace ox1 := ox1.keep k7 (by omega)
  replace og0 := og0.keep k7 (by omega)
  replace otb1 := otb1.keep k7 (by omega)
  obtain ⟨m1, hm1⟩ : ∃ zz : Nat, zz = 1 + (l).length := ⟨_, rfl⟩
  have HM1 := Lib.hid hm1
  clear hm1
  have hmb1 : m1 ≤ 10000000 := by rw [HM1.out, ← HN1.out]; omega
  go_wp2_with fail
  refine (markByteS_own _ l 1 _ _ _ ox1 (by rw [← HM1.out]; omega)).mono ?_
  rintro e w8 ⟨he, ox1, k8⟩
  have s8 := k8.size
  replace hB := k8.base hB (by omega) (by omega)
  replace os0 := os0.keep k8 (by omega)
  replace og0 := og0.keep k8 (by omega)
  rw [← HM1.out] at he
  subst he
  have hk0 : ¬ (m1 : Int) < 0 := by omega
  go_wp2_with fail
  refine (eqShareS_same _ _ (shaR s l n) _ og0.seen os0.seen).mono ?_
  rintro e w9 ⟨rfl, k9⟩
  have s9 := k9.size
  replace hB := k9.base hB (by omega) (by omega)
  replace os0 := os0.keep k9 (by omega)
  replace og0 := og0.keep k9 (by omega)
  obtain ⟨r0, hr0⟩ : ∃ zz : Nat, zz = 1 + (shaR s l n).length * 2 := ⟨_, rfl⟩
  have HR0 := Lib.hid hr0
  clear hr0
  have hrb0 : r0 ≤ 100000000 := by have := shaR_len s l n; rw [HR0.out]; omega
  go_wp2_with fail
  refine (markShareS_own _ (shaR s l n) 1 _ _ _ og0 (by rw [← HR0.out]; omega)).mono ?_
  rintro e w10 ⟨he, og0, k10⟩
  have s10 := k10.size
  replace hB := k10.base hB (by omega) (by omega)
  replace os0 := os0.keep k10 (by omega)
  rw [← HR0.out] at he
  subst he
  go_wp2_with fail
  refine (heldShareS_own _ 1 ((shaR s l n).length) _ og0.seen (by rw [← HR0.out]; omega)).mono ?_
  rintro e w11 ⟨he, k11⟩
  have s11 := k11.size
  replace hB := k11.base hB (by omega) (by omega)
  replace os0 := os0.keep k11 (by omega)
  replace og0 := og0.keep k11 (by omega)
  rw [← HR0.out] at he
  subst he
  have hq0 : ¬ (r0 : Int) < 0 := by omega
  have hqq : ((r0 : Int) != (r0 : Int)) = false := by simp
  go_wp2_with fail
  refine (toByteS_own _ l _ (HV1.out.below hB) (by rw [← HN1.out]; omega)).mono ?_
  rintro e w12 ⟨tc1, rfl, otc1, k12⟩
  have s12 := k12.size
  replace hB := k12.base hB (by omega) (by omega)
  replace os0 := os0.keep k12 (by omega)
  replace og0 := og0.keep k12 (by omega)
  go_wp2_with fail
  refine (shareSecret_own s _ l n _ otc1.seen (ht.below hB h0) (by have := hB.size; omega)).mono ?_
  rintro e w13 ⟨h0, rfl, oh0, k13⟩
  have s13 := k13.size
  replace hB := k13.base hB (by omega) (by omega)
  replace os0 := os0.keep k13 (by omega)
  replace og0 := og0.keep k13 (by omega)
  replace otc1 := otc1.keep k13 (by omega)
  go_wp2_with fail
  refine (eqShareS_same _ _ (shaR s l n) _ oh0.seen os0.seen).mono ?_
  rintro e w14 ⟨rfl, k14⟩
  have s14 := k14.size
  replace hB := k14.base hB (by omega) (by omega)
  replace os0 := os0.keep k14 (by omega)
  replace og0 := og0.keep k14 (by omega)
  replace oh0 := oh0.keep k14 (by omega)
  go_wp2_with fail
  refine (heldShareS_own _ 1 ((shaR s l n).length) _ og0.seen (by rw [← HR0.out]; omega)).mono ?_
  rintro e w15 ⟨he, k15⟩
  have s15 := k15.size
  replace hB := k15.base hB (by omega) (by omega)
  replace os0 := os0.keep k15 (by omega)
  replace og0 := og0.keep k15 (by omega)
  replace oh0 := oh0.keep k15 (by omega)
  rw [← HR0.out] at he
  subst he
  have hq0 : ¬ (r0 : Int) < 0 := by omega
  have hqq : ((r0 : Int) != (r0 : Int)) = false := by simp
  go_wp2_with fail
  go_ret
  exact ⟨rfl, hB⟩

set_option maxRecDepth 100000 in
theorem walk_FnExactShareSecret : G294.LawWalk Tryd.prog 9 Tryd.f9 Rows.fnExactShareSecretSpec.vars false (fun W => laidMetH Tryd.prog Rows.fnExactShareSecretRow.laid W) := by
  intro H enc W base args ds gs before hval hW hX
  have hlt0 : ∀ p ∈ before, p.block < W.heap.size := fun p hp => hW.lt p hp
  obtain ⟨p, q, hA, hV, rfl, hfz, hnd⟩ := hW
  rw [Tryd.params9] at hA hval
  obtain ⟨u0, vs0, d0, ds0, p0, q0, hargs, rfl, rfl, t0, r0⟩ := trodAll_cons hA
  obtain ⟨u1, vs1, d1, ds1, p1, q1, rfl, rfl, rfl, t1, r1⟩ := trodAll_cons r0
  obtain ⟨u2, vs2, d2, ds2, p2, q2, rfl, rfl, rfl, t2, r2⟩ := trodAll_cons r1
  obtain ⟨rfl, rfl, rfl⟩ := trodAll_nil r2
  obtain rfl : args = #[u0, u1, u2] := by cases args; simp_all
  obtain ⟨a0, rfl, rfl, rfl, wf0⟩ := open_int Tryd.underlying5 (hval 0 5 u0 rfl rfl) t0
  obtain ⟨b0, rfl⟩ := G294.byte_of_wf wf0
  obtain ⟨l1, sn1⟩ := seen_bytes Tryd.underlying22 Tryd.underlying5 (by kernel_rfl) (hval 1 22 u1 rfl rfl) t1 (fun x hx => hlt0 x (by simp [hx]))
  obtain ⟨a2, rfl, rfl, rfl, wf2⟩ := open_int Tryd.underlying3 (hval 2 3 u2 rfl rfl) t2
  obtain ⟨ht, hs⟩ := tab_of (by kernel_rfl) hX 0 rfl (by kernel_rfl)
  exact exactShareSecret_walk b0 u1 l1 a2 W sn1 ht hs

end Go.Proofs.YtgbhcjfnkjhkiaaDoor
