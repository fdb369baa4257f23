/- The walk of FnExactEncodeLocal. -/
import Derived.Test.YtlkoafnlklhaeaaDoorRows
import Derived.Test.YtlkoafnlklhaeaaDoorBd00
import Derived.Test.YtlkoafnlklhaeaaDoorBd01
import Derived.Test.YtlkoafnlklhaeaaDoorBd13
import Derived.Test.YtlkoafnlklhaeaaDoorBd14
import Derived.Test.YtlkoafnlklhaeaaDoorBd12
set_option linter.unusedSimpArgs false
set_option linter.unusedVariables false
namespace Go.Proofs.YtlkoafnlklhaeaaDoor
open Go.ChangeShapes Go.WideShapes Go.ChangeAt Go.RowKit G294

set_option maxRecDepth 100000 in
set_option maxHeartbeats 4000000 in
theorem exactEncodeLocal_walk (g e q : Int) (v1 : Value) (l : List (List UInt8)) (w : World) (hv1 : Seen w v1 (strs l)) (hmx1 : ∀ s ∈ l, s.length ≤ maxLen) (ht : Tab w) (h0 : 1 < w.heap.size) :
    Calls Tryd.prog 9 #[.agg #[.int .i64 g, .int .i64 e, .int .i64 q], v1] w fun e w' => e = .returned (.bool true) ∧ Below w.heap.size w w' := by
  obtain ⟨A1, cc1, hvv1⟩ := hv1.len
  rw [strs_length] at hvv1
  have hbb1 : (encLOk g e q l != encLOk g e q l) = false := by simp
  have HVV1 := Lib.hid hvv1
  rw [hvv1] at hv1 ⊢
  clear hvv1
  have HV1 := Lib.hid hv1
  clear hv1
  obtain ⟨z1, hz1⟩ : ∃ zz, zz = (l).length + sizM (l) := ⟨_, rfl⟩
  have HZ1 := Lib.hid hz1
  have hnz1 : l.length ≤ z1 := by omega
  clear hz1
  obtain ⟨n1, hn1⟩ : ∃ zz, zz = l.length := ⟨_, rfl⟩
  have HN1 := Lib.hid hn1
  rw [← hn1] at HV1 hnz1 ⊢
  clear hn1
  have hB := Below.refl w.heap.size w
  have a1 := turn_alloc w (.cells #[.int .i64 g, .int .i64 e, .int .i64 q] 67)
  have z1a := World.size_alloc w (.cells #[.int .i64 g, .int .i64 e, .int .i64 q] 67)
  replace hB := a1.base hB (by omega) (by omega)
  have cL00 := alloc_tri0 w (.int .i64 g) (.int .i64 e) (.int .i64 q) 67
  have cL01 := alloc_tri1 w (.int .i64 g) (.int .i64 e) (.int .i64 q) 67
  have cL02 := alloc_tri2 w (.int .i64 g) (.int .i64 e) (.int .i64 q) 67
  have lL0 := alloc_ltT w (.cells #[.int .i64 g, .int .i64 e, .int .i64 q] 67)
  go_enter Tryd.func9, Tryd.ntmps9
  by_cases hbz1 : 1048576 < z1
  · go_wp2_with fail
    refine (szStringS_no _ l (1048576) _ (HV1.out.below hB) hmx1 (by rw [← HZ1.out]; omega) (by omega)).mono ?_
    rintro e w1 ⟨rfl, k1⟩
    have s1 := k1.size
    replace hB := k1.base hB (by omega) (by omega)
    replace cL00 := cell_keepT cL00 lL0 k1 (by omega)
    replace cL01 := cell_keepT cL01 lL0 k1 (by omega)
    replace cL02 := cell_keepT cL02 lL0 k1 (by omega)
    replace lL0 := Nat.lt_of_lt_of_le lL0 (k1).size
    go_wp2_with fail
    go_ret
    exact ⟨rfl, hB⟩
  go_wp2_with fail
  refine (szStringS_yes _ l (1048576) _ (HV1.out.below hB) hmx1 (by rw [← HZ1.out]; omega) (by omega)).mono ?_
  rintro e w1 ⟨he, k1⟩
  have s1 := k1.size
  replace hB := k1.base hB (by omega) (by omega)
  replace cL00 := cell_keepT cL00 lL0 k1 (by omega)
  replace cL01 := cell_keepT cL01 lL0 k1 (by omega)
  replace cL02 := cell_keepT cL02 lL0 k1 (by omega)
  replace lL0 := Nat.lt_of_lt_of_le lL0 (k1).size
  rw [← HZ1.out] at he
  obtain ⟨left1, hleft1⟩ : ∃ zz : Nat, zz = 1048576 - z1 := ⟨_, rfl⟩
  have HL1 := Lib.hid hleft1
  rw [← hleft1] at he
  have hlb1 : left1 ≤ 1048576 := by omega
  clear hleft1
  subst he
  have hln1 : ¬ (left1 : Int) < 0 := by omega
  go_wp2_with fail
  refine (toLocal_any g e q _).mono ?_
  rintro e w2 ⟨rfl, k2⟩
  have s2 := k2.size
  replace hB := k2.base hB (by omega) (by omega)
  replace cL00 := cell_keepT cL00 lL0 k2 (by omega)
  replace cL01 := cell_keepT cL01 lL0 k2 (by omega)
  replace cL02 := cell_keepT cL02 lL0 k2 (by omega)
  replace lL0 := Nat.lt_of_lt_of_le lL0 (k2).size
  go_wp2_with fail
  refine (toStringS_own _ l _ (HV1.out.below hB) (by rw [← HN1.out]; omega)).mono ?_
  rintro e w3 ⟨ta1, rfl, ota1, k3⟩
  have s3 := k3.size
  replace hB := k3.base hB (by omega) (by omega)
  replace cL00 := cell_keepT cL00 lL0 k3 (by omega)
  replace cL01 := cell_keepT cL01 lL0 k3 (by omega)
  replace cL02 := cell_keepT cL02 lL0 k3 (by omega)
  replace lL0 := Nat.lt_of_lt_of_le lL0 (k3).size
  go_wp2_with fail
  refine (sEncodeLocal_own g e q _ l _ ota1.seen).mono ?_
  rintro e w4 ⟨s0, rfl, os0, k4⟩
  have s4 := k4.size
  replace hB := k4.base hB (by omega) (by omega)
  replace ota1 := ota1.keep k4 (by omega)
  replace cL00 := cell_keepT cL00 lL0 k4 (by omega)
  replace cL01 := cell_keepT cL01 lL0 k4 (by omega)
  replace cL02 := cell_keepT cL02 lL0 k4 (by omega)
  replace lL0 := Nat.lt_of_lt_of_le lL0 (k4).size
  go_wp2_with fail
  refine (toStringS_own _ l _ (HV1.out.below hB) (by rw [← HN1.out]; omega)).mono ?_
  rintro e w5 ⟨x1, rfl, ox1, k5⟩
  have s5 := k5.size
  replace hB := k5.base hB (by omega) (by omega)
  replace os0 := os0.keep k5 (by omega)
  replace cL00 := cell_keepT cL00 lL0 k5 (by omega)
  replace cL01 := cell_keepT cL01 lL0 k5 (by omega)
  replace cL02 := cell_keepT cL02 lL0 k5 (by omega)
  replace lL0 := Nat.lt_of_lt_of_le lL0 (k5).size
  go_wp2_with fail
  refine (toLocal_any g e q _).mono ?_
  rintro e w6 ⟨rfl, k6⟩
  have s6 := k6.size
  replace hB := k6.base hB (by omega) (by omega)
  replace os0 := os0.keep k6 (by omega)
  replace ox1 := ox1.keep k6 (by omega)
  replace cL00 := cell_keepT cL00 lL0 k6 (by omega)
  replace cL01 := cell_keepT cL01 lL0 k6 (by omega)
  replace cL02 := cell_keepT cL02 lL0 k6 (by omega)
  replace lL0 := Nat.lt_of_lt_of_le lL0 (k6).size
  go_wp2_with fail
  refine (encodeLocal_own g e q _ l _ ox1.seen (ht.below hB h0) (by have := hB.size; omega)).mono ?_
  rintro e w7 ⟨g0, rfl, og0, k7⟩
  have s7 := k7.size
  replace hB := k7.base hB (by omega) (by omega)
  replace os0 := os0.keep k7 (by omega)
  replace ox1 := ox1.keep k7 (by omega)
  replace cL00 := cell_keepT cL00 lL0 k7 (by omega)
  replace cL01 := cell_keepT cL01 lL0 k7 (by omega)
  replace cL02 := cell_keepT cL02 lL0 k7 (by omega)
  replace lL0 := Nat.lt_of_lt_of_le lL0 (k7).size
  go_wp2_with fail
  refine (eqShardS_same _ _ (encLR g e q l) _ og0.seen os0.seen).mono ?_
  rintro e w8 ⟨rfl, k8⟩
  have s8 := k8.size
  replace hB := k8.base hB (by omega) (by omega)
  replace os0 := os0.keep k8 (by omega)
  replace ox1 := ox1.keep k8 (by omega)
  replace og0 := og0.keep k8 (by omega)
  replace cL00 := cell_keepT cL00 lL0 k8 (by omega)
  replace cL01 := cell_keepT cL01 lL0 k8 (by omega)
  replace cL02 := cell_keepT cL02 lL0 k8 (by omega)
  replace lL0 := Nat.lt_of_lt_of_le lL0 (k8).size
  go_wp2_with fail
  refine (toStringS_own _ l _ (HV1.out.below hB) (by rw [← HN1.out]; omega)).mono ?_
  rintro e w9 ⟨tb1, rfl, otb1, k9⟩
  have s9 := k9.size
  replace hB := k9.base hB (by omega) (by omega)
  replace os0 := os0.keep k9 (by omega)
  replace ox1 := ox1.keep k9 (by omega)
  replace og0 := og0.keep k9 (by omega)
  replace cL00 := cell_keepT cL00 lL0 k9 (by omega)
  replace cL01 := cell_keepT cL01 lL0 k9 (by omega)
  replace cL02 := cell_keepT cL02 lL0 k9 (by omega)
  replace lL0 := Nat.lt_of_lt_of_le lL0 (k9).size
  go_wp2_with fail
  refine (eqStringS_same _ _ l _ ox1.seen otb1.seen).mono ?_
  rintro e w10 ⟨rfl, k10⟩
  have s10 := k10.size
  replace hB := k10.base hB (by omega) (by omega)
  replace os0 := os0.keep k10 (by omega)
  replace ox1 := ox1.keep k10 (by omega)
  replace og0 := og0.keep k10 (by omega)
  replace otb1 := otb1.keep k10 (by omega)
  replace cL00 := cell_keepT cL00 lL0 k10 (by omega)
  replace cL01 := cell_keepT cL01 lL0 k10 (by omega)
  replace cL02 := cell_keepT cL02 lL0 k10 (by omega)
  replace lL0 := Nat.lt_of_lt_of_le lL0 (k10).size
  obtain ⟨m1, hm1⟩ : ∃ zz : Nat, zz = 1 + (l).length := ⟨_, rfl⟩
  have HM1 := Lib.hid hm1
  clear hm1
  have hmb1 : m1 ≤ 10000000 := by rw [HM1.out, ← HN1.out]; omega
  go_wp2_with fail
  refine (markStringS_own _ l 1 _ _ _ ox1 (by omega) (by rw [← HM1.out]; omega)).mono ?_
  rintro e w11 ⟨he, ox1, k11⟩
  have s11 := k11.size
  replace hB := k11.base hB (by omega) (by omega)
  replace os0 := os0.keep k11 (by omega)
  replace og0 := og0.keep k11 (by omega)
  replace cL00 := cell_keepT cL00 lL0 k11 (by omega)
  replace cL01 := cell_keepT cL01 lL0 k11 (by omega)
  replace cL02 := cell_keepT cL02 lL0 k11 (by omega)
  replace lL0 := Nat.lt_of_lt_of_le lL0 (k11).size
  rw [← HM1.out] at he
  subst he
  have hk0 : ¬ (m1 : Int) < 0 := by omega
  go_wp2_with fail
  refine (eqShardS_same _ _ (encLR g e q l) _ og0.seen os0.seen).mono ?_
  rintro e w12 ⟨rfl, k12⟩
  have s12 := k12.size
  replace hB := k12.base hB (by omega) (by omega)
  replace os0 := os0.keep k12 (by omega)
  replace og0 := og0.keep k12 (by omega)
  replace cL00 := cell_keepT cL00 lL0 k12 (by omega)
  replace cL01 := cell_keepT cL01 lL0 k12 (by omega)
  replace cL02 := cell_keepT cL02 lL0 k12 (by omega)
  replace lL0 := Nat.lt_of_lt_of_le lL0 (k12).size
  obtain ⟨r0, hr0⟩ : ∃ zz : Nat, zz = 1 + (encLR g e q l).length * 2 := ⟨_, rfl⟩
  have HR0 := Lib.hid hr0
  clear hr0
  have hrb0 : r0 ≤ 100000000 := by have := encLR_len g e q l; rw [HR0.out]; omega
  go_wp2_with fail
  refine (markShardS_own _ (encLR g e q l) 1 _ _ _ og0 (by omega) (by rw [← HR0.out]; omega)).mono ?_
  rintro e w13 ⟨he, og0, k13⟩
  have s13 := k13.size
  replace hB := k13.base hB (by omega) (by omega)
  replace os0 := os0.keep k13 (by omega)
  replace cL00 := cell_keepT cL00 lL0 k13 (by omega)
  replace cL01 := cell_keepT cL01 lL0 k13 (by omega)
  replace cL02 := cell_keepT cL02 lL0 k13 (by omega)
  replace lL0 := Nat.lt_of_lt_of_le lL0 (k13).size
  rw [← HR0.out] at he
  subst he
  go_wp2_with fail
  refine (heldShardS_own _ 1 ((encLR g e q l).length) _ og0.seen (by omega) (by rw [← HR0.out]; omega)).mono ?_
  rintro e w14 ⟨he, k14⟩
  have s14 := k14.size
  replace hB := k14.base hB (by omega) (by omega)
  replace os0 := os0.keep k14 (by omega)
  replace og0 := og0.keep k14 (by omega)
  replace cL00 := cell_keepT cL00 lL0 k14 (by omega)
  replace cL01 := cell_keepT cL01 lL0 k14 (by omega)
  replace cL02 := cell_keepT cL02 lL0 k14 (by omega)
  replace lL0 := Nat.lt_of_lt_of_le lL0 (k14).size
  rw [← HR0.out] at he
  subst he
  have hq0 : ¬ (r0 : Int) < 0 := by omega
  have hqq : ((r0 : Int) != (r0 : Int)) = false := by simp
  go_wp2_with fail
  refine (toLocal_any g e q _).mono ?_
  rintro e w15 ⟨rfl, k15⟩
  have s15 := k15.size
  replace hB := k15.base hB (by omega) (by omega)
  replace os0 := os0.keep k15 (by omega)
  replace og0 := og0.keep k15 (by omega)
  replace cL00 := cell_keepT cL00 lL0 k15 (by omega)
  replace cL01 := cell_keepT cL01 lL0 k15 (by omega)
  replace cL02 := cell_keepT cL02 lL0 k15 (by omega)
  replace lL0 := Nat.lt_of_lt_of_le lL0 (k15).size
  go_wp2_with fail
  refine (toStringS_own _ l _ (HV1.out.below hB) (by rw [← HN1.out]; omega)).mono ?_
  rintro e w16 ⟨tc1, rfl, otc1, k16⟩
  have s16 := k16.size
  replace hB := k16.base hB (by omega) (by omega)
  replace os0 := os0.keep k16 (by omega)
  replace og0 := og0.keep k16 (by omega)
  replace cL00 := cell_keepT cL00 lL0 k16 (by omega)
  replace cL01 := cell_keepT cL01 lL0 k16 (by omega)
  replace cL02 := cell_keepT cL02 lL0 k16 (by omega)
  replace lL0 := Nat.lt_of_lt_of_le lL0 (k16).size
  go_wp2_with fail
  refine (encodeLocal_own g e q _ l _ otc1.seen (ht.below hB h0) (by have := hB.size; omega)).mono ?_
  rintro e w17 ⟨h0, rfl, oh0, k17⟩
  have s17 := k17.size
  replace hB := k17.base hB (by omega) (by omega)
  replace os0 := os0.keep k17 (by omega)
  replace og0 := og0.keep k17 (by omega)
  replace otc1 := otc1.keep k17 (by omega)
  replace cL00 := cell_keepT cL00 lL0 k17 (by omega)
  replace cL01 := cell_keepT cL01 lL0 k17 (by omega)
  replace cL02 := cell_keepT cL02 lL0 k17 (by omega)
  replace lL0 := Nat.lt_of_lt_of_le lL0 (k17).size
  go_wp2_with fail
  refine (eqShardS_same _ _ (encLR g e q l) _ oh0.seen os0.seen).mono ?_
  rintro e w18 ⟨rfl, k18⟩
  have s18 := k18.size
  replace hB := k18.base hB (by omega) (by omega)
  replace os0 := os0.keep k18 (by omega)
  replace og0 := og0.keep k18 (by omega)
  replace oh0 := oh0.keep k18 (by omega)
  replace cL00 := cell_keepT cL00 lL0 k18 (by omega)
  replace cL01 := cell_keepT cL01 lL0 k18 (by omega)
  replace cL02 := cell_keepT cL02 lL0 k18 (by omega)
  replace lL0 := Nat.lt_of_lt_of_le lL0 (k18).size
  go_wp2_with fail
  refine (heldShardS_own _ 1 ((encLR g e q l).length) _ og0.seen (by omega) (by rw [← HR0.out]; omega)).mono ?_
  rintro e w19 ⟨he, k19⟩
  have s19 := k19.size
  replace hB := k19.base hB (by omega) (by omega)
  replace os0 := os0.keep k19 (by omega)
  replace og0 := og0.keep k19 (by omega)
  replace oh0 := oh0.keep k19 (by omega)
  replace cL00 := cell_keepT cL00 lL0 k19 (by omega)
  replace cL01 := cell_keepT cL01 lL0 k19 (by omega)
  replace cL02 := cell_keepT cL02 lL0 k19 (by omega)
  replace lL0 := Nat.lt_of_lt_of_le lL0 (k19).size
  rw [← HR0.out] at he
  subst he
  have hq0 : ¬ (r0 : Int) < 0 := by omega
  have hqq : ((r0 : Int) != (r0 : Int)) = false := by simp
  go_wp2_with fail
  go_ret
  exact ⟨rfl, hB⟩

set_option maxRecDepth 100000 in
theorem walk_FnExactEncodeLocal : G294.LawWalk Tryd.prog 9 Tryd.f9 Rows.fnExactEncodeLocalSpec.vars false (fun W => laidMetH Tryd.prog Rows.fnExactEncodeLocalRow.laid W) := by
  intro H enc W base args ds gs before hval hW hX
  have hlt0 : ∀ p ∈ before, p.block < W.heap.size := fun p hp => hW.lt p hp
  obtain ⟨p, q, hA, hV, rfl, hfz, hnd⟩ := hW
  rw [Tryd.params9] at hA hval
  obtain ⟨u0, vs0, d0, ds0, p0, q0, hargs, rfl, rfl, t0, r0⟩ := trodAll_cons hA
  obtain ⟨u1, vs1, d1, ds1, p1, q1, rfl, rfl, rfl, t1, r1⟩ := trodAll_cons r0
  obtain ⟨rfl, rfl, rfl⟩ := trodAll_nil r1
  obtain rfl : args = #[u0, u1] := by cases args; simp_all
  obtain ⟨g0, e0, q0, rfl⟩ := open_three Tryd.underlying67 (by kernel_rfl) (by kernel_rfl) Tryd.underlying3 Tryd.underlying3 Tryd.underlying3 (hval 0 67 u0 rfl rfl) t0
  obtain ⟨l1, sn1, mx1⟩ := seen_strs Tryd.underlying78 Tryd.underlying9 (by kernel_rfl) (hval 1 78 u1 rfl rfl) t1 (fun x hx => hlt0 x (by simp [hx]))
  obtain ⟨ht, hs⟩ := tab_of (by kernel_rfl) hX 0 rfl (by kernel_rfl)
  exact exactEncodeLocal_walk g0 e0 q0 u1 l1 W sn1 mx1 ht hs

end Go.Proofs.YtlkoafnlklhaeaaDoor
