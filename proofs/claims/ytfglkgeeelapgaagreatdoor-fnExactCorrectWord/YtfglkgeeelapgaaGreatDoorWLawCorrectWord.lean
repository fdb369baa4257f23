/- The walk of FnExactCorrectWord. -/
import Derived.Test.YtfglkgeeelapgaaGreatDoorRows
import Derived.Test.YtfglkgeeelapgaaGreatDoorBd14
import Derived.Test.YtfglkgeeelapgaaGreatDoorBd16
set_option linter.unusedSimpArgs false
set_option linter.unusedVariables false
namespace Go.Proofs.YtfglkgeeelapgaaGreatDoor
open Go.ChangeShapes Go.WideShapes Go.ChangeAt Go.RowKit G294

set_option maxRecDepth 100000 in
set_option maxHeartbeats 4000000 in
theorem exactCorrectWord_walk (v0 : Value) (l : List UInt8) (t : Int) (w : World) (hv0 : Seen w v0 (bys l)) (ht : Tab w) (h0 : 3 < w.heap.size) (sA0 : Addr) (sC0 : w.cell? ⟨1, 0, none⟩ = some (.iface 160 (.pointer (some sA0)))) (sL0 : 1 < w.heap.size) (gC : w.cell? ⟨2, 0, none⟩ = some (.iface 128 (.agg #[.pointer (some ⟨4, 52, none⟩)]))) (gL : 2 < w.heap.size) :
    Calls Tryz.prog 5 #[v0, .int .i64 t] w fun e w' => e = .returned (.bool true) ∧ Below w.heap.size w w' := by
  obtain ⟨A0, cc0, hvv0⟩ := hv0.len
  rw [bys_length] at hvv0
  have hbb1 : ((corN l t : Int) != (corN l t : Int)) = false := by simp
  have hbb2 : (corOk l t != corOk l t) = false := by simp
  have HVV0 := Lib.hid hvv0
  rw [hvv0] at hv0 ⊢
  clear hvv0
  have HV0 := Lib.hid hv0
  clear hv0
  obtain ⟨n0, hn0⟩ : ∃ zz, zz = l.length := ⟨_, rfl⟩
  have HN0 := Lib.hid hn0
  rw [← hn0] at HV0 ⊢
  clear hn0
  have hB := Below.refl w.heap.size w
  by_cases hbig0 : 1048576 < n0
  · go_enter Tryz.func5, Tryz.ntmps5
    go_wp2_with fail
    go_ret
    exact ⟨rfl, hB⟩
  go_enter Tryz.func5, Tryz.ntmps5
  go_wp2_with fail
  refine (toByteS_own _ l _ (HV0.out.below hB) (by rw [← HN0.out]; omega)).mono ?_
  rintro e w1 ⟨ta0, rfl, ota0, k1⟩
  have s1 := k1.size
  replace hB := k1.base hB (by omega) (by omega)
  go_wp2_with fail
  refine (sCorrectWord_own _ l t _ ota0.seen).mono ?_
  rintro e w2 ⟨s0, rfl, os0, k2⟩
  have s2 := k2.size
  replace hB := k2.base hB (by omega) (by omega)
  replace ota0 := ota0.keep k2 (by omega)
  go_wp2_with fail
  refine (toByteS_own _ l _ (HV0.out.below hB) (by rw [← HN0.out]; omega)).mono ?_
  rintro e w3 ⟨x0, rfl, ox0, k3⟩
  have s3 := k3.size
  replace hB := k3.base hB (by omega) (by omega)
  replace os0 := os0.keep k3 (by omega)
  go_wp2_with fail
  refine (correctWord_own _ l t sA0 _ ox0.seen (ht.below hB h0) (by have := hB.size; omega) ((hB.cell (p := ⟨1, 0, none⟩) sL0).trans sC0) (by have := hB.size; omega) ((hB.cell (p := ⟨2, 0, none⟩) gL).trans gC) (by have := hB.size; omega)).mono ?_
  rintro e w4 ⟨g0, rfl, og0, k4⟩
  have s4 := k4.size
  replace hB := k4.base hB (by omega) (by omega)
  replace os0 := os0.keep k4 (by omega)
  replace ox0 := ox0.keep k4 (by omega)
  go_wp2_with fail
  refine (eqByteS_same _ _ (corR l t) _ og0.seen os0.seen).mono ?_
  rintro e w5 ⟨rfl, k5⟩
  have s5 := k5.size
  replace hB := k5.base hB (by omega) (by omega)
  replace os0 := os0.keep k5 (by omega)
  replace ox0 := ox0.keep k5 (by omega)
  replace og0 := og0.keep k5 (by omega)
  go_wp2_with fail
  refine (toByteS_own _ l _ (HV0.out.below hB) (by rw [← HN0.out]; omega)).mono ?_
  rintro e w6 ⟨tb0, rfl, otb0, k6⟩
  have s6 := k6.size
  replace hB := k6.base hB (by omega) (by omega)
  replace os0 := os0.keep k6 (by omega)
  replace ox0 := ox0.keep k6 (by omega)
  replace og0 := og0.keep k6 (by omega)
  go_wp2_with fail
  refine (eqByteS_same _ _ l _ ox0.seen otb0.seen).mono ?_
  rintro e w7 ⟨rfl, k7⟩
  have s7 := k7.size
  replace hB := k7.base hB (by omega) (by omega)
  replace os0 := os0.keep k7 (by omega)
  replace ox0 := ox0.keep k7 (by omega)
  replace og0 := og0.keep k7 (by omega)
  replace otb0 := otb0.keep k7 (by omega)
  obtain ⟨m0, hm0⟩ : ∃ zz : Nat, zz = 1 + (l).length := ⟨_, rfl⟩
  have HM0 := Lib.hid hm0
  clear hm0
  have hmb0 : m0 ≤ 10000000 := by rw [HM0.out, ← HN0.out]; omega
  go_wp2_with fail
  refine (markByteS_own _ l 1 _ _ _ ox0 (by rw [← HM0.out]; omega)).mono ?_
  rintro e w8 ⟨he, ox0, k8⟩
  have s8 := k8.size
  replace hB := k8.base hB (by omega) (by omega)
  replace os0 := os0.keep k8 (by omega)
  replace og0 := og0.keep k8 (by omega)
  rw [← HM0.out] at he
  subst he
  have hk0 : ¬ (m0 : Int) < 0 := by omega
  go_wp2_with fail
  refine (eqByteS_same _ _ (corR l t) _ og0.seen os0.seen).mono ?_
  rintro e w9 ⟨rfl, k9⟩
  have s9 := k9.size
  replace hB := k9.base hB (by omega) (by omega)
  replace os0 := os0.keep k9 (by omega)
  replace og0 := og0.keep k9 (by omega)
  obtain ⟨r0, hr0⟩ : ∃ zz : Nat, zz = 1 + (corR l t).length := ⟨_, rfl⟩
  have HR0 := Lib.hid hr0
  clear hr0
  have hrb0 : r0 ≤ 100000000 := by have := corR_len l t; rw [HR0.out]; omega
  go_wp2_with fail
  refine (markByteS_own _ (corR l t) 1 _ _ _ og0 (by rw [← HR0.out]; omega)).mono ?_
  rintro e w10 ⟨he, og0, k10⟩
  have s10 := k10.size
  replace hB := k10.base hB (by omega) (by omega)
  replace os0 := os0.keep k10 (by omega)
  rw [← HR0.out] at he
  subst he
  go_wp2_with fail
  refine (heldByteS_own _ 1 (corR l t).length _ og0.seen (by rw [← HR0.out]; omega)).mono ?_
  rintro e w11 ⟨he, k11⟩
  have s11 := k11.size
  replace hB := k11.base hB (by omega) (by omega)
  replace os0 := os0.keep k11 (by omega)
  replace og0 := og0.keep k11 (by omega)
  rw [← HR0.out] at he
  subst he
  have hq0 : ¬ (r0 : Int) < 0 := by omega
  have hqq : ((r0 : Int) != (r0 : Int)) = false := by simp
  go_wp2_with fail
  refine (toByteS_own _ l _ (HV0.out.below hB) (by rw [← HN0.out]; omega)).mono ?_
  rintro e w12 ⟨tc0, rfl, otc0, k12⟩
  have s12 := k12.size
  replace hB := k12.base hB (by omega) (by omega)
  replace os0 := os0.keep k12 (by omega)
  replace og0 := og0.keep k12 (by omega)
  go_wp2_with fail
  refine (correctWord_own _ l t sA0 _ otc0.seen (ht.below hB h0) (by have := hB.size; omega) ((hB.cell (p := ⟨1, 0, none⟩) sL0).trans sC0) (by have := hB.size; omega) ((hB.cell (p := ⟨2, 0, none⟩) gL).trans gC) (by have := hB.size; omega)).mono ?_
  rintro e w13 ⟨h0, rfl, oh0, k13⟩
  have s13 := k13.size
  replace hB := k13.base hB (by omega) (by omega)
  replace os0 := os0.keep k13 (by omega)
  replace og0 := og0.keep k13 (by omega)
  replace otc0 := otc0.keep k13 (by omega)
  go_wp2_with fail
  refine (eqByteS_same _ _ (corR l t) _ oh0.seen os0.seen).mono ?_
  rintro e w14 ⟨rfl, k14⟩
  have s14 := k14.size
  replace hB := k14.base hB (by omega) (by omega)
  replace os0 := os0.keep k14 (by omega)
  replace og0 := og0.keep k14 (by omega)
  replace oh0 := oh0.keep k14 (by omega)
  go_wp2_with fail
  refine (heldByteS_own _ 1 (corR l t).length _ og0.seen (by rw [← HR0.out]; omega)).mono ?_
  rintro e w15 ⟨he, k15⟩
  have s15 := k15.size
  replace hB := k15.base hB (by omega) (by omega)
  replace os0 := os0.keep k15 (by omega)
  replace og0 := og0.keep k15 (by omega)
  replace oh0 := oh0.keep k15 (by omega)
  rw [← HR0.out] at he
  subst he
  have hq0 : ¬ (r0 : Int) < 0 := by omega
  have hqq : ((r0 : Int) != (r0 : Int)) = false := by simp
  go_wp2_with fail
  go_ret
  exact ⟨rfl, hB⟩

set_option maxRecDepth 100000 in
theorem walk_FnExactCorrectWord : G294.LawWalk Tryz.prog 5 Tryz.f5 Rows.fnExactCorrectWordSpec.vars false (fun W => laidMetH Tryz.prog Rows.fnExactCorrectWordRow.laid W) := by
  intro H enc W base args ds gs before hval hW hX
  have hlt0 : ∀ p ∈ before, p.block < W.heap.size := fun p hp => hW.lt p hp
  obtain ⟨p, q, hA, hV, rfl, hfz, hnd⟩ := hW
  rw [Tryz.params5] at hA hval
  obtain ⟨u0, vs0, d0, ds0, p0, q0, hargs, rfl, rfl, t0, r0⟩ := trodAll_cons hA
  obtain ⟨u1, vs1, d1, ds1, p1, q1, rfl, rfl, rfl, t1, r1⟩ := trodAll_cons r0
  obtain ⟨rfl, rfl, rfl⟩ := trodAll_nil r1
  obtain rfl : args = #[u0, u1] := by cases args; simp_all
  obtain ⟨l0, sn0⟩ := seen_bytes Tryz.underlying22 Tryz.underlying5 (by kernel_rfl) (hval 0 22 u0 rfl rfl) t0 (fun x hx => hlt0 x (by simp [hx]))
  obtain ⟨a1, rfl, rfl, rfl, wf1⟩ := open_int Tryz.underlying3 (hval 1 3 u1 rfl rfl) t1
  obtain ⟨ht, hs, sA0, sC0, sL0, gC, gL⟩ := han_cor hX
  exact exactCorrectWord_walk u0 l0 a1 W sn0 ht hs sA0 sC0 sL0 gC gL

end Go.Proofs.YtfglkgeeelapgaaGreatDoor
