/- The walk of FnExactSolveDrops. -/
import Derived.Test.YtbfchebnooanjaaDoorRows
import Derived.Test.YtbfchebnooanjaaDoorBd00
import Derived.Test.YtbfchebnooanjaaDoorBd01
import Derived.Test.YtbfchebnooanjaaDoorBd10
import Derived.Test.YtbfchebnooanjaaDoorBd18
import Derived.Test.YtbfchebnooanjaaDoorBd17
set_option linter.unusedSimpArgs false
set_option linter.unusedVariables false
namespace Go.Proofs.YtbfchebnooanjaaDoor
open Go.ChangeShapes Go.WideShapes Go.ChangeAt Go.RowKit G294

theorem slvR_len (l : List Sh) (b : Int) : (slvR l b).length ≤ 12 := by
  unfold slvR; split
  · rename_i h
    simp only [slvOk, Bool.and_eq_true, decide_eq_true_eq] at h
    have h2 := bcOk_b h.2.1
    unfold dbR; split
    · rw [rowsT_length, h.2.2]; omega
    · simp
  · simp

set_option maxRecDepth 100000 in
set_option maxHeartbeats 4000000 in
theorem exactSolveDrops_walk (v0 : Value) (l : List Sh) (b : Int) (w : World) (hv0 : SeenH w v0 l) (hmx0 : ∀ s ∈ l, s.2.length ≤ maxLen) (ht : Tab w) (h0 : 0 < w.heap.size) :
    Calls Tryd.prog 4 #[v0, .int .i64 b] w fun e w' => e = .returned (.bool true) ∧ Below w.heap.size w w' := by
  obtain ⟨A0, cc0, hvv0⟩ := hv0.len
  have hbb1 : (slvOk l b != slvOk l b) = false := by simp
  have HVV0 := Lib.hid hvv0
  rw [hvv0] at hv0 ⊢
  clear hvv0
  have HV0 := Lib.hid hv0
  clear hv0
  obtain ⟨z0, hz0⟩ : ∃ zz, zz = (l).length + sizH (l) := ⟨_, rfl⟩
  have HZ0 := Lib.hid hz0
  have hnz0 : l.length ≤ z0 := by omega
  clear hz0
  obtain ⟨n0, hn0⟩ : ∃ zz, zz = l.length := ⟨_, rfl⟩
  have HN0 := Lib.hid hn0
  rw [← hn0] at HV0 hnz0 ⊢
  clear hn0
  have hB := Below.refl w.heap.size w
  go_enter Tryd.func4, Tryd.ntmps4
  by_cases hbz0 : 1048576 < z0
  · go_wp2_with fail
    refine (szDropS_no _ l (1048576) _ (HV0.out.below hB) hmx0 (by rw [← HZ0.out]; omega) (by omega)).mono ?_
    rintro e w1 ⟨rfl, k1⟩
    have s1 := k1.size
    replace hB := k1.base hB (by omega) (by omega)
    go_wp2_with fail
    go_ret
    exact ⟨rfl, hB⟩
  go_wp2_with fail
  refine (szDropS_yes _ l (1048576) _ (HV0.out.below hB) hmx0 (by rw [← HZ0.out]; omega) (by omega)).mono ?_
  rintro e w1 ⟨he, k1⟩
  have s1 := k1.size
  replace hB := k1.base hB (by omega) (by omega)
  rw [← HZ0.out] at he
  obtain ⟨left0, hleft0⟩ : ∃ zz : Nat, zz = 1048576 - z0 := ⟨_, rfl⟩
  have HL0 := Lib.hid hleft0
  rw [← hleft0] at he
  have hlb0 : left0 ≤ 1048576 := by omega
  clear hleft0
  subst he
  have hln0 : ¬ (left0 : Int) < 0 := by omega
  go_wp2_with fail
  refine (toDropS_own _ l _ (HV0.out.below hB) (by rw [← HN0.out]; omega)).mono ?_
  rintro e w2 ⟨ta0, rfl, ota0, k2⟩
  have s2 := k2.size
  replace hB := k2.base hB (by omega) (by omega)
  go_wp2_with fail
  refine (sSolveDrops_own _ l b _ ota0.seen).mono ?_
  rintro e w3 ⟨s0, rfl, os0, k3⟩
  have s3 := k3.size
  replace hB := k3.base hB (by omega) (by omega)
  replace ota0 := ota0.keep k3 (by omega)
  go_wp2_with fail
  refine (toDropS_own _ l _ (HV0.out.below hB) (by rw [← HN0.out]; omega)).mono ?_
  rintro e w4 ⟨x0, rfl, ox0, k4⟩
  have s4 := k4.size
  replace hB := k4.base hB (by omega) (by omega)
  replace os0 := os0.keep k4 (by omega)
  go_wp2_with fail
  refine (solveDrops_own _ l b _ ox0.seen (ht.below hB h0) (by have := hB.size; omega)).mono ?_
  rintro e w5 ⟨g0, rfl, og0, k5⟩
  have s5 := k5.size
  replace hB := k5.base hB (by omega) (by omega)
  replace os0 := os0.keep k5 (by omega)
  replace ox0 := ox0.keep k5 (by omega)
  go_wp2_with fail
  refine (eqStringS_same _ _ (slvR l b) _ og0.seen os0.seen).mono ?_
  rintro e w6 ⟨rfl, k6⟩
  have s6 := k6.size
  replace hB := k6.base hB (by omega) (by omega)
  replace os0 := os0.keep k6 (by omega)
  replace ox0 := ox0.keep k6 (by omega)
  replace og0 := og0.keep k6 (by omega)
  go_wp2_with fail
  refine (toDropS_own _ l _ (HV0.out.below hB) (by rw [← HN0.out]; omega)).mono ?_
  rintro e w7 ⟨tb0, rfl, otb0, k7⟩
  have s7 := k7.size
  replace hB := k7.base hB (by omega) (by omega)
  replace os0 := os0.keep k7 (by omega)
  replace ox0 := ox0.keep k7 (by omega)
  replace og0 := og0.keep k7 (by omega)
  go_wp2_with fail
  refine (eqDropS_same _ _ l _ ox0.seen otb0.seen).mono ?_
  rintro e w8 ⟨rfl, k8⟩
  have s8 := k8.size
  replace hB := k8.base hB (by omega) (by omega)
  replace os0 := os0.keep k8 (by omega)
  replace ox0 := ox0.keep k8 (by omega)
  replace og0 := og0.keep k8 (by omega)
  replace otb0 := otb0.keep k8 (by omega)
  obtain ⟨m0, hm0⟩ : ∃ zz : Nat, zz = 1 + (l).length * 2 := ⟨_, rfl⟩
  have HM0 := Lib.hid hm0
  clear hm0
  have hmb0 : m0 ≤ 10000000 := by rw [HM0.out, ← HN0.out]; omega
  go_wp2_with fail
  refine (markDropS_own _ l 1 _ _ _ ox0 (by omega) (by rw [← HM0.out]; omega)).mono ?_
  rintro e w9 ⟨he, ox0, k9⟩
  have s9 := k9.size
  replace hB := k9.base hB (by omega) (by omega)
  replace os0 := os0.keep k9 (by omega)
  replace og0 := og0.keep k9 (by omega)
  rw [← HM0.out] at he
  subst he
  have hk0 : ¬ (m0 : Int) < 0 := by omega
  go_wp2_with fail
  refine (eqStringS_same _ _ (slvR l b) _ og0.seen os0.seen).mono ?_
  rintro e w10 ⟨rfl, k10⟩
  have s10 := k10.size
  replace hB := k10.base hB (by omega) (by omega)
  replace os0 := os0.keep k10 (by omega)
  replace og0 := og0.keep k10 (by omega)
  obtain ⟨r0, hr0⟩ : ∃ zz : Nat, zz = 1 + (slvR l b).length := ⟨_, rfl⟩
  have HR0 := Lib.hid hr0
  clear hr0
  have hrb0 : r0 ≤ 100000000 := by have := slvR_len l b; rw [HR0.out]; omega
  go_wp2_with fail
  refine (markStringS_own _ (slvR l b) 1 _ _ _ og0 (by omega) (by rw [← HR0.out]; omega)).mono ?_
  rintro e w11 ⟨he, og0, k11⟩
  have s11 := k11.size
  replace hB := k11.base hB (by omega) (by omega)
  replace os0 := os0.keep k11 (by omega)
  rw [← HR0.out] at he
  subst he
  go_wp2_with fail
  refine (heldStringS_own _ 1 (slvR l b).length _ og0.seen (by omega) (by rw [← HR0.out]; omega)).mono ?_
  rintro e w12 ⟨he, k12⟩
  have s12 := k12.size
  replace hB := k12.base hB (by omega) (by omega)
  replace os0 := os0.keep k12 (by omega)
  replace og0 := og0.keep k12 (by omega)
  rw [← HR0.out] at he
  subst he
  have hq0 : ¬ (r0 : Int) < 0 := by omega
  have hqq : ((r0 : Int) != (r0 : Int)) = false := by simp
  go_wp2_with fail
  refine (toDropS_own _ l _ (HV0.out.below hB) (by rw [← HN0.out]; omega)).mono ?_
  rintro e w13 ⟨tc0, rfl, otc0, k13⟩
  have s13 := k13.size
  replace hB := k13.base hB (by omega) (by omega)
  replace os0 := os0.keep k13 (by omega)
  replace og0 := og0.keep k13 (by omega)
  go_wp2_with fail
  refine (solveDrops_own _ l b _ otc0.seen (ht.below hB h0) (by have := hB.size; omega)).mono ?_
  rintro e w14 ⟨h0, rfl, oh0, k14⟩
  have s14 := k14.size
  replace hB := k14.base hB (by omega) (by omega)
  replace os0 := os0.keep k14 (by omega)
  replace og0 := og0.keep k14 (by omega)
  replace otc0 := otc0.keep k14 (by omega)
  go_wp2_with fail
  refine (eqStringS_same _ _ (slvR l b) _ oh0.seen os0.seen).mono ?_
  rintro e w15 ⟨rfl, k15⟩
  have s15 := k15.size
  replace hB := k15.base hB (by omega) (by omega)
  replace os0 := os0.keep k15 (by omega)
  replace og0 := og0.keep k15 (by omega)
  replace oh0 := oh0.keep k15 (by omega)
  go_wp2_with fail
  refine (heldStringS_own _ 1 (slvR l b).length _ og0.seen (by omega) (by rw [← HR0.out]; omega)).mono ?_
  rintro e w16 ⟨he, k16⟩
  have s16 := k16.size
  replace hB := k16.base hB (by omega) (by omega)
  replace os0 := os0.keep k16 (by omega)
  replace og0 := og0.keep k16 (by omega)
  replace oh0 := oh0.keep k16 (by omega)
  rw [← HR0.out] at he
  subst he
  have hq0 : ¬ (r0 : Int) < 0 := by omega
  have hqq : ((r0 : Int) != (r0 : Int)) = false := by simp
  go_wp2_with fail
  go_ret
  exact ⟨rfl, hB⟩

set_option maxRecDepth 100000 in
theorem walk_FnExactSolveDrops : G294.LawWalk Tryd.prog 4 Tryd.f4 Rows.fnExactSolveDropsSpec.vars false (fun W => laidMetH Tryd.prog Rows.fnExactSolveDropsRow.laid W) := by
  intro H enc W base args ds gs before hval hW hX
  have hlt0 : ∀ p ∈ before, p.block < W.heap.size := fun p hp => hW.lt p hp
  obtain ⟨p, q, hA, hV, rfl, hfz, hnd⟩ := hW
  rw [Tryd.params4] at hA hval
  obtain ⟨u0, vs0, d0, ds0, p0, q0, hargs, rfl, rfl, t0, r0⟩ := trodAll_cons hA
  obtain ⟨u1, vs1, d1, ds1, p1, q1, rfl, rfl, rfl, t1, r1⟩ := trodAll_cons r0
  obtain ⟨rfl, rfl, rfl⟩ := trodAll_nil r1
  obtain rfl : args = #[u0, u1] := by cases args; simp_all
  obtain ⟨l0, sn0, mx0⟩ := seen_shs Tryd.underlying42 Tryd.underlying78 (by kernel_rfl) rfl rfl (by kernel_rfl) (by kernel_rfl) Tryd.underlying3 Tryd.underlying9 (hval 0 42 u0 rfl rfl) t0 (fun x hx => hlt0 x (by simp [hx]))
  obtain ⟨a1, rfl, rfl, rfl, wf1⟩ := open_int Tryd.underlying3 (hval 1 3 u1 rfl rfl) t1
  obtain ⟨ht, hs⟩ := tab_of (by kernel_rfl) hX 0 rfl (by kernel_rfl)
  exact exactSolveDrops_walk u0 l0 a1 W sn0 mx0 ht hs

end Go.Proofs.YtbfchebnooanjaaDoor
