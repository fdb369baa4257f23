/- The walk of FnExactTextOf. -/
import Derived.Test.YtdbgkpmdimapdaaRows
import Derived.Test.YtdbgkpmdimapdaaOpenStrs
import Derived.Test.YtdbgkpmdimapdaaOpenRun
import Derived.Test.YtdbgkpmdimapdaaRunWalks
import Derived.Test.YtdbgkpmdimapdaaTxtX
import Derived.Test.YtdbgkpmdimapdaaFrame
set_option linter.unusedSimpArgs false
set_option linter.unusedVariables false
namespace Go.Proofs.Ytdbgkpmdimapdaa
open Go.ChangeShapes Go.WideShapes Go.ChangeAt Go.RowKit G294

set_option maxRecDepth 100000 in
set_option maxHeartbeats 4000000 in
theorem exactTextOf_walk (v0 : Value) (l : List Ru) (w : World) (hv0 : SeenRu w v0 l) :
    Calls Try.prog 10 #[v0] w fun e w' => e = .returned (.bool true) ∧ Below w.heap.size w w' := by
  obtain ⟨A0, cc0, hvv0⟩ := hv0.len
  have hbb0 : ((str (txtR l)).toList == (str (txtR l)).toList) = true := by simp
  have hbb1 : (goodRs l != goodRs l) = false := by simp
  have HVV0 := Lib.hid hvv0
  rw [hvv0] at hv0 ⊢
  clear hvv0
  have HV0 := Lib.hid hv0
  clear hv0
  obtain ⟨z0, hz0⟩ : ∃ zz, zz = (l).length := ⟨_, rfl⟩
  have HZ0 := Lib.hid hz0
  have hnz0 : l.length ≤ z0 := by omega
  clear hz0
  obtain ⟨n0, hn0⟩ : ∃ zz, zz = l.length := ⟨_, rfl⟩
  have HN0 := Lib.hid hn0
  rw [← hn0] at HV0 hnz0 ⊢
  clear hn0
  have hB := Below.refl w.heap.size w
  go_enter Try.func10, Try.ntmps10
  by_cases hbz0 : 1048576 < z0
  · go_wp2_with fail
    refine (szRunS_no _ l (1048576) _ (HV0.out.below hB) (by rw [← HZ0.out]; omega) (by omega)).mono ?_
    rintro e w1 ⟨rfl, k1⟩
    have s1 := k1.size
    replace hB := k1.base hB (by omega) (by omega)
    go_wp2_with fail
    go_ret
    exact ⟨rfl, hB⟩
  go_wp2_with fail
  refine (szRunS_yes _ l (1048576) _ (HV0.out.below hB) (by rw [← HZ0.out]; omega) (by omega)).mono ?_
  rintro e w1 ⟨he, k1⟩
  have s1 := k1.size
  replace hB := k1.base hB (by omega) (by omega)
  rw [← HZ0.out] at he
  obtain ⟨left0, hleft0⟩ : ∃ zz : Nat, zz = 1048576 - z0 := ⟨_, rfl⟩
  have HL0 := Lib.hid hleft0
  rw [← hleft0] at he
  have hlb0 : left0 ≤ 1048576 := by omega
  clear hleft0
  subst he
  have hln0 : ¬ (left0 : Int) < 0 := by omega
  go_wp2_with fail
  refine (toRunS_own _ l _ (HV0.out.below hB) (by rw [← HN0.out]; omega)).mono ?_
  rintro e w2 ⟨ta0, rfl, ota0, k2⟩
  have s2 := k2.size
  replace hB := k2.base hB (by omega) (by omega)
  go_wp2_with fail
  refine (sTextOf_own _ l _ ota0.seen).mono ?_
  rintro e w3 ⟨rfl, k3⟩
  have s3 := k3.size
  replace hB := k3.base hB (by omega) (by omega)
  replace ota0 := ota0.keep k3 (by omega)
  go_wp2_with fail
  refine (toRunS_own _ l _ (HV0.out.below hB) (by rw [← HN0.out]; omega)).mono ?_
  rintro e w4 ⟨x0, rfl, ox0, k4⟩
  have s4 := k4.size
  replace hB := k4.base hB (by omega) (by omega)
  go_wp2_with fail
  refine (textOf_own _ l _ ox0.seen).mono ?_
  rintro e w5 ⟨rfl, k5⟩
  have s5 := k5.size
  replace hB := k5.base hB (by omega) (by omega)
  replace ox0 := ox0.keep k5 (by omega)
  go_wp2_with fail
  refine (toRunS_own _ l _ (HV0.out.below hB) (by rw [← HN0.out]; omega)).mono ?_
  rintro e w6 ⟨tb0, rfl, otb0, k6⟩
  have s6 := k6.size
  replace hB := k6.base hB (by omega) (by omega)
  replace ox0 := ox0.keep k6 (by omega)
  go_wp2_with fail
  refine (eqRunS_same _ _ l _ ox0.seen otb0.seen).mono ?_
  rintro e w7 ⟨rfl, k7⟩
  have s7 := k7.size
  replace hB := k7.base hB (by omega) (by omega)
  replace ox0 := ox0.keep k7 (by omega)
  replace otb0 := otb0.keep k7 (by omega)
  go_wp2_with fail
  go_ret
  exact ⟨rfl, hB⟩

set_option maxRecDepth 100000 in
theorem walk_FnExactTextOf : G294.LawWalk Try.prog 10 Try.f10 Rows.fnExactTextOfSpec.vars false (fun _ => True) := by
  intro H enc W base args ds gs before hval hW hX
  have hlt0 : ∀ p ∈ before, p.block < W.heap.size := fun p hp => hW.lt p hp
  obtain ⟨p, q, hA, hV, rfl, hfz, hnd⟩ := hW
  rw [Try.params10] at hA hval
  obtain ⟨u0, vs0, d0, ds0, p0, q0, hargs, rfl, rfl, t0, r0⟩ := trodAll_cons hA
  obtain ⟨rfl, rfl, rfl⟩ := trodAll_nil r0
  obtain rfl : args = #[u0] := by cases args; simp_all
  obtain ⟨l0, sn0⟩ := seen_rus Try.underlying54 Try.underlying95 (by kernel_rfl) rfl rfl (by kernel_rfl) (by kernel_rfl) Try.underlying5 Try.underlying3 (hval 0 54 u0 rfl rfl) t0 (fun x hx => hlt0 x (by simp [hx]))
  exact exactTextOf_walk u0 l0 W sn0

end Go.Proofs.Ytdbgkpmdimapdaa
