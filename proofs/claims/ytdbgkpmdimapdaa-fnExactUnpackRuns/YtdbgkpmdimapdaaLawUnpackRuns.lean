/- The walk of FnExactUnpackRuns. -/
import Derived.Test.YtdbgkpmdimapdaaRows
import Derived.Test.YtdbgkpmdimapdaaOpenStrs
import Derived.Test.YtdbgkpmdimapdaaOpenRun
import Derived.Test.YtdbgkpmdimapdaaRunWalks
import Derived.Test.YtdbgkpmdimapdaaUnpX
import Derived.Test.YtdbgkpmdimapdaaFrame
set_option linter.unusedSimpArgs false
set_option linter.unusedVariables false
namespace Go.Proofs.Ytdbgkpmdimapdaa
open Go.ChangeShapes Go.WideShapes Go.ChangeAt Go.RowKit G294

set_option maxRecDepth 100000 in
set_option maxHeartbeats 4000000 in
theorem exactUnpackRuns_walk (s : List UInt8) (w : World) :
    Calls Try.prog 13 #[.string (str s)] w fun e w' => e = .returned (.bool true) ∧ Below w.heap.size w w' := by
  have hts0 := str_size s
  obtain ⟨n0, hn0⟩ : ∃ zz, zz = s.length := ⟨_, rfl⟩
  have HN0 := Lib.hid hn0
  rw [← hn0] at hts0
  clear hn0
  have hbb1 : (unpOk s != unpOk s) = false := by simp
  have hB := Below.refl w.heap.size w
  by_cases hbig0 : 1048576 < n0
  · go_enter Try.func13, Try.ntmps13
    go_wp2_with fail
    go_ret
    exact ⟨rfl, hB⟩
  go_enter Try.func13, Try.ntmps13
  go_wp2_with fail
  refine (sUnpackRuns_own s _ (by rw [← HN0.out]; omega)).mono ?_
  rintro e w1 ⟨s0, rfl, os0, k1⟩
  have s1 := k1.size
  replace hB := k1.base hB (by omega) (by omega)
  go_wp2_with fail
  refine (unpackRuns_own s _ (by rw [← HN0.out]; omega)).mono ?_
  rintro e w2 ⟨g0, rfl, og0, k2⟩
  have s2 := k2.size
  replace hB := k2.base hB (by omega) (by omega)
  replace os0 := os0.keep k2 (by omega)
  go_wp2_with fail
  refine (eqRunS_same _ _ (unpR s) _ og0.seen os0.seen).mono ?_
  rintro e w3 ⟨rfl, k3⟩
  have s3 := k3.size
  replace hB := k3.base hB (by omega) (by omega)
  replace os0 := os0.keep k3 (by omega)
  replace og0 := og0.keep k3 (by omega)
  have hk0 : ¬ (1 : Int) < 0 := by omega
  obtain ⟨r0, hr0⟩ : ∃ zz : Nat, zz = 1 + (unpR s).length * 2 := ⟨_, rfl⟩
  have HR0 := Lib.hid hr0
  clear hr0
  have hrb0 : r0 ≤ 100000000 := by have := unpR_len s; rw [HR0.out]; omega
  go_wp2_with fail
  refine (markRunS_own _ (unpR s) 1 _ _ _ og0 (by rw [← HR0.out]; omega)).mono ?_
  rintro e w4 ⟨he, og0, k4⟩
  have s4 := k4.size
  replace hB := k4.base hB (by omega) (by omega)
  replace os0 := os0.keep k4 (by omega)
  rw [← HR0.out] at he
  subst he
  go_wp2_with fail
  refine (heldRunS_own _ 1 ((unpR s).length) _ og0.seen (by rw [← HR0.out]; omega)).mono ?_
  rintro e w5 ⟨he, k5⟩
  have s5 := k5.size
  replace hB := k5.base hB (by omega) (by omega)
  replace os0 := os0.keep k5 (by omega)
  replace og0 := og0.keep k5 (by omega)
  rw [← HR0.out] at he
  subst he
  have hq0 : ¬ (r0 : Int) < 0 := by omega
  have hqq : ((r0 : Int) != (r0 : Int)) = false := by simp
  go_wp2_with fail
  refine (unpackRuns_own s _ (by rw [← HN0.out]; omega)).mono ?_
  rintro e w6 ⟨h0, rfl, oh0, k6⟩
  have s6 := k6.size
  replace hB := k6.base hB (by omega) (by omega)
  replace os0 := os0.keep k6 (by omega)
  replace og0 := og0.keep k6 (by omega)
  go_wp2_with fail
  refine (eqRunS_same _ _ (unpR s) _ oh0.seen os0.seen).mono ?_
  rintro e w7 ⟨rfl, k7⟩
  have s7 := k7.size
  replace hB := k7.base hB (by omega) (by omega)
  replace os0 := os0.keep k7 (by omega)
  replace og0 := og0.keep k7 (by omega)
  replace oh0 := oh0.keep k7 (by omega)
  go_wp2_with fail
  refine (heldRunS_own _ 1 ((unpR s).length) _ og0.seen (by rw [← HR0.out]; omega)).mono ?_
  rintro e w8 ⟨he, k8⟩
  have s8 := k8.size
  replace hB := k8.base hB (by omega) (by omega)
  replace os0 := os0.keep k8 (by omega)
  replace og0 := og0.keep k8 (by omega)
  replace oh0 := oh0.keep k8 (by omega)
  rw [← HR0.out] at he
  subst he
  have hq0 : ¬ (r0 : Int) < 0 := by omega
  have hqq : ((r0 : Int) != (r0 : Int)) = false := by simp
  go_wp2_with fail
  go_ret
  exact ⟨rfl, hB⟩

set_option maxRecDepth 100000 in
theorem walk_FnExactUnpackRuns : G294.LawWalk Try.prog 13 Try.f13 Rows.fnExactUnpackRunsSpec.vars false (fun _ => True) := by
  intro H enc W base args ds gs before hval hW hX
  have hlt0 : ∀ p ∈ before, p.block < W.heap.size := fun p hp => hW.lt p hp
  obtain ⟨p, q, hA, hV, rfl, hfz, hnd⟩ := hW
  rw [Try.params13] at hA hval
  obtain ⟨u0, vs0, d0, ds0, p0, q0, hargs, rfl, rfl, t0, r0⟩ := trodAll_cons hA
  obtain ⟨rfl, rfl, rfl⟩ := trodAll_nil r0
  obtain rfl : args = #[u0] := by cases args; simp_all
  obtain ⟨l0, rfl⟩ := open_text Try.underlying9 (hval 0 9 u0 rfl rfl) t0
  exact exactUnpackRuns_walk l0 W

end Go.Proofs.Ytdbgkpmdimapdaa
