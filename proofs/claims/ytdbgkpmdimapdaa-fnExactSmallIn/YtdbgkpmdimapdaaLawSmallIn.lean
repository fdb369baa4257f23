/- The walk of FnExactSmallIn. -/
import Derived.Test.YtdbgkpmdimapdaaRows
import Derived.Test.YtdbgkpmdimapdaaOpenArgs
import Derived.Test.YtdbgkpmdimapdaaSmlX
import Derived.Test.YtdbgkpmdimapdaaFrame
set_option linter.unusedSimpArgs false
set_option linter.unusedVariables false
namespace Go.Proofs.Ytdbgkpmdimapdaa
open Go.ChangeShapes Go.WideShapes Go.ChangeAt Go.RowKit G294

set_option maxRecDepth 100000 in
set_option maxHeartbeats 4000000 in
theorem exactSmallIn_walk (v0 : Value) (l : List UInt8) (m : Int) (w : World) (hv0 : Seen w v0 (bys l)) :
    Calls Try.prog 14 #[v0, .int .i64 m] w fun e w' => e = .returned (.bool true) ∧ Below w.heap.size w w' := by
  obtain ⟨A0, cc0, hvv0⟩ := hv0.len
  rw [bys_length] at hvv0
  have hbb0 : ((smlR l m : Int) != (smlR l m : Int)) = false := by simp
  have hbb1 : (smlOk l m != smlOk l m) = false := by simp
  have HVV0 := Lib.hid hvv0
  rw [hvv0] at hv0 ⊢
  clear hvv0
  have HV0 := Lib.hid hv0
  clear hv0
  obtain ⟨n0, hn0⟩ : ∃ zz, zz = l.length := ⟨_, rfl⟩
  have HN0 := Lib.hid hn0
  rw [← hn0] at HV0 ⊢
  clear hn0
  have hB := Below.refl w.heap.size w
  by_cases hbig0 : 1048576 < n0
  · go_enter Try.func14, Try.ntmps14
    go_wp2_with fail
    go_ret
    exact ⟨rfl, hB⟩
  go_enter Try.func14, Try.ntmps14
  go_wp2_with fail
  refine (toByteS_own _ l _ (HV0.out.below hB) (by rw [← HN0.out]; omega)).mono ?_
  rintro e w1 ⟨ta0, rfl, ota0, k1⟩
  have s1 := k1.size
  replace hB := k1.base hB (by omega) (by omega)
  go_wp2_with fail
  refine (sSmallIn_own _ l m _ ota0.seen).mono ?_
  rintro e w2 ⟨rfl, k2⟩
  have s2 := k2.size
  replace hB := k2.base hB (by omega) (by omega)
  replace ota0 := ota0.keep k2 (by omega)
  go_wp2_with fail
  refine (toByteS_own _ l _ (HV0.out.below hB) (by rw [← HN0.out]; omega)).mono ?_
  rintro e w3 ⟨x0, rfl, ox0, k3⟩
  have s3 := k3.size
  replace hB := k3.base hB (by omega) (by omega)
  go_wp2_with fail
  refine (smallIn_own _ l m _ ox0.seen).mono ?_
  rintro e w4 ⟨rfl, k4⟩
  have s4 := k4.size
  replace hB := k4.base hB (by omega) (by omega)
  replace ox0 := ox0.keep k4 (by omega)
  go_wp2_with fail
  refine (toByteS_own _ l _ (HV0.out.below hB) (by rw [← HN0.out]; omega)).mono ?_
  rintro e w5 ⟨tb0, rfl, otb0, k5⟩
  have s5 := k5.size
  replace hB := k5.base hB (by omega) (by omega)
  replace ox0 := ox0.keep k5 (by omega)
  go_wp2_with fail
  refine (eqByteS_same _ _ l _ ox0.seen otb0.seen).mono ?_
  rintro e w6 ⟨rfl, k6⟩
  have s6 := k6.size
  replace hB := k6.base hB (by omega) (by omega)
  replace ox0 := ox0.keep k6 (by omega)
  replace otb0 := otb0.keep k6 (by omega)
  go_wp2_with fail
  go_ret
  exact ⟨rfl, hB⟩

set_option maxRecDepth 100000 in
theorem walk_FnExactSmallIn : G294.LawWalk Try.prog 14 Try.f14 Rows.fnExactSmallInSpec.vars false (fun _ => True) := by
  intro H enc W base args ds gs before hval hW hX
  have hlt0 : ∀ p ∈ before, p.block < W.heap.size := fun p hp => hW.lt p hp
  obtain ⟨p, q, hA, hV, rfl, hfz, hnd⟩ := hW
  rw [Try.params14] at hA hval
  obtain ⟨u0, vs0, d0, ds0, p0, q0, hargs, rfl, rfl, t0, r0⟩ := trodAll_cons hA
  obtain ⟨u1, vs1, d1, ds1, p1, q1, rfl, rfl, rfl, t1, r1⟩ := trodAll_cons r0
  obtain ⟨rfl, rfl, rfl⟩ := trodAll_nil r1
  obtain rfl : args = #[u0, u1] := by cases args; simp_all
  obtain ⟨l0, sn0⟩ := seen_bytes Try.underlying22 Try.underlying5 (by kernel_rfl) (hval 0 22 u0 rfl rfl) t0 (fun x hx => hlt0 x (by simp [hx]))
  obtain ⟨a1, rfl, rfl, rfl, wf1⟩ := open_int Try.underlying3 (hval 1 3 u1 rfl rfl) t1
  exact exactSmallIn_walk u0 l0 a1 W sn0

end Go.Proofs.Ytdbgkpmdimapdaa
