/- The walk of FnExactDistanceOf. -/
import Derived.Test.YtjgmegfbfjmnfaaRows
import Derived.Test.YtjgmegfbfjmnfaaOpenArgs
import Derived.Test.YtjgmegfbfjmnfaaBytesOwn
import Derived.Test.YtjgmegfbfjmnfaaDist
import Derived.Test.YtjgmegfbfjmnfaaFrame
set_option linter.unusedSimpArgs false
set_option linter.unusedVariables false
namespace Go.Proofs.Ytjgmegfbfjmnfaa
open Go.ChangeShapes Go.WideShapes Go.ChangeAt Go.RowKit G294

set_option maxRecDepth 100000 in
set_option maxHeartbeats 4000000 in
theorem exactDistanceOf_walk (v0 : Value) (a : List UInt8) (v1 : Value) (b : List UInt8) (w : World) (hv0 : Seen w v0 (bys a)) (hv1 : Seen w v1 (bys b)) :
    Calls Try.prog 12 #[v0, v1] w fun e w' => e = .returned (.bool true) ∧ Below w.heap.size w w' := by
  obtain ⟨A0, cc0, hvv0⟩ := hv0.len
  rw [bys_length] at hvv0
  obtain ⟨A1, cc1, hvv1⟩ := hv1.len
  rw [bys_length] at hvv1
  have hbb0 : ((distR a b : Int) != (distR a b : Int)) = false := by simp
  have hbb1 : (distOk a b != distOk a b) = false := by simp
  have HVV0 := Lib.hid hvv0
  rw [hvv0] at hv0 ⊢
  clear hvv0
  have HV0 := Lib.hid hv0
  clear hv0
  obtain ⟨n0, hn0⟩ : ∃ zz, zz = a.length := ⟨_, rfl⟩
  have HN0 := Lib.hid hn0
  rw [← hn0] at HV0 ⊢
  clear hn0
  have HVV1 := Lib.hid hvv1
  rw [hvv1] at hv1 ⊢
  clear hvv1
  have HV1 := Lib.hid hv1
  clear hv1
  obtain ⟨n1, hn1⟩ : ∃ zz, zz = b.length := ⟨_, rfl⟩
  have HN1 := Lib.hid hn1
  rw [← hn1] at HV1 ⊢
  clear hn1
  have hB := Below.refl w.heap.size w
  by_cases hbig0 : 1048576 < n0
  · go_enter Try.func12, Try.ntmps12
    go_wp2_with fail
    go_ret
    exact ⟨rfl, hB⟩
  by_cases hbig1 : 1048576 < n1
  · go_enter Try.func12, Try.ntmps12
    go_wp2_with fail
    go_ret
    exact ⟨rfl, hB⟩
  go_enter Try.func12, Try.ntmps12
  go_wp2_with fail
  refine (toByteS_own _ a _ (HV0.out.below hB) (by rw [← HN0.out]; omega)).mono ?_
  rintro e w1 ⟨ta0, rfl, ota0, k1⟩
  have s1 := k1.size
  replace hB := k1.base hB (by omega) (by omega)
  go_wp2_with fail
  refine (toByteS_own _ b _ (HV1.out.below hB) (by rw [← HN1.out]; omega)).mono ?_
  rintro e w2 ⟨ta1, rfl, ota1, k2⟩
  have s2 := k2.size
  replace hB := k2.base hB (by omega) (by omega)
  replace ota0 := ota0.keep k2 (by omega)
  go_wp2_with fail
  refine (sDistanceOf_own _ _ a b _ ota0.seen ota1.seen).mono ?_
  rintro e w3 ⟨rfl, k3⟩
  have s3 := k3.size
  replace hB := k3.base hB (by omega) (by omega)
  replace ota0 := ota0.keep k3 (by omega)
  replace ota1 := ota1.keep k3 (by omega)
  go_wp2_with fail
  refine (toByteS_own _ a _ (HV0.out.below hB) (by rw [← HN0.out]; omega)).mono ?_
  rintro e w4 ⟨x0, rfl, ox0, k4⟩
  have s4 := k4.size
  replace hB := k4.base hB (by omega) (by omega)
  go_wp2_with fail
  refine (toByteS_own _ b _ (HV1.out.below hB) (by rw [← HN1.out]; omega)).mono ?_
  rintro e w5 ⟨x1, rfl, ox1, k5⟩
  have s5 := k5.size
  replace hB := k5.base hB (by omega) (by omega)
  replace ox0 := ox0.keep k5 (by omega)
  go_wp2_with fail
  refine (distanceOf_own _ _ a b _ ox0.seen ox1.seen).mono ?_
  rintro e w6 ⟨rfl, k6⟩
  have s6 := k6.size
  replace hB := k6.base hB (by omega) (by omega)
  replace ox0 := ox0.keep k6 (by omega)
  replace ox1 := ox1.keep k6 (by omega)
  go_wp2_with fail
  refine (toByteS_own _ a _ (HV0.out.below hB) (by rw [← HN0.out]; omega)).mono ?_
  rintro e w7 ⟨tb0, rfl, otb0, k7⟩
  have s7 := k7.size
  replace hB := k7.base hB (by omega) (by omega)
  replace ox0 := ox0.keep k7 (by omega)
  replace ox1 := ox1.keep k7 (by omega)
  go_wp2_with fail
  refine (eqByteS_same _ _ a _ ox0.seen otb0.seen).mono ?_
  rintro e w8 ⟨rfl, k8⟩
  have s8 := k8.size
  replace hB := k8.base hB (by omega) (by omega)
  replace ox0 := ox0.keep k8 (by omega)
  replace ox1 := ox1.keep k8 (by omega)
  replace otb0 := otb0.keep k8 (by omega)
  go_wp2_with fail
  refine (toByteS_own _ b _ (HV1.out.below hB) (by rw [← HN1.out]; omega)).mono ?_
  rintro e w9 ⟨tb1, rfl, otb1, k9⟩
  have s9 := k9.size
  replace hB := k9.base hB (by omega) (by omega)
  replace ox0 := ox0.keep k9 (by omega)
  replace ox1 := ox1.keep k9 (by omega)
  go_wp2_with fail
  refine (eqByteS_same _ _ b _ ox1.seen otb1.seen).mono ?_
  rintro e w10 ⟨rfl, k10⟩
  have s10 := k10.size
  replace hB := k10.base hB (by omega) (by omega)
  replace ox0 := ox0.keep k10 (by omega)
  replace ox1 := ox1.keep k10 (by omega)
  replace otb1 := otb1.keep k10 (by omega)
  go_wp2_with fail
  go_ret
  exact ⟨rfl, hB⟩

set_option maxRecDepth 100000 in
theorem walk_FnExactDistanceOf : G294.LawWalk Try.prog 12 Try.f12 Rows.fnExactDistanceOfSpec.vars false (fun _ => True) := by
  intro H enc W base args ds gs before hval hW hX
  have hlt0 : ∀ p ∈ before, p.block < W.heap.size := fun p hp => hW.lt p hp
  obtain ⟨p, q, hA, hV, rfl, hfz, hnd⟩ := hW
  rw [Try.params12] at hA hval
  obtain ⟨u0, vs0, d0, ds0, p0, q0, hargs, rfl, rfl, t0, r0⟩ := trodAll_cons hA
  obtain ⟨u1, vs1, d1, ds1, p1, q1, rfl, rfl, rfl, t1, r1⟩ := trodAll_cons r0
  obtain ⟨rfl, rfl, rfl⟩ := trodAll_nil r1
  obtain rfl : args = #[u0, u1] := by cases args; simp_all
  obtain ⟨l0, sn0⟩ := seen_bytes Try.underlying22 Try.underlying5 (by kernel_rfl) (hval 0 22 u0 rfl rfl) t0 (fun x hx => hlt0 x (by simp [hx]))
  obtain ⟨l1, sn1⟩ := seen_bytes Try.underlying22 Try.underlying5 (by kernel_rfl) (hval 1 22 u1 rfl rfl) t1 (fun x hx => hlt0 x (by simp [hx]))
  exact exactDistanceOf_walk u0 l0 u1 l1 W sn0 sn1

end Go.Proofs.Ytjgmegfbfjmnfaa
