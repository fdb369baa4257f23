/- The walk of FnExactDotVectors. -/
import Derived.Test.YtmkihipjfcknfaaDoorRows
import Derived.Test.YtmkihipjfcknfaaDoorOpenArgs
import Derived.Test.YtmkihipjfcknfaaDoorBytesOwn
import Derived.Test.YtmkihipjfcknfaaDoorVecDot
import Derived.Test.YtmkihipjfcknfaaDoorLawsField
set_option linter.unusedSimpArgs false
set_option linter.unusedVariables false
namespace Go.Proofs.YtmkihipjfcknfaaDoor
open Go.ChangeShapes Go.WideShapes Go.ChangeAt Go.RowKit G294

set_option maxRecDepth 100000 in
set_option maxHeartbeats 2000000 in
theorem exactDotVectors_walk (v0 : Value) (l : List UInt8) (v1 : Value) (m : List UInt8) (w : World) (hv0 : Seen w v0 (bys l)) (hv1 : Seen w v1 (bys m)) (ht : Tab w) (h0 : 0 < w.heap.size) :
    Calls Tryd.prog 10 #[v0, v1] w fun e w' => e = .returned (.bool true) ∧ Below w.heap.size w w' := by
  obtain ⟨A0, c0, hvv0⟩ := hv0.len
  rw [bys_length] at hvv0
  obtain ⟨A1, c1, hvv1⟩ := hv1.len
  rw [bys_length] at hvv1
  by_cases hbig0 : 1048576 < l.length
  · rw [hvv0, hvv1]
    clear hvv0 hvv1
    generalize l.length = n0 at *
    generalize m.length = n1 at *
    go_enter Tryd.func10, Tryd.ntmps10
    go_wp2_with fail
    go_ret
    exact ⟨rfl, Below.refl _ _⟩
  by_cases hbig1 : 1048576 < m.length
  · rw [hvv0, hvv1]
    clear hvv0 hvv1
    generalize l.length = n0 at *
    generalize m.length = n1 at *
    go_enter Tryd.func10, Tryd.ntmps10
    go_wp2_with fail
    go_ret
    exact ⟨rfl, Below.refl _ _⟩
  have hbb0 : (((dotR l m).toNat : Int) != ((dotR l m).toNat : Int)) = false := by simp
  have hbb1 : (pairOk l m != pairOk l m) = false := by simp
  have HV0 := Lib.hid hvv0
  rw [hvv0] at hv0 ⊢
  clear hvv0
  obtain ⟨n0, hn0⟩ : ∃ n, n = l.length := ⟨_, rfl⟩
  have HN0 := Lib.hid hn0
  rw [← hn0] at hbig0 hv0 ⊢
  clear hn0
  have HV1 := Lib.hid hvv1
  rw [hvv1] at hv1 ⊢
  clear hvv1
  obtain ⟨n1, hn1⟩ : ∃ n, n = m.length := ⟨_, rfl⟩
  have HN1 := Lib.hid hn1
  rw [← hn1] at hbig1 hv1 ⊢
  clear hn1
  have hB := Below.refl w.heap.size w
  go_enter Tryd.func10, Tryd.ntmps10
  go_wp2_with fail
  refine (toByteS_own _ l _ (hv0.below hB) (by rw [← HN0.out]; omega)).mono ?_
  rintro e w1 ⟨ta0, rfl, ota0, k1⟩
  have s1 := k1.size
  have hB := k1.base hB (by omega) (by omega)
  go_wp2_with fail
  refine (toByteS_own _ m _ (hv1.below hB) (by rw [← HN1.out]; omega)).mono ?_
  rintro e w2 ⟨ta1, rfl, ota1, k2⟩
  have s2 := k2.size
  have hB := k2.base hB (by omega) (by omega)
  have ota0 := ota0.keep k2 (by omega)
  go_wp2_with fail
  refine (sDot_own _ _ l m _ ota0.seen ota1.seen).mono ?_
  rintro e w3 ⟨rfl, k3⟩
  have s3 := k3.size
  have hB := k3.base hB (by omega) (by omega)
  have ota0 := ota0.keep k3 (by omega)
  have ota1 := ota1.keep k3 (by omega)
  go_wp2_with fail
  refine (toByteS_own _ l _ (hv0.below hB) (by rw [← HN0.out]; omega)).mono ?_
  rintro e w4 ⟨x0, rfl, ox0, k4⟩
  have s4 := k4.size
  have hB := k4.base hB (by omega) (by omega)
  go_wp2_with fail
  refine (toByteS_own _ m _ (hv1.below hB) (by rw [← HN1.out]; omega)).mono ?_
  rintro e w5 ⟨x1, rfl, ox1, k5⟩
  have s5 := k5.size
  have hB := k5.base hB (by omega) (by omega)
  have ox0 := ox0.keep k5 (by omega)
  go_wp2_with fail
  refine (dot_own _ _ l m _ ox0.seen ox1.seen (ht.below hB h0)).mono ?_
  rintro e w6 ⟨rfl, k6⟩
  have s6 := k6.size
  have hB := k6.base hB (by omega) (by omega)
  have ox0 := ox0.keep k6 (by omega)
  have ox1 := ox1.keep k6 (by omega)
  go_wp2_with fail
  refine (toByteS_own _ l _ (hv0.below hB) (by rw [← HN0.out]; omega)).mono ?_
  rintro e w7 ⟨tb0, rfl, otb0, k7⟩
  have s7 := k7.size
  have hB := k7.base hB (by omega) (by omega)
  have ox0 := ox0.keep k7 (by omega)
  have ox1 := ox1.keep k7 (by omega)
  go_wp2_with fail
  refine (eqByteS_same _ _ l _ ox0.seen otb0.seen).mono ?_
  rintro e w8 ⟨rfl, k8⟩
  have s8 := k8.size
  have hB := k8.base hB (by omega) (by omega)
  have ox0 := ox0.keep k8 (by omega)
  have ox1 := ox1.keep k8 (by omega)
  have otb0 := otb0.keep k8 (by omega)
  go_wp2_with fail
  refine (toByteS_own _ m _ (hv1.below hB) (by rw [← HN1.out]; omega)).mono ?_
  rintro e w9 ⟨tb1, rfl, otb1, k9⟩
  have s9 := k9.size
  have hB := k9.base hB (by omega) (by omega)
  have ox0 := ox0.keep k9 (by omega)
  have ox1 := ox1.keep k9 (by omega)
  go_wp2_with fail
  refine (eqByteS_same _ _ m _ ox1.seen otb1.seen).mono ?_
  rintro e w10 ⟨rfl, k10⟩
  have s10 := k10.size
  have hB := k10.base hB (by omega) (by omega)
  have ox0 := ox0.keep k10 (by omega)
  have ox1 := ox1.keep k10 (by omega)
  have otb1 := otb1.keep k10 (by omega)
  go_wp2_with fail
  go_ret
  exact ⟨rfl, hB⟩

theorem walk_FnExactDotVectors : G294.LawWalk Tryd.prog 10 Tryd.f10 Rows.fnExactDotVectorsSpec.vars false (fun W => laidMetH Tryd.prog Rows.fnExactDotVectorsRow.laid W) := by
  intro H enc W base args ds gs before hval hW hX
  have hlt0 : ∀ p ∈ before, p.block < W.heap.size := fun p hp => hW.lt p hp
  obtain ⟨p, q, hA, hV, rfl, hfz, hnd⟩ := hW
  rw [Tryd.params10] at hA hval
  obtain ⟨u0, vs0, d0, ds0, p0, q0, hargs, rfl, rfl, t0, r0⟩ := trodAll_cons hA
  obtain ⟨u1, vs1, d1, ds1, p1, q1, rfl, rfl, rfl, t1, r1⟩ := trodAll_cons r0
  obtain ⟨rfl, rfl, rfl⟩ := trodAll_nil r1
  obtain rfl : args = #[u0, u1] := by cases args; simp_all
  obtain ⟨l0, sn0⟩ := seen_bytes Tryd.underlying22 Tryd.underlying5 (by kernel_rfl) (hval 0 22 u0 rfl rfl) t0 (fun x hx => hlt0 x (by simp [hx]))
  obtain ⟨l1, sn1⟩ := seen_bytes Tryd.underlying22 Tryd.underlying5 (by kernel_rfl) (hval 1 22 u1 rfl rfl) t1 (fun x hx => hlt0 x (by simp [hx]))
  obtain ⟨ht, hs⟩ := tab_of (by kernel_rfl) hX 0 rfl (by kernel_rfl)
  exact exactDotVectors_walk u0 l0 u1 l1 W sn0 sn1 ht hs

end Go.Proofs.YtmkihipjfcknfaaDoor
