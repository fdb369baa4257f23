/- The walk of FnExactFlipBits. -/
import Derived.Test.YtjgmegfbfjmnfaaRows
import Derived.Test.YtjgmegfbfjmnfaaOpenStrs
import Derived.Test.YtjgmegfbfjmnfaaOpenMats
import Derived.Test.YtjgmegfbfjmnfaaVitF
import Derived.Test.YtjgmegfbfjmnfaaFrame
set_option linter.unusedSimpArgs false
set_option linter.unusedVariables false
namespace Go.Proofs.Ytjgmegfbfjmnfaa
open Go.ChangeShapes Go.WideShapes Go.ChangeAt Go.RowKit G294

set_option maxRecDepth 100000 in
set_option maxHeartbeats 4000000 in
theorem exactFlipBits_walk (s : List UInt8) (v1 : Value) (l : List Int) (w : World) (hv1 : Seen w v1 (ints l)) :
    Calls Try.prog 11 #[.string (str s), v1] w fun e w' => e = .returned (.bool true) ∧ Below w.heap.size w w' := by
  obtain ⟨A1, cc1, hvv1⟩ := hv1.len
  rw [ints_length] at hvv1
  have hts0 := str_size s
  obtain ⟨n0, hn0⟩ : ∃ zz, zz = s.length := ⟨_, rfl⟩
  have HN0 := Lib.hid hn0
  rw [← hn0] at hts0
  clear hn0
  have hbb0 : ((str (flpR s l)).toList == (str (flpR s l)).toList) = true := by simp
  have hbb1 : (flpOk s l != flpOk s l) = false := by simp
  have HVV1 := Lib.hid hvv1
  rw [hvv1] at hv1 ⊢
  clear hvv1
  have HV1 := Lib.hid hv1
  clear hv1
  obtain ⟨n1, hn1⟩ : ∃ zz, zz = l.length := ⟨_, rfl⟩
  have HN1 := Lib.hid hn1
  rw [← hn1] at HV1 ⊢
  clear hn1
  have hB := Below.refl w.heap.size w
  by_cases hbig0 : 1048576 < n0
  · go_enter Try.func11, Try.ntmps11
    go_wp2_with fail
    go_ret
    exact ⟨rfl, hB⟩
  by_cases hbig1 : 1048576 < n1
  · go_enter Try.func11, Try.ntmps11
    go_wp2_with fail
    go_ret
    exact ⟨rfl, hB⟩
  go_enter Try.func11, Try.ntmps11
  go_wp2_with fail
  refine (toIntS_own _ l _ (HV1.out.below hB) (by rw [← HN1.out]; omega)).mono ?_
  rintro e w1 ⟨ta1, rfl, ota1, k1⟩
  have s1 := k1.size
  replace hB := k1.base hB (by omega) (by omega)
  go_wp2_with fail
  refine (sFlipBits_own _ s l _ ota1.seen (by rw [← HN0.out]; omega)).mono ?_
  rintro e w2 ⟨rfl, k2⟩
  have s2 := k2.size
  replace hB := k2.base hB (by omega) (by omega)
  replace ota1 := ota1.keep k2 (by omega)
  go_wp2_with fail
  refine (toIntS_own _ l _ (HV1.out.below hB) (by rw [← HN1.out]; omega)).mono ?_
  rintro e w3 ⟨x1, rfl, ox1, k3⟩
  have s3 := k3.size
  replace hB := k3.base hB (by omega) (by omega)
  go_wp2_with fail
  refine (flipBits_own _ s l _ ox1.seen (by rw [← HN0.out]; omega)).mono ?_
  rintro e w4 ⟨rfl, k4⟩
  have s4 := k4.size
  replace hB := k4.base hB (by omega) (by omega)
  replace ox1 := ox1.keep k4 (by omega)
  go_wp2_with fail
  refine (toIntS_own _ l _ (HV1.out.below hB) (by rw [← HN1.out]; omega)).mono ?_
  rintro e w5 ⟨tb1, rfl, otb1, k5⟩
  have s5 := k5.size
  replace hB := k5.base hB (by omega) (by omega)
  replace ox1 := ox1.keep k5 (by omega)
  go_wp2_with fail
  refine (eqIntS_same _ _ l _ ox1.seen otb1.seen).mono ?_
  rintro e w6 ⟨rfl, k6⟩
  have s6 := k6.size
  replace hB := k6.base hB (by omega) (by omega)
  replace ox1 := ox1.keep k6 (by omega)
  replace otb1 := otb1.keep k6 (by omega)
  go_wp2_with fail
  go_ret
  exact ⟨rfl, hB⟩

set_option maxRecDepth 100000 in
theorem walk_FnExactFlipBits : G294.LawWalk Try.prog 11 Try.f11 Rows.fnExactFlipBitsSpec.vars false (fun _ => True) := by
  intro H enc W base args ds gs before hval hW hX
  have hlt0 : ∀ p ∈ before, p.block < W.heap.size := fun p hp => hW.lt p hp
  obtain ⟨p, q, hA, hV, rfl, hfz, hnd⟩ := hW
  rw [Try.params11] at hA hval
  obtain ⟨u0, vs0, d0, ds0, p0, q0, hargs, rfl, rfl, t0, r0⟩ := trodAll_cons hA
  obtain ⟨u1, vs1, d1, ds1, p1, q1, rfl, rfl, rfl, t1, r1⟩ := trodAll_cons r0
  obtain ⟨rfl, rfl, rfl⟩ := trodAll_nil r1
  obtain rfl : args = #[u0, u1] := by cases args; simp_all
  obtain ⟨l0, rfl⟩ := open_text Try.underlying9 (hval 0 9 u0 rfl rfl) t0
  obtain ⟨l1, sn1⟩ := seen_ints Try.underlying36 Try.underlying3 (by kernel_rfl) (hval 1 36 u1 rfl rfl) t1 (fun x hx => hlt0 x (by simp [hx]))
  exact exactFlipBits_walk l0 u1 l1 W sn1

end Go.Proofs.Ytjgmegfbfjmnfaa
