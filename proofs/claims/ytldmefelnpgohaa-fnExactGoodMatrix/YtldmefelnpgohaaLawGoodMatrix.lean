/- The walk of FnExactGoodMatrix. -/
import Derived.Test.YtldmefelnpgohaaRows
import Derived.Test.YtldmefelnpgohaaOpenMats
import Derived.Test.YtldmefelnpgohaaMatArgs
import Derived.Test.YtldmefelnpgohaaGood
import Derived.Test.YtldmefelnpgohaaBoxes
set_option linter.unusedSimpArgs false
set_option linter.unusedVariables false
namespace Go.Proofs.Ytldmefelnpgohaa
open Go.ChangeShapes Go.WideShapes Go.ChangeAt Go.RowKit G294

set_option maxRecDepth 100000 in
set_option maxHeartbeats 4000000 in
theorem exactGoodMatrix_walk (v0 : Value) (l : Mat) (w : World) (hv0 : SeenM w v0 l) :
    Calls Try.prog 3 #[.agg #[v0]] w fun e w' => e = .returned (.bool true) ∧ Below w.heap.size w w' := by
  obtain ⟨A0, cc0, hvv0, _, _⟩ := hv0.len
  have hbb0 : (goodM l != goodM l) = false := by simp
  have HVV0 := Lib.hid hvv0
  rw [hvv0] at hv0 ⊢
  clear hvv0
  have HV0 := Lib.hid hv0
  clear hv0
  obtain ⟨z0, hz0⟩ : ∃ zz, zz = (l).length + sizM (l) := ⟨_, rfl⟩
  have HZ0 := Lib.hid hz0
  clear hz0
  have hB := Below.refl w.heap.size w
  have a1 := turn_alloc w (.cells #[.slice A0 (l).length cc0] 24)
  have z1a := World.size_alloc w (.cells #[.slice A0 (l).length cc0] 24)
  replace hB := a1.base hB (by omega) (by omega)
  have ca0 := alloc_cell w (.slice A0 (l).length cc0) 24
  have la0 := alloc_lt w (.cells #[.slice A0 (l).length cc0] 24)
  go_enter Try.func3, Try.ntmps3
  by_cases hbz0 : 1048576 < z0
  · go_wp2_with fail
    refine (szMatrix_no _ l (1048576) _ (HV0.out.below hB) (by rw [← HZ0.out]; omega)).mono ?_
    rintro e w1 ⟨rfl, k1⟩
    have s1 := k1.size
    replace hB := k1.base hB (by omega) (by omega)
    replace ca0 := box_keep ca0 la0 k1 (by omega)
    replace la0 := Nat.lt_of_lt_of_le la0 (k1).size
    go_wp2_with fail
    go_ret
    exact ⟨rfl, hB⟩
  go_wp2_with fail
  refine (szMatrix_yes _ l (1048576) _ (HV0.out.below hB) (by rw [← HZ0.out]; omega) (by omega)).mono ?_
  rintro e w1 ⟨he, k1⟩
  have s1 := k1.size
  replace hB := k1.base hB (by omega) (by omega)
  replace ca0 := box_keep ca0 la0 k1 (by omega)
  replace la0 := Nat.lt_of_lt_of_le la0 (k1).size
  rw [← HZ0.out] at he
  obtain ⟨left0, hleft0⟩ : ∃ zz : Nat, zz = 1048576 - z0 := ⟨_, rfl⟩
  have HL0 := Lib.hid hleft0
  rw [← hleft0] at he
  have hlb0 : left0 ≤ 1048576 := by omega
  clear hleft0
  subst he
  have hln0 : ¬ (left0 : Int) < 0 := by omega
  go_wp2_with fail
  refine (toMatrix_own _ l _ (HV0.out.below hB) (by rw [← HZ0.out]; omega)).mono ?_
  rintro e w2 ⟨ta0, ta0vs, rfl, ota0, k2⟩
  obtain ⟨A_ta0, N_ta0, C_ta0, rfl⟩ := ota0.isSlice
  have s2 := k2.size
  replace hB := k2.base hB (by omega) (by omega)
  replace ca0 := box_keep ca0 la0 k2 (by omega)
  replace la0 := Nat.lt_of_lt_of_le la0 (k2).size
  go_wp2_with fail
  refine (sgood_any _ l _ ota0.seen).mono ?_
  rintro e w3 ⟨rfl, k3⟩
  have s3 := k3.size
  replace hB := k3.base hB (by omega) (by omega)
  replace ota0 := ota0.keep k3 (by omega)
  replace ca0 := box_keep ca0 la0 k3 (by omega)
  replace la0 := Nat.lt_of_lt_of_le la0 (k3).size
  go_wp2_with fail
  refine (toMatrix_own _ l _ (HV0.out.below hB) (by rw [← HZ0.out]; omega)).mono ?_
  rintro e w4 ⟨x0, x0vs, rfl, ox0, k4⟩
  obtain ⟨A_x0, N_x0, C_x0, rfl⟩ := ox0.isSlice
  have s4 := k4.size
  replace hB := k4.base hB (by omega) (by omega)
  replace ca0 := box_keep ca0 la0 k4 (by omega)
  replace la0 := Nat.lt_of_lt_of_le la0 (k4).size
  have a2 := turn_alloc w4 (.cells #[.slice A_x0 N_x0 C_x0] 27)
  have z2a := World.size_alloc w4 (.cells #[.slice A_x0 N_x0 C_x0] 27)
  replace hB := a2.base hB (by omega) (by omega)
  replace ox0 := ox0.keep a2 (by omega)
  replace ca0 := box_keep ca0 la0 a2 (by omega)
  replace la0 := Nat.lt_of_lt_of_le la0 (a2).size
  have cx0 := alloc_cell w4 (.slice A_x0 N_x0 C_x0) 27
  have lx0 := alloc_lt w4 (.cells #[.slice A_x0 N_x0 C_x0] 27)
  go_wp2_with fail
  refine (igood_any _ l _ ox0.seen).mono ?_
  rintro e w5 ⟨rfl, k5⟩
  have s5 := k5.size
  replace hB := k5.base hB (by omega) (by omega)
  replace ox0 := ox0.keep k5 (by omega)
  replace ca0 := box_keep ca0 la0 k5 (by omega)
  replace la0 := Nat.lt_of_lt_of_le la0 (k5).size
  replace cx0 := box_keep cx0 lx0 k5 (by omega)
  replace lx0 := Nat.lt_of_lt_of_le lx0 (k5).size
  go_wp2_with fail
  go_region_held3 (fun w' => w'.cell? ⟨w4.heap.size, 0, none⟩ = some (.slice A_x0 N_x0 C_x0) ∧ w'.cell? ⟨w.heap.size, 0, none⟩ = some (.slice A0 (l).length cc0))
    (first | exact ⟨cx0, ca0⟩)
    (first | (go_at_call 13; refine (toMatrix_own _ l (World.drew w5) (HV0.out.below hB.drew) (by rw [← HZ0.out]; omega)).mono ?_; rintro e w6 ⟨tb0, tb0vs, rfl, otb0, k6⟩; obtain ⟨A_tb0, N_tb0, C_tb0, rfl⟩ := otb0.isSlice; replace k6 := undrew k6; have s6 := k6.size; replace hB := k6.base hB (by omega) (by omega); replace ox0 := ox0.keep k6 (by omega); replace ca0 := box_keep ca0 la0 k6 (by omega); replace la0 := Nat.lt_of_lt_of_le la0 (k6).size; replace cx0 := box_keep cx0 lx0 k6 (by omega); replace lx0 := Nat.lt_of_lt_of_le lx0 (k6).size) | (go_at_call 15; refine (eqMatrix_same _ _ l _ ox0.seen otb0.seen).mono ?_; rintro e w7 ⟨rfl, k7⟩; have s7 := k7.size; replace hB := k7.base hB (by omega) (by omega); replace ox0 := ox0.keep k7 (by omega); replace otb0 := otb0.keep k7 (by omega); replace ca0 := box_keep ca0 la0 k7 (by omega); replace la0 := Nat.lt_of_lt_of_le la0 (k7).size; replace cx0 := box_keep cx0 lx0 k7 (by omega); replace lx0 := Nat.lt_of_lt_of_le lx0 (k7).size))
  go_wp2_with fail
  go_ret
  exact ⟨rfl, hB⟩

set_option maxRecDepth 100000 in
theorem walk_FnExactGoodMatrix : G294.LawWalk Try.prog 3 Try.f3 Rows.fnExactGoodMatrixSpec.vars false (fun _ => True) := by
  intro H enc W base args ds gs before hval hW hX
  have hlt0 : ∀ p ∈ before, p.block < W.heap.size := fun p hp => hW.lt p hp
  obtain ⟨p, q, hA, hV, rfl, hfz, hnd⟩ := hW
  rw [Try.params3] at hA hval
  obtain ⟨u0, vs0, d0, ds0, p0, q0, hargs, rfl, rfl, t0, r0⟩ := trodAll_cons hA
  obtain ⟨rfl, rfl, rfl⟩ := trodAll_nil r0
  obtain rfl : args = #[u0] := by cases args; simp_all
  obtain ⟨y0, l0, rfl, sn0⟩ := seen_matrix (hval 0 24 u0 rfl rfl) t0 (fun x hx => hlt0 x (by simp [hx]))
  exact exactGoodMatrix_walk y0 l0 W sn0

end Go.Proofs.Ytldmefelnpgohaa
