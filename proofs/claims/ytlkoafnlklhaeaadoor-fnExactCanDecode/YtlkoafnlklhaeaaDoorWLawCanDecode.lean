/- The walk of FnExactCanDecode. -/
import Derived.Test.YtlkoafnlklhaeaaDoorRows
import Derived.Test.YtlkoafnlklhaeaaDoorBd00
import Derived.Test.YtlkoafnlklhaeaaDoorBd01
import Derived.Test.YtlkoafnlklhaeaaDoorBd02
import Derived.Test.YtlkoafnlklhaeaaDoorBd03
import Derived.Test.YtlkoafnlklhaeaaDoorBd12
set_option linter.unusedSimpArgs false
set_option linter.unusedVariables false
namespace Go.Proofs.YtlkoafnlklhaeaaDoor
open Go.ChangeShapes Go.WideShapes Go.ChangeAt Go.RowKit G294

set_option maxRecDepth 100000 in
set_option maxHeartbeats 4000000 in
theorem exactCanDecode_walk (g e q : Int) (v1 : Value) (l : List Int) (w : World) (hv1 : Seen w v1 (ints l)) (ht : Tab w) (h0 : 1 < w.heap.size) :
    Calls Tryd.prog 11 #[.agg #[.int .i64 g, .int .i64 e, .int .i64 q], v1] w fun e w' => e = .returned (.bool true) ∧ Below w.heap.size w w' := by
  obtain ⟨A1, cc1, hvv1⟩ := hv1.len
  rw [ints_length] at hvv1
  have hbb0 : (canR g e q l != canR g e q l) = false := by simp
  have hbb1 : (canOk g e q l != canOk g e q l) = false := by simp
  have HVV1 := Lib.hid hvv1
  rw [hvv1] at hv1 ⊢
  clear hvv1
  have HV1 := Lib.hid hv1
  clear hv1
  obtain ⟨n1, hn1⟩ : ∃ zz, zz = l.length := ⟨_, rfl⟩
  have HN1 := Lib.hid hn1
  rw [← hn1] at HV1 ⊢
  clear hn1
  have hB := Below.refl w.heap.size w
  have a1 := turn_alloc w (.cells #[.int .i64 g, .int .i64 e, .int .i64 q] 67)
  have z1a := World.size_alloc w (.cells #[.int .i64 g, .int .i64 e, .int .i64 q] 67)
  replace hB := a1.base hB (by omega) (by omega)
  have cL00 := alloc_tri0 w (.int .i64 g) (.int .i64 e) (.int .i64 q) 67
  have cL01 := alloc_tri1 w (.int .i64 g) (.int .i64 e) (.int .i64 q) 67
  have cL02 := alloc_tri2 w (.int .i64 g) (.int .i64 e) (.int .i64 q) 67
  have lL0 := alloc_ltT w (.cells #[.int .i64 g, .int .i64 e, .int .i64 q] 67)
  by_cases hbig1 : 1048576 < n1
  · go_enter Tryd.func11, Tryd.ntmps11
    go_wp2_with fail
    go_ret
    exact ⟨rfl, hB⟩
  go_enter Tryd.func11, Tryd.ntmps11
  go_wp2_with fail
  refine (toLocal_any g e q _).mono ?_
  rintro e w1 ⟨rfl, k1⟩
  have s1 := k1.size
  replace hB := k1.base hB (by omega) (by omega)
  replace cL00 := cell_keepT cL00 lL0 k1 (by omega)
  replace cL01 := cell_keepT cL01 lL0 k1 (by omega)
  replace cL02 := cell_keepT cL02 lL0 k1 (by omega)
  replace lL0 := Nat.lt_of_lt_of_le lL0 (k1).size
  go_wp2_with fail
  refine (toIntS_own _ l _ (HV1.out.below hB) (by rw [← HN1.out]; omega)).mono ?_
  rintro e w2 ⟨ta1, rfl, ota1, k2⟩
  have s2 := k2.size
  replace hB := k2.base hB (by omega) (by omega)
  replace cL00 := cell_keepT cL00 lL0 k2 (by omega)
  replace cL01 := cell_keepT cL01 lL0 k2 (by omega)
  replace cL02 := cell_keepT cL02 lL0 k2 (by omega)
  replace lL0 := Nat.lt_of_lt_of_le lL0 (k2).size
  go_wp2_with fail
  refine (sCanDecode_own g e q _ l _ ota1.seen).mono ?_
  rintro e w3 ⟨rfl, k3⟩
  have s3 := k3.size
  replace hB := k3.base hB (by omega) (by omega)
  replace ota1 := ota1.keep k3 (by omega)
  replace cL00 := cell_keepT cL00 lL0 k3 (by omega)
  replace cL01 := cell_keepT cL01 lL0 k3 (by omega)
  replace cL02 := cell_keepT cL02 lL0 k3 (by omega)
  replace lL0 := Nat.lt_of_lt_of_le lL0 (k3).size
  go_wp2_with fail
  refine (toIntS_own _ l _ (HV1.out.below hB) (by rw [← HN1.out]; omega)).mono ?_
  rintro e w4 ⟨x1, rfl, ox1, k4⟩
  have s4 := k4.size
  replace hB := k4.base hB (by omega) (by omega)
  replace cL00 := cell_keepT cL00 lL0 k4 (by omega)
  replace cL01 := cell_keepT cL01 lL0 k4 (by omega)
  replace cL02 := cell_keepT cL02 lL0 k4 (by omega)
  replace lL0 := Nat.lt_of_lt_of_le lL0 (k4).size
  go_wp2_with fail
  refine (toLocal_any g e q _).mono ?_
  rintro e w5 ⟨rfl, k5⟩
  have s5 := k5.size
  replace hB := k5.base hB (by omega) (by omega)
  replace ox1 := ox1.keep k5 (by omega)
  replace cL00 := cell_keepT cL00 lL0 k5 (by omega)
  replace cL01 := cell_keepT cL01 lL0 k5 (by omega)
  replace cL02 := cell_keepT cL02 lL0 k5 (by omega)
  replace lL0 := Nat.lt_of_lt_of_le lL0 (k5).size
  go_wp2_with fail
  refine (canDecode_own g e q _ l _ ox1.seen (ht.below hB h0) (by have := hB.size; omega)).mono ?_
  rintro e w6 ⟨rfl, k6⟩
  have s6 := k6.size
  replace hB := k6.base hB (by omega) (by omega)
  replace ox1 := ox1.keep k6 (by omega)
  replace cL00 := cell_keepT cL00 lL0 k6 (by omega)
  replace cL01 := cell_keepT cL01 lL0 k6 (by omega)
  replace cL02 := cell_keepT cL02 lL0 k6 (by omega)
  replace lL0 := Nat.lt_of_lt_of_le lL0 (k6).size
  go_wp2_with fail
  refine (toIntS_own _ l _ (HV1.out.below hB) (by rw [← HN1.out]; omega)).mono ?_
  rintro e w7 ⟨tb1, rfl, otb1, k7⟩
  have s7 := k7.size
  replace hB := k7.base hB (by omega) (by omega)
  replace ox1 := ox1.keep k7 (by omega)
  replace cL00 := cell_keepT cL00 lL0 k7 (by omega)
  replace cL01 := cell_keepT cL01 lL0 k7 (by omega)
  replace cL02 := cell_keepT cL02 lL0 k7 (by omega)
  replace lL0 := Nat.lt_of_lt_of_le lL0 (k7).size
  go_wp2_with fail
  refine (eqIntS_same _ _ l _ ox1.seen otb1.seen).mono ?_
  rintro e w8 ⟨rfl, k8⟩
  have s8 := k8.size
  replace hB := k8.base hB (by omega) (by omega)
  replace ox1 := ox1.keep k8 (by omega)
  replace otb1 := otb1.keep k8 (by omega)
  replace cL00 := cell_keepT cL00 lL0 k8 (by omega)
  replace cL01 := cell_keepT cL01 lL0 k8 (by omega)
  replace cL02 := cell_keepT cL02 lL0 k8 (by omega)
  replace lL0 := Nat.lt_of_lt_of_le lL0 (k8).size
  go_wp2_with fail
  go_ret
  exact ⟨rfl, hB⟩

set_option maxRecDepth 100000 in
theorem walk_FnExactCanDecode : G294.LawWalk Tryd.prog 11 Tryd.f11 Rows.fnExactCanDecodeSpec.vars false (fun W => laidMetH Tryd.prog Rows.fnExactCanDecodeRow.laid W) := by
  intro H enc W base args ds gs before hval hW hX
  have hlt0 : ∀ p ∈ before, p.block < W.heap.size := fun p hp => hW.lt p hp
  obtain ⟨p, q, hA, hV, rfl, hfz, hnd⟩ := hW
  rw [Tryd.params11] at hA hval
  obtain ⟨u0, vs0, d0, ds0, p0, q0, hargs, rfl, rfl, t0, r0⟩ := trodAll_cons hA
  obtain ⟨u1, vs1, d1, ds1, p1, q1, rfl, rfl, rfl, t1, r1⟩ := trodAll_cons r0
  obtain ⟨rfl, rfl, rfl⟩ := trodAll_nil r1
  obtain rfl : args = #[u0, u1] := by cases args; simp_all
  obtain ⟨g0, e0, q0, rfl⟩ := open_three Tryd.underlying67 (by kernel_rfl) (by kernel_rfl) Tryd.underlying3 Tryd.underlying3 Tryd.underlying3 (hval 0 67 u0 rfl rfl) t0
  obtain ⟨l1, sn1⟩ := seen_ints Tryd.underlying97 Tryd.underlying3 (by kernel_rfl) (hval 1 97 u1 rfl rfl) t1 (fun x hx => hlt0 x (by simp [hx]))
  obtain ⟨ht, hs⟩ := tab_of (by kernel_rfl) hX 0 rfl (by kernel_rfl)
  exact exactCanDecode_walk g0 e0 q0 u1 l1 W sn1 ht hs

end Go.Proofs.YtlkoafnlklhaeaaDoor
