/- The walk of FnExactIsDrop. -/
import Derived.Test.YtjklngheehhggaaDoorRows
import Derived.Test.YtjklngheehhggaaDoorBd00
import Derived.Test.YtjklngheehhggaaDoorBd01
import Derived.Test.YtjklngheehhggaaDoorBd18
import Derived.Test.YtjklngheehhggaaDoorBd19
import Derived.Test.YtjklngheehhggaaDoorBd17
set_option linter.unusedSimpArgs false
set_option linter.unusedVariables false
namespace Go.Proofs.YtjklngheehhggaaDoor
open Go.ChangeShapes Go.WideShapes Go.ChangeAt Go.RowKit G294

set_option maxRecDepth 100000 in
set_option maxHeartbeats 4000000 in
theorem exactIsDrop_walk (n : Int) (t : List UInt8) (v1 : Value) (l : List (List UInt8)) (w : World) (hmd0 : t.length ≤ maxLen) (hv1 : Seen w v1 (strs l)) (hmx1 : ∀ s ∈ l, s.length ≤ maxLen) (ht : Tab w) (h0 : 1 < w.heap.size) :
    Calls Tryd.prog 6 #[.agg #[.int .i64 n, .string (str t)], v1] w fun e w' => e = .returned (.bool true) ∧ Below w.heap.size w w' := by
  obtain ⟨A1, cc1, hvv1⟩ := hv1.len
  rw [strs_length] at hvv1
  have hbb0 : (isdR (n, t) l != isdR (n, t) l) = false := by simp
  have hbb1 : (isdOk (n, t) l != isdOk (n, t) l) = false := by simp
  have HVV1 := Lib.hid hvv1
  rw [hvv1] at hv1 ⊢
  clear hvv1
  have HV1 := Lib.hid hv1
  clear hv1
  obtain ⟨z1, hz1⟩ : ∃ zz, zz = (l).length + sizM (l) := ⟨_, rfl⟩
  have HZ1 := Lib.hid hz1
  have hnz1 : l.length ≤ z1 := by omega
  clear hz1
  obtain ⟨n1, hn1⟩ : ∃ zz, zz = l.length := ⟨_, rfl⟩
  have HN1 := Lib.hid hn1
  rw [← hn1] at HV1 hnz1 ⊢
  clear hn1
  obtain ⟨z0, hz0⟩ : ∃ zz, zz = t.length := ⟨_, rfl⟩
  have HZ0 := Lib.hid hz0
  clear hz0
  have hB := Below.refl w.heap.size w
  have a1 := turn_alloc w (.cells #[.int .i64 n, .string (str t)] 61)
  have z1a := World.size_alloc w (.cells #[.int .i64 n, .string (str t)] 61)
  replace hB := a1.base hB (by omega) (by omega)
  have cL00 := alloc_duo0 w (.int .i64 n) (.string (str t)) 61
  have cL01 := alloc_duo1 w (.int .i64 n) (.string (str t)) 61
  have lL0 := alloc_ltT w (.cells #[.int .i64 n, .string (str t)] 61)
  go_enter Tryd.func6, Tryd.ntmps6
  by_cases hbz0 : 1048576 < z0
  · go_wp2_with fail
    refine (szDrop_no n t (1048576) _ (by omega) hmd0 (by rw [← HZ0.out]; omega)).mono ?_
    rintro e w1 ⟨rfl, k1⟩
    have s1 := k1.size
    replace hB := k1.base hB (by omega) (by omega)
    replace cL00 := cell_keepT cL00 lL0 k1 (by omega)
    replace cL01 := cell_keepT cL01 lL0 k1 (by omega)
    replace lL0 := Nat.lt_of_lt_of_le lL0 (k1).size
    go_wp2_with fail
    go_ret
    exact ⟨rfl, hB⟩
  go_wp2_with fail
  refine (szDrop_yes n t (1048576) _ (by omega) hmd0 (by rw [← HZ0.out]; omega)).mono ?_
  rintro e w1 ⟨he, k1⟩
  have s1 := k1.size
  replace hB := k1.base hB (by omega) (by omega)
  replace cL00 := cell_keepT cL00 lL0 k1 (by omega)
  replace cL01 := cell_keepT cL01 lL0 k1 (by omega)
  replace lL0 := Nat.lt_of_lt_of_le lL0 (k1).size
  rw [← HZ0.out] at he
  obtain ⟨left0, hleft0⟩ : ∃ zz : Nat, zz = 1048576 - z0 := ⟨_, rfl⟩
  have HL0 := Lib.hid hleft0
  rw [← hleft0] at he
  have hlb0 : left0 ≤ 1048576 := by omega
  clear hleft0
  subst he
  have hln0 : ¬ (left0 : Int) < 0 := by omega
  by_cases hbz1 : left0 < z1
  · go_wp2_with fail
    refine (szStringS_no _ l (left0) _ (HV1.out.below hB) hmx1 (by rw [← HZ1.out]; omega) (by omega)).mono ?_
    rintro e w2 ⟨rfl, k2⟩
    have s2 := k2.size
    replace hB := k2.base hB (by omega) (by omega)
    replace cL00 := cell_keepT cL00 lL0 k2 (by omega)
    replace cL01 := cell_keepT cL01 lL0 k2 (by omega)
    replace lL0 := Nat.lt_of_lt_of_le lL0 (k2).size
    go_wp2_with fail
    go_ret
    exact ⟨rfl, hB⟩
  go_wp2_with fail
  refine (szStringS_yes _ l (left0) _ (HV1.out.below hB) hmx1 (by rw [← HZ1.out]; omega) (by omega)).mono ?_
  rintro e w2 ⟨he, k2⟩
  have s2 := k2.size
  replace hB := k2.base hB (by omega) (by omega)
  replace cL00 := cell_keepT cL00 lL0 k2 (by omega)
  replace cL01 := cell_keepT cL01 lL0 k2 (by omega)
  replace lL0 := Nat.lt_of_lt_of_le lL0 (k2).size
  rw [← HZ1.out] at he
  obtain ⟨left1, hleft1⟩ : ∃ zz : Nat, zz = left0 - z1 := ⟨_, rfl⟩
  have HL1 := Lib.hid hleft1
  rw [← hleft1] at he
  have hlb1 : left1 ≤ 1048576 := by omega
  clear hleft1
  subst he
  have hln1 : ¬ (left1 : Int) < 0 := by omega
  go_wp2_with fail
  refine (toDrop_own n t _).mono ?_
  rintro e w3 ⟨rfl, k3⟩
  have s3 := k3.size
  replace hB := k3.base hB (by omega) (by omega)
  replace cL00 := cell_keepT cL00 lL0 k3 (by omega)
  replace cL01 := cell_keepT cL01 lL0 k3 (by omega)
  replace lL0 := Nat.lt_of_lt_of_le lL0 (k3).size
  go_wp2_with fail
  refine (toStringS_own _ l _ (HV1.out.below hB) (by rw [← HN1.out]; omega)).mono ?_
  rintro e w4 ⟨ta1, rfl, ota1, k4⟩
  have s4 := k4.size
  replace hB := k4.base hB (by omega) (by omega)
  replace cL00 := cell_keepT cL00 lL0 k4 (by omega)
  replace cL01 := cell_keepT cL01 lL0 k4 (by omega)
  replace lL0 := Nat.lt_of_lt_of_le lL0 (k4).size
  go_wp2_with fail
  refine (sIsDrop_own _ n t l _ ota1.seen).mono ?_
  rintro e w5 ⟨rfl, k5⟩
  have s5 := k5.size
  replace hB := k5.base hB (by omega) (by omega)
  replace ota1 := ota1.keep k5 (by omega)
  replace cL00 := cell_keepT cL00 lL0 k5 (by omega)
  replace cL01 := cell_keepT cL01 lL0 k5 (by omega)
  replace lL0 := Nat.lt_of_lt_of_le lL0 (k5).size
  go_wp2_with fail
  refine (toStringS_own _ l _ (HV1.out.below hB) (by rw [← HN1.out]; omega)).mono ?_
  rintro e w6 ⟨x1, rfl, ox1, k6⟩
  have s6 := k6.size
  replace hB := k6.base hB (by omega) (by omega)
  replace cL00 := cell_keepT cL00 lL0 k6 (by omega)
  replace cL01 := cell_keepT cL01 lL0 k6 (by omega)
  replace lL0 := Nat.lt_of_lt_of_le lL0 (k6).size
  go_wp2_with fail
  refine (toDrop_own n t _).mono ?_
  rintro e w7 ⟨rfl, k7⟩
  have s7 := k7.size
  replace hB := k7.base hB (by omega) (by omega)
  replace ox1 := ox1.keep k7 (by omega)
  replace cL00 := cell_keepT cL00 lL0 k7 (by omega)
  replace cL01 := cell_keepT cL01 lL0 k7 (by omega)
  replace lL0 := Nat.lt_of_lt_of_le lL0 (k7).size
  go_wp2_with fail
  refine (isDrop_own _ n t l _ ox1.seen (ht.below hB h0) (by have := hB.size; omega)).mono ?_
  rintro e w8 ⟨rfl, k8⟩
  have s8 := k8.size
  replace hB := k8.base hB (by omega) (by omega)
  replace ox1 := ox1.keep k8 (by omega)
  replace cL00 := cell_keepT cL00 lL0 k8 (by omega)
  replace cL01 := cell_keepT cL01 lL0 k8 (by omega)
  replace lL0 := Nat.lt_of_lt_of_le lL0 (k8).size
  go_wp2_with fail
  refine (toStringS_own _ l _ (HV1.out.below hB) (by rw [← HN1.out]; omega)).mono ?_
  rintro e w9 ⟨tb1, rfl, otb1, k9⟩
  have s9 := k9.size
  replace hB := k9.base hB (by omega) (by omega)
  replace ox1 := ox1.keep k9 (by omega)
  replace cL00 := cell_keepT cL00 lL0 k9 (by omega)
  replace cL01 := cell_keepT cL01 lL0 k9 (by omega)
  replace lL0 := Nat.lt_of_lt_of_le lL0 (k9).size
  go_wp2_with fail
  refine (eqStringS_same _ _ l _ ox1.seen otb1.seen).mono ?_
  rintro e w10 ⟨rfl, k10⟩
  have s10 := k10.size
  replace hB := k10.base hB (by omega) (by omega)
  replace ox1 := ox1.keep k10 (by omega)
  replace otb1 := otb1.keep k10 (by omega)
  replace cL00 := cell_keepT cL00 lL0 k10 (by omega)
  replace cL01 := cell_keepT cL01 lL0 k10 (by omega)
  replace lL0 := Nat.lt_of_lt_of_le lL0 (k10).size
  go_wp2_with fail
  go_ret
  exact ⟨rfl, hB⟩

set_option maxRecDepth 100000 in
theorem walk_FnExactIsDrop : G294.LawWalk Tryd.prog 6 Tryd.f6 Rows.fnExactIsDropSpec.vars false (fun W => laidMetH Tryd.prog Rows.fnExactIsDropRow.laid W) := by
  intro H enc W base args ds gs before hval hW hX
  have hlt0 : ∀ p ∈ before, p.block < W.heap.size := fun p hp => hW.lt p hp
  obtain ⟨p, q, hA, hV, rfl, hfz, hnd⟩ := hW
  rw [Tryd.params6] at hA hval
  obtain ⟨u0, vs0, d0, ds0, p0, q0, hargs, rfl, rfl, t0, r0⟩ := trodAll_cons hA
  obtain ⟨u1, vs1, d1, ds1, p1, q1, rfl, rfl, rfl, t1, r1⟩ := trodAll_cons r0
  obtain ⟨rfl, rfl, rfl⟩ := trodAll_nil r1
  obtain rfl : args = #[u0, u1] := by cases args; simp_all
  obtain ⟨g0, t0d, rfl, md0⟩ := open_drop Tryd.underlying61 (by kernel_rfl) (by kernel_rfl) Tryd.underlying3 Tryd.underlying9 (hval 0 61 u0 rfl rfl) t0
  obtain ⟨l1, sn1, mx1⟩ := seen_strs Tryd.underlying23 Tryd.underlying9 (by kernel_rfl) (hval 1 23 u1 rfl rfl) t1 (fun x hx => hlt0 x (by simp [hx]))
  obtain ⟨ht, hs⟩ := tab_of (by kernel_rfl) hX 0 rfl (by kernel_rfl)
  exact exactIsDrop_walk g0 t0d u1 l1 W md0 sn1 mx1 ht hs

end Go.Proofs.YtjklngheehhggaaDoor
