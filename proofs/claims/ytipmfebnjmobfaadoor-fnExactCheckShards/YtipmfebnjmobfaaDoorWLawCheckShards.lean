/- The walk of FnExactCheckShards. -/
import Derived.Test.YtipmfebnjmobfaaDoorRows
import Derived.Test.YtipmfebnjmobfaaDoorBd11
import Derived.Test.YtipmfebnjmobfaaDoorBd12
import Derived.Test.YtipmfebnjmobfaaDoorBd15
set_option linter.unusedSimpArgs false
set_option linter.unusedVariables false
namespace Go.Proofs.YtipmfebnjmobfaaDoor
open Go.ChangeShapes Go.WideShapes Go.ChangeAt Go.RowKit G294

set_option maxRecDepth 100000 in
set_option maxHeartbeats 4000000 in
theorem exactCheckShards_walk (v0 : Value) (l : List Sh) (a : Int) (b : Int) (w : World) (hv0 : SeenH w v0 l) (hmx0 : ∀ s ∈ l, s.2.length ≤ maxLen) (ht : Tab w) (h0 : 1 < w.heap.size) :
    Calls Tryd.prog 5 #[v0, .int .i64 a, .int .i64 b] w fun e w' => e = .returned (.bool true) ∧ Below w.heap.size w w' := by
  obtain ⟨A0, cc0, hvv0⟩ := hv0.len
  have hbb0 : (chkR l a b != chkR l a b) = false := by simp
  have hbb1 : (decOk l a b != decOk l a b) = false := by simp
  have HVV0 := Lib.hid hvv0
  rw [hvv0] at hv0 ⊢
  clear hvv0
  have HV0 := Lib.hid hv0
  clear hv0
  obtain ⟨z0, hz0⟩ : ∃ zz, zz = (l).length + sizH (l) := ⟨_, rfl⟩
  have HZ0 := Lib.hid hz0
  have hnz0 : l.length ≤ z0 := by omega
  clear hz0
  obtain ⟨n0, hn0⟩ : ∃ zz, zz = l.length := ⟨_, rfl⟩
  have HN0 := Lib.hid hn0
  rw [← hn0] at HV0 hnz0 ⊢
  clear hn0
  have hB := Below.refl w.heap.size w
  go_enter Tryd.func5, Tryd.ntmps5
  by_cases hbz0 : 1048576 < z0
  · go_wp2_with fail
    refine (szShardS_no _ l (1048576) _ (HV0.out.below hB) hmx0 (by rw [← HZ0.out]; omega) (by omega)).mono ?_
    rintro e w1 ⟨rfl, k1⟩
    have s1 := k1.size
    replace hB := k1.base hB (by omega) (by omega)
    go_wp2_with fail
    go_ret
    exact ⟨rfl, hB⟩
  go_wp2_with fail
  refine (szShardS_yes _ l (1048576) _ (HV0.out.below hB) hmx0 (by rw [← HZ0.out]; omega) (by omega)).mono ?_
  rintro e w1 ⟨he, k1⟩
  have s1 := k1.size
  replace hB := k1.base hB (by omega) (by omega)
  rw [← HZ0.out] at he
  obtain ⟨left0, hleft0⟩ : ∃ zz : Nat, zz = 1048576 - z0 := ⟨_, rfl⟩
  have HL0 := Lib.hid hleft0
  rw [← hleft0] at he
  have hlb0 : left0 ≤ 1048576 := by omega
  clear hleft0
  subst he
  have hln0 : ¬ (left0 : Int) < 0 := by omega
  go_wp2_with fail
  refine (toShardS_own _ l _ (HV0.out.below hB) (by rw [← HN0.out]; omega)).mono ?_
  rintro e w2 ⟨ta0, rfl, ota0, k2⟩
  have s2 := k2.size
  replace hB := k2.base hB (by omega) (by omega)
  go_wp2_with fail
  refine (sCheckShards_own _ l a b _ ota0.seen).mono ?_
  rintro e w3 ⟨rfl, k3⟩
  have s3 := k3.size
  replace hB := k3.base hB (by omega) (by omega)
  replace ota0 := ota0.keep k3 (by omega)
  go_wp2_with fail
  refine (toShardS_own _ l _ (HV0.out.below hB) (by rw [← HN0.out]; omega)).mono ?_
  rintro e w4 ⟨x0, rfl, ox0, k4⟩
  have s4 := k4.size
  replace hB := k4.base hB (by omega) (by omega)
  go_wp2_with fail
  refine (checkShards_own _ l a b _ ox0.seen (by rw [← HN0.out]; omega) (ht.below hB h0) (by have := hB.size; omega)).mono ?_
  rintro e w5 ⟨rfl, k5⟩
  have s5 := k5.size
  replace hB := k5.base hB (by omega) (by omega)
  replace ox0 := ox0.keep k5 (by omega)
  go_wp2_with fail
  refine (toShardS_own _ l _ (HV0.out.below hB) (by rw [← HN0.out]; omega)).mono ?_
  rintro e w6 ⟨tb0, rfl, otb0, k6⟩
  have s6 := k6.size
  replace hB := k6.base hB (by omega) (by omega)
  replace ox0 := ox0.keep k6 (by omega)
  go_wp2_with fail
  refine (eqShardS_same _ _ l _ ox0.seen otb0.seen).mono ?_
  rintro e w7 ⟨rfl, k7⟩
  have s7 := k7.size
  replace hB := k7.base hB (by omega) (by omega)
  replace ox0 := ox0.keep k7 (by omega)
  replace otb0 := otb0.keep k7 (by omega)
  go_wp2_with fail
  go_ret
  exact ⟨rfl, hB⟩

set_option maxRecDepth 100000 in
theorem walk_FnExactCheckShards : G294.LawWalk Tryd.prog 5 Tryd.f5 Rows.fnExactCheckShardsSpec.vars false (fun W => laidMetH Tryd.prog Rows.fnExactCheckShardsRow.laid W) := by
  intro H enc W base args ds gs before hval hW hX
  have hlt0 : ∀ p ∈ before, p.block < W.heap.size := fun p hp => hW.lt p hp
  obtain ⟨p, q, hA, hV, rfl, hfz, hnd⟩ := hW
  rw [Tryd.params5] at hA hval
  obtain ⟨u0, vs0, d0, ds0, p0, q0, hargs, rfl, rfl, t0, r0⟩ := trodAll_cons hA
  obtain ⟨u1, vs1, d1, ds1, p1, q1, rfl, rfl, rfl, t1, r1⟩ := trodAll_cons r0
  obtain ⟨u2, vs2, d2, ds2, p2, q2, rfl, rfl, rfl, t2, r2⟩ := trodAll_cons r1
  obtain ⟨rfl, rfl, rfl⟩ := trodAll_nil r2
  obtain rfl : args = #[u0, u1, u2] := by cases args; simp_all
  obtain ⟨l0, sn0, mx0⟩ := seen_shs Tryd.underlying22 Tryd.underlying82 (by kernel_rfl) rfl rfl (by kernel_rfl) (by kernel_rfl) Tryd.underlying3 Tryd.underlying9 (hval 0 22 u0 rfl rfl) t0 (fun x hx => hlt0 x (by simp [hx]))
  obtain ⟨a1, rfl, rfl, rfl, wf1⟩ := open_int Tryd.underlying3 (hval 1 3 u1 rfl rfl) t1
  obtain ⟨a2, rfl, rfl, rfl, wf2⟩ := open_int Tryd.underlying3 (hval 2 3 u2 rfl rfl) t2
  obtain ⟨ht, hs⟩ := tab_of (by kernel_rfl) hX 0 rfl (by kernel_rfl)
  exact exactCheckShards_walk u0 l0 a1 a2 W sn0 mx0 ht hs

end Go.Proofs.YtipmfebnjmobfaaDoor
