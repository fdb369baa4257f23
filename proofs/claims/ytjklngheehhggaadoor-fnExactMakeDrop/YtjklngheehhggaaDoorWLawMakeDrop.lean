/- The walk of FnExactMakeDrop. -/
import Derived.Test.YtjklngheehhggaaDoorRows
import Derived.Test.YtjklngheehhggaaDoorBd00
import Derived.Test.YtjklngheehhggaaDoorBd01
import Derived.Test.YtjklngheehhggaaDoorBd04
import Derived.Test.YtjklngheehhggaaDoorBd17
set_option linter.unusedSimpArgs false
set_option linter.unusedVariables false
namespace Go.Proofs.YtjklngheehhggaaDoor
open Go.ChangeShapes Go.WideShapes Go.ChangeAt Go.RowKit G294

set_option maxRecDepth 100000 in
set_option maxHeartbeats 4000000 in
theorem exactMakeDrop_walk (v0 : Value) (l : List (List UInt8)) (s : Int) (w : World) (hv0 : Seen w v0 (strs l)) (hmx0 : ∀ s ∈ l, s.length ≤ maxLen) (ht : Tab w) (h0 : 1 < w.heap.size) :
    Calls Tryd.prog 4 #[v0, .int .i64 s] w fun e w' => e = .returned (.bool true) ∧ Below w.heap.size w w' := by
  obtain ⟨A0, cc0, hvv0⟩ := hv0.len
  rw [strs_length] at hvv0
  have hbb1 : (drpOk l s != drpOk l s) = false := by simp
  have HVV0 := Lib.hid hvv0
  rw [hvv0] at hv0 ⊢
  clear hvv0
  have HV0 := Lib.hid hv0
  clear hv0
  obtain ⟨z0, hz0⟩ : ∃ zz, zz = (l).length + sizM (l) := ⟨_, rfl⟩
  have HZ0 := Lib.hid hz0
  have hnz0 : l.length ≤ z0 := by omega
  clear hz0
  obtain ⟨n0, hn0⟩ : ∃ zz, zz = l.length := ⟨_, rfl⟩
  have HN0 := Lib.hid hn0
  rw [← hn0] at HV0 hnz0 ⊢
  clear hn0
  have hB := Below.refl w.heap.size w
  go_enter Tryd.func4, Tryd.ntmps4
  by_cases hbz0 : 1048576 < z0
  · go_wp2_with fail
    refine (szStringS_no _ l (1048576) _ (HV0.out.below hB) hmx0 (by rw [← HZ0.out]; omega) (by omega)).mono ?_
    rintro e w1 ⟨rfl, k1⟩
    have s1 := k1.size
    replace hB := k1.base hB (by omega) (by omega)
    go_wp2_with fail
    go_ret
    exact ⟨rfl, hB⟩
  go_wp2_with fail
  refine (szStringS_yes _ l (1048576) _ (HV0.out.below hB) hmx0 (by rw [← HZ0.out]; omega) (by omega)).mono ?_
  rintro e w1 ⟨he, k1⟩
  have s1 := k1.size
  replace hB := k1.base hB (by omega) (by omega)
  rw [← HZ0.out] at he
  obtain ⟨left0, hleft0⟩ : ∃ zz : Nat, zz = 1048576 - z0 := ⟨_, rfl⟩
  have HL0 := Lib.hid hleft0
  rw [← hleft0] at he
  have hlb0 : left0 ≤ 1048576 := by omega
  clear hleft0
  subst he
  have hln0 : ¬ (left0 : Int) < 0 := by omega
  go_wp2_with fail
  refine (toStringS_own _ l _ (HV0.out.below hB) (by rw [← HN0.out]; omega)).mono ?_
  rintro e w2 ⟨ta0, rfl, ota0, k2⟩
  have s2 := k2.size
  replace hB := k2.base hB (by omega) (by omega)
  go_wp2_with fail
  refine (sMakeDrop_own _ l s _ ota0.seen).mono ?_
  rintro e w3 ⟨rfl, k3⟩
  have s3 := k3.size
  replace hB := k3.base hB (by omega) (by omega)
  replace ota0 := ota0.keep k3 (by omega)
  have a1 := turn_alloc w3 (.cells #[.int .i64 (drpR l s).1, .string (str (drpR l s).2)] 27)
  have z1a := World.size_alloc w3 (.cells #[.int .i64 (drpR l s).1, .string (str (drpR l s).2)] 27)
  replace hB := a1.base hB (by omega) (by omega)
  have cs0 := alloc_duo0 w3 (.int .i64 (drpR l s).1) (.string (str (drpR l s).2)) 27
  have ds0 := alloc_duo1 w3 (.int .i64 (drpR l s).1) (.string (str (drpR l s).2)) 27
  have ls0 := alloc_lt w3 (.cells #[.int .i64 (drpR l s).1, .string (str (drpR l s).2)] 27)
  go_wp2_with fail
  refine (toStringS_own _ l _ (HV0.out.below hB) (by rw [← HN0.out]; omega)).mono ?_
  rintro e w4 ⟨x0, rfl, ox0, k4⟩
  have s4 := k4.size
  replace hB := k4.base hB (by omega) (by omega)
  replace cs0 := cell_turn k4 cs0 ls0
  replace ds0 := cell_turn k4 ds0 ls0
  replace ls0 := Nat.lt_of_lt_of_le ls0 (k4).size
  go_wp2_with fail
  refine (makeDrop_own _ l s _ ox0.seen (ht.below hB h0) (by have := hB.size; omega)).mono ?_
  rintro e w5 ⟨rfl, k5⟩
  have s5 := k5.size
  replace hB := k5.base hB (by omega) (by omega)
  replace ox0 := ox0.keep k5 (by omega)
  replace cs0 := cell_turn k5 cs0 ls0
  replace ds0 := cell_turn k5 ds0 ls0
  replace ls0 := Nat.lt_of_lt_of_le ls0 (k5).size
  have a2 := turn_alloc w5 (.cells #[.int .i64 (drpR l s).1, .string (str (drpR l s).2)] 27)
  have z2a := World.size_alloc w5 (.cells #[.int .i64 (drpR l s).1, .string (str (drpR l s).2)] 27)
  replace hB := a2.base hB (by omega) (by omega)
  replace ox0 := ox0.keep a2 (by omega)
  replace cs0 := cell_turn a2 cs0 ls0
  replace ds0 := cell_turn a2 ds0 ls0
  replace ls0 := Nat.lt_of_lt_of_le ls0 (a2).size
  have cg0 := alloc_duo0 w5 (.int .i64 (drpR l s).1) (.string (str (drpR l s).2)) 27
  have dg0 := alloc_duo1 w5 (.int .i64 (drpR l s).1) (.string (str (drpR l s).2)) 27
  have lg0 := alloc_lt w5 (.cells #[.int .i64 (drpR l s).1, .string (str (drpR l s).2)] 27)
  go_wp2_with fail
  refine (eqDrop_same (drpR l s).1 (drpR l s).2 _).mono ?_
  rintro e w6 ⟨rfl, k6⟩
  have s6 := k6.size
  replace hB := k6.base hB (by omega) (by omega)
  replace ox0 := ox0.keep k6 (by omega)
  replace cs0 := cell_turn k6 cs0 ls0
  replace ds0 := cell_turn k6 ds0 ls0
  replace ls0 := Nat.lt_of_lt_of_le ls0 (k6).size
  replace cg0 := cell_turn k6 cg0 lg0
  replace dg0 := cell_turn k6 dg0 lg0
  replace lg0 := Nat.lt_of_lt_of_le lg0 (k6).size
  go_wp2_with fail
  refine (toStringS_own _ l _ (HV0.out.below hB) (by rw [← HN0.out]; omega)).mono ?_
  rintro e w7 ⟨tb0, rfl, otb0, k7⟩
  have s7 := k7.size
  replace hB := k7.base hB (by omega) (by omega)
  replace ox0 := ox0.keep k7 (by omega)
  replace cs0 := cell_turn k7 cs0 ls0
  replace ds0 := cell_turn k7 ds0 ls0
  replace ls0 := Nat.lt_of_lt_of_le ls0 (k7).size
  replace cg0 := cell_turn k7 cg0 lg0
  replace dg0 := cell_turn k7 dg0 lg0
  replace lg0 := Nat.lt_of_lt_of_le lg0 (k7).size
  go_wp2_with fail
  refine (eqStringS_same _ _ l _ ox0.seen otb0.seen).mono ?_
  rintro e w8 ⟨rfl, k8⟩
  have s8 := k8.size
  replace hB := k8.base hB (by omega) (by omega)
  replace ox0 := ox0.keep k8 (by omega)
  replace otb0 := otb0.keep k8 (by omega)
  replace cs0 := cell_turn k8 cs0 ls0
  replace ds0 := cell_turn k8 ds0 ls0
  replace ls0 := Nat.lt_of_lt_of_le ls0 (k8).size
  replace cg0 := cell_turn k8 cg0 lg0
  replace dg0 := cell_turn k8 dg0 lg0
  replace lg0 := Nat.lt_of_lt_of_le lg0 (k8).size
  go_wp2_with fail
  go_ret
  exact ⟨rfl, hB⟩

set_option maxRecDepth 100000 in
theorem walk_FnExactMakeDrop : G294.LawWalk Tryd.prog 4 Tryd.f4 Rows.fnExactMakeDropSpec.vars false (fun W => laidMetH Tryd.prog Rows.fnExactMakeDropRow.laid W) := by
  intro H enc W base args ds gs before hval hW hX
  have hlt0 : ∀ p ∈ before, p.block < W.heap.size := fun p hp => hW.lt p hp
  obtain ⟨p, q, hA, hV, rfl, hfz, hnd⟩ := hW
  rw [Tryd.params4] at hA hval
  obtain ⟨u0, vs0, d0, ds0, p0, q0, hargs, rfl, rfl, t0, r0⟩ := trodAll_cons hA
  obtain ⟨u1, vs1, d1, ds1, p1, q1, rfl, rfl, rfl, t1, r1⟩ := trodAll_cons r0
  obtain ⟨rfl, rfl, rfl⟩ := trodAll_nil r1
  obtain rfl : args = #[u0, u1] := by cases args; simp_all
  obtain ⟨l0, sn0, mx0⟩ := seen_strs Tryd.underlying23 Tryd.underlying9 (by kernel_rfl) (hval 0 23 u0 rfl rfl) t0 (fun x hx => hlt0 x (by simp [hx]))
  obtain ⟨a1, rfl, rfl, rfl, wf1⟩ := open_int Tryd.underlying3 (hval 1 3 u1 rfl rfl) t1
  obtain ⟨ht, hs⟩ := tab_of (by kernel_rfl) hX 0 rfl (by kernel_rfl)
  exact exactMakeDrop_walk u0 l0 a1 W sn0 mx0 ht hs

end Go.Proofs.YtjklngheehhggaaDoor
