/- The walk of FnExactDecodeBits. -/
import Derived.Test.YtjgmegfbfjmnfaaRows
import Derived.Test.YtjgmegfbfjmnfaaBd08
set_option linter.unusedSimpArgs false
set_option linter.unusedVariables false
namespace Go.Proofs.Ytjgmegfbfjmnfaa
open Go.ChangeShapes Go.WideShapes Go.ChangeAt Go.RowKit G294

set_option maxRecDepth 100000 in
set_option maxHeartbeats 4000000 in
theorem exactDecodeBits_walk (r : List UInt8) (w : World) :
    Calls Try.prog 8 #[.string (str r)] w fun e w' => e = .returned (.bool true) ∧ Below w.heap.size w w' := by
  have hts0 := str_size r
  obtain ⟨n0, hn0⟩ : ∃ zz, zz = r.length := ⟨_, rfl⟩
  have HN0 := Lib.hid hn0
  rw [← hn0] at hts0
  clear hn0
  have hbb1 : (recOk r != recOk r) = false := by simp
  have hB := Below.refl w.heap.size w
  by_cases hbig0 : 1048576 < n0
  · go_enter Try.func8, Try.ntmps8
    go_wp2_with fail
    go_ret
    exact ⟨rfl, hB⟩
  go_enter Try.func8, Try.ntmps8
  go_wp2_with fail
  refine (sDecodeBits_own r _ (by rw [← HN0.out]; omega)).mono ?_
  rintro e w1 ⟨rfl, k1⟩
  have s1 := k1.size
  replace hB := k1.base hB (by omega) (by omega)
  have a1 := turn_alloc w1 (.cells #[.string (str (dcdR r).1), .int .i64 (dcdR r).2] 25)
  have z1a := World.size_alloc w1 (.cells #[.string (str (dcdR r).1), .int .i64 (dcdR r).2] 25)
  replace hB := a1.base hB (by omega) (by omega)
  have cs0 := alloc_duo0 w1 (.string (str (dcdR r).1)) (.int .i64 (dcdR r).2) 25
  have ds0 := alloc_duo1 w1 (.string (str (dcdR r).1)) (.int .i64 (dcdR r).2) 25
  have ls0 := alloc_lt w1 (.cells #[.string (str (dcdR r).1), .int .i64 (dcdR r).2] 25)
  go_wp2_with fail
  refine (decodeBits_own r _ (by rw [← HN0.out]; omega)).mono ?_
  rintro e w2 ⟨rfl, k2⟩
  have s2 := k2.size
  replace hB := k2.base hB (by omega) (by omega)
  replace cs0 := cell_turn k2 cs0 ls0
  replace ds0 := cell_turn k2 ds0 ls0
  replace ls0 := Nat.lt_of_lt_of_le ls0 (k2).size
  have a2 := turn_alloc w2 (.cells #[.string (str (dcdR r).1), .int .i64 (dcdR r).2] 25)
  have z2a := World.size_alloc w2 (.cells #[.string (str (dcdR r).1), .int .i64 (dcdR r).2] 25)
  replace hB := a2.base hB (by omega) (by omega)
  replace cs0 := cell_turn a2 cs0 ls0
  replace ds0 := cell_turn a2 ds0 ls0
  replace ls0 := Nat.lt_of_lt_of_le ls0 (a2).size
  have cg0 := alloc_duo0 w2 (.string (str (dcdR r).1)) (.int .i64 (dcdR r).2) 25
  have dg0 := alloc_duo1 w2 (.string (str (dcdR r).1)) (.int .i64 (dcdR r).2) 25
  have lg0 := alloc_lt w2 (.cells #[.string (str (dcdR r).1), .int .i64 (dcdR r).2] 25)
  go_wp2_with fail
  refine (eqPath_same (dcdR r).1 (dcdR r).2 _).mono ?_
  rintro e w3 ⟨rfl, k3⟩
  have s3 := k3.size
  replace hB := k3.base hB (by omega) (by omega)
  replace cs0 := cell_turn k3 cs0 ls0
  replace ds0 := cell_turn k3 ds0 ls0
  replace ls0 := Nat.lt_of_lt_of_le ls0 (k3).size
  replace cg0 := cell_turn k3 cg0 lg0
  replace dg0 := cell_turn k3 dg0 lg0
  replace lg0 := Nat.lt_of_lt_of_le lg0 (k3).size
  go_wp2_with fail
  go_ret
  exact ⟨rfl, hB⟩

set_option maxRecDepth 100000 in
theorem walk_FnExactDecodeBits : G294.LawWalk Try.prog 8 Try.f8 Rows.fnExactDecodeBitsSpec.vars false (fun _ => True) := by
  intro H enc W base args ds gs before hval hW hX
  have hlt0 : ∀ p ∈ before, p.block < W.heap.size := fun p hp => hW.lt p hp
  obtain ⟨p, q, hA, hV, rfl, hfz, hnd⟩ := hW
  rw [Try.params8] at hA hval
  obtain ⟨u0, vs0, d0, ds0, p0, q0, hargs, rfl, rfl, t0, r0⟩ := trodAll_cons hA
  obtain ⟨rfl, rfl, rfl⟩ := trodAll_nil r0
  obtain rfl : args = #[u0] := by cases args; simp_all
  obtain ⟨l0, rfl⟩ := open_text Try.underlying9 (hval 0 9 u0 rfl rfl) t0
  exact exactDecodeBits_walk l0 W

end Go.Proofs.Ytjgmegfbfjmnfaa
