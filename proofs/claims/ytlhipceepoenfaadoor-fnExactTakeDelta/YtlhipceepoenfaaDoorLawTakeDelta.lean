/- The walk of FnExactTakeDelta. -/
import Derived.Test.YtlhipceepoenfaaDoorRows
import Derived.Test.YtlhipceepoenfaaDoorOpenStrs
import Derived.Test.YtlhipceepoenfaaDoorFrame
import Derived.Test.YtlhipceepoenfaaDoorNumT3
import Derived.Test.YtlhipceepoenfaaDoorNumU
set_option linter.unusedSimpArgs false
set_option linter.unusedVariables false
namespace Go.Proofs.YtlhipceepoenfaaDoor
open Go.ChangeShapes Go.WideShapes Go.ChangeAt Go.RowKit G294

set_option maxRecDepth 100000 in
set_option maxHeartbeats 4000000 in
theorem exactTakeDelta_walk (s : List UInt8) (w : World) :
    Calls Tryd.prog 4 #[.string (str s)] w fun e w' => e = .returned (.bool true) ∧ Below w.heap.size w w' := by
  have hts0 := str_size s
  obtain ⟨n0, hn0⟩ : ∃ zz, zz = s.length := ⟨_, rfl⟩
  have HN0 := Lib.hid hn0
  rw [← hn0] at hts0
  clear hn0
  have hbb0 : ((tkA (tkD s) : Int) != (tkA (tkD s) : Int)) = false := by simp
  have hbb1 : ((tkB (tkD s) : Int) != (tkB (tkD s) : Int)) = false := by simp
  have hbb2 : (tkO (tkD s) != tkO (tkD s)) = false := by simp
  have hB := Below.refl w.heap.size w
  by_cases hbig0 : 1048576 < n0
  · go_enter Tryd.func4, Tryd.ntmps4
    go_wp2_with fail
    go_ret
    exact ⟨rfl, hB⟩
  go_enter Tryd.func4, Tryd.ntmps4
  go_wp2_with fail
  refine (sTakeDelta_tk s _ (by rw [← HN0.out]; omega)).mono ?_
  rintro e w1 ⟨rfl, k1⟩
  have s1 := k1.size
  replace hB := k1.base hB (by omega) (by omega)
  go_wp2_with fail
  refine (takeDelta_own s _ (by rw [← HN0.out]; omega)).mono ?_
  rintro e w2 ⟨rfl, k2⟩
  have s2 := k2.size
  replace hB := k2.base hB (by omega) (by omega)
  go_wp2_with fail
  go_ret
  exact ⟨rfl, hB⟩

set_option maxRecDepth 100000 in
theorem walk_FnExactTakeDelta : G294.LawWalk Tryd.prog 4 Tryd.f4 Rows.fnExactTakeDeltaSpec.vars false (fun _ => True) := by
  intro H enc W base args ds gs before hval hW hX
  have hlt0 : ∀ p ∈ before, p.block < W.heap.size := fun p hp => hW.lt p hp
  obtain ⟨p, q, hA, hV, rfl, hfz, hnd⟩ := hW
  rw [Tryd.params4] at hA hval
  obtain ⟨u0, vs0, d0, ds0, p0, q0, hargs, rfl, rfl, t0, r0⟩ := trodAll_cons hA
  obtain ⟨rfl, rfl, rfl⟩ := trodAll_nil r0
  obtain rfl : args = #[u0] := by cases args; simp_all
  obtain ⟨l0, rfl⟩ := open_text Tryd.underlying9 (hval 0 9 u0 rfl rfl) t0
  exact exactTakeDelta_walk l0 W

end Go.Proofs.YtlhipceepoenfaaDoor
