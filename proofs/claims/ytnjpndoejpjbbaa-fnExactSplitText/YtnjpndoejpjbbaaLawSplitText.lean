/- The walk of FnExactSplitText. -/
import Derived.Test.YtnjpndoejpjbbaaRows
import Derived.Test.YtnjpndoejpjbbaaOpenArgs
import Derived.Test.YtnjpndoejpjbbaaOpenStrs
import Derived.Test.YtnjpndoejpjbbaaSplitI
import Derived.Test.YtnjpndoejpjbbaaFrame
set_option linter.unusedSimpArgs false
set_option linter.unusedVariables false
namespace Go.Proofs.Ytnjpndoejpjbbaa
open Go.ChangeShapes Go.WideShapes Go.ChangeAt Go.RowKit G294

theorem splitR_len (s : List UInt8) (k : Int) : (splitR s k).length ≤ 8 := by
  unfold splitR; split
  · rename_i h
    have : dataOk k = true := by simp only [splitOk, Bool.and_eq_true] at h; exact h.1
    have : 1 ≤ k ∧ k ≤ 8 := by simpa [dataOk] using this
    simp; omega
  · simp

set_option maxRecDepth 100000 in
set_option maxHeartbeats 4000000 in
theorem exactSplitText_walk (s : List UInt8) (k : Int) (w : World) :
    Calls Try.prog 4 #[.string (str s), .int .i64 k] w fun e w' => e = .returned (.bool true) ∧ Below w.heap.size w w' := by
  have hts0 := str_size s
  obtain ⟨n0, hn0⟩ : ∃ zz, zz = s.length := ⟨_, rfl⟩
  have HN0 := Lib.hid hn0
  rw [← hn0] at hts0
  clear hn0
  have hbb1 : (splitOk s k != splitOk s k) = false := by simp
  have hB := Below.refl w.heap.size w
  by_cases hbig0 : 1048576 < n0
  · go_enter Try.func4, Try.ntmps4
    go_wp2_with fail
    go_ret
    exact ⟨rfl, hB⟩
  go_enter Try.func4, Try.ntmps4
  go_wp2_with fail
  refine (sSplitText_own s k _ (by rw [← HN0.out]; omega)).mono ?_
  rintro e w1 ⟨s0, rfl, os0, k1⟩
  have s1 := k1.size
  replace hB := k1.base hB (by omega) (by omega)
  go_wp2_with fail
  refine (splitText_own s k _ (by rw [← HN0.out]; omega)).mono ?_
  rintro e w2 ⟨g0, rfl, og0, k2⟩
  have s2 := k2.size
  replace hB := k2.base hB (by omega) (by omega)
  replace os0 := os0.keep k2 (by omega)
  go_wp2_with fail
  refine (eqStringS_same _ _ (splitR s k) _ og0.seen os0.seen).mono ?_
  rintro e w3 ⟨rfl, k3⟩
  have s3 := k3.size
  replace hB := k3.base hB (by omega) (by omega)
  replace os0 := os0.keep k3 (by omega)
  replace og0 := og0.keep k3 (by omega)
  have hk0 : ¬ (1 : Int) < 0 := by omega
  obtain ⟨r0, hr0⟩ : ∃ zz : Nat, zz = 1 + (splitR s k).length := ⟨_, rfl⟩
  have HR0 := Lib.hid hr0
  clear hr0
  have hrb0 : r0 ≤ 100000000 := by have := splitR_len s k; rw [HR0.out]; omega
  go_wp2_with fail
  refine (markStringS_own _ (splitR s k) 1 _ _ _ og0 (by omega) (by rw [← HR0.out]; omega)).mono ?_
  rintro e w4 ⟨he, og0, k4⟩
  have s4 := k4.size
  replace hB := k4.base hB (by omega) (by omega)
  replace os0 := os0.keep k4 (by omega)
  rw [← HR0.out] at he
  subst he
  go_wp2_with fail
  refine (heldStringS_own _ 1 (splitR s k).length _ og0.seen (by omega) (by rw [← HR0.out]; omega)).mono ?_
  rintro e w5 ⟨he, k5⟩
  have s5 := k5.size
  replace hB := k5.base hB (by omega) (by omega)
  replace os0 := os0.keep k5 (by omega)
  replace og0 := og0.keep k5 (by omega)
  rw [← HR0.out] at he
  subst he
  have hq0 : ¬ (r0 : Int) < 0 := by omega
  have hqq : ((r0 : Int) != (r0 : Int)) = false := by simp
  go_wp2_with fail
  refine (splitText_own s k _ (by rw [← HN0.out]; omega)).mono ?_
  rintro e w6 ⟨h0, rfl, oh0, k6⟩
  have s6 := k6.size
  replace hB := k6.base hB (by omega) (by omega)
  replace os0 := os0.keep k6 (by omega)
  replace og0 := og0.keep k6 (by omega)
  go_wp2_with fail
  refine (eqStringS_same _ _ (splitR s k) _ oh0.seen os0.seen).mono ?_
  rintro e w7 ⟨rfl, k7⟩
  have s7 := k7.size
  replace hB := k7.base hB (by omega) (by omega)
  replace os0 := os0.keep k7 (by omega)
  replace og0 := og0.keep k7 (by omega)
  replace oh0 := oh0.keep k7 (by omega)
  go_wp2_with fail
  refine (heldStringS_own _ 1 (splitR s k).length _ og0.seen (by omega) (by rw [← HR0.out]; omega)).mono ?_
  rintro e w8 ⟨he, k8⟩
  have s8 := k8.size
  replace hB := k8.base hB (by omega) (by omega)
  replace os0 := os0.keep k8 (by omega)
  replace og0 := og0.keep k8 (by omega)
  replace oh0 := oh0.keep k8 (by omega)
  rw [← HR0.out] at he
  subst he
  have hq0 : ¬ (r0 : Int) < 0 := by omega
  have hqq : ((r0 : Int) != (r0 : Int)) = false := by simp
  go_wp2_with fail
  go_ret
  exact ⟨rfl, hB⟩

set_option maxRecDepth 100000 in
theorem walk_FnExactSplitText : G294.LawWalk Try.prog 4 Try.f4 Rows.fnExactSplitTextSpec.vars false (fun _ => True) := by
  intro H enc W base args ds gs before hval hW hX
  have hlt0 : ∀ p ∈ before, p.block < W.heap.size := fun p hp => hW.lt p hp
  obtain ⟨p, q, hA, hV, rfl, hfz, hnd⟩ := hW
  rw [Try.params4] at hA hval
  obtain ⟨u0, vs0, d0, ds0, p0, q0, hargs, rfl, rfl, t0, r0⟩ := trodAll_cons hA
  obtain ⟨u1, vs1, d1, ds1, p1, q1, rfl, rfl, rfl, t1, r1⟩ := trodAll_cons r0
  obtain ⟨rfl, rfl, rfl⟩ := trodAll_nil r1
  obtain rfl : args = #[u0, u1] := by cases args; simp_all
  obtain ⟨l0, rfl⟩ := open_text Try.underlying9 (hval 0 9 u0 rfl rfl) t0
  obtain ⟨a1, rfl, rfl, rfl, wf1⟩ := open_int Try.underlying3 (hval 1 3 u1 rfl rfl) t1
  exact exactSplitText_walk l0 a1 W

end Go.Proofs.Ytnjpndoejpjbbaa
