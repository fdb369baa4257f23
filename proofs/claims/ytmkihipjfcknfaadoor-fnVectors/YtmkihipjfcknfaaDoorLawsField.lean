/- The walks of chapter 1's exact laws on bytes: at every argument the law returns true. -/
import Derived.Test.YtmkihipjfcknfaaDoorRows
import Derived.Test.YtmkihipjfcknfaaDoorFrame
import Derived.Test.YtmkihipjfcknfaaDoorFieldWalksB
set_option linter.unusedSimpArgs false
set_option linter.unusedVariables false
namespace Go.Proofs.YtmkihipjfcknfaaDoor
open Go.ChangeShapes Go.WideShapes Go.ChangeAt Go.RowKit

theorem byte_of_wf {x : Int} (h : (Lit.int .u8 x).wf = true) : ∃ n : Nat, n < 256 ∧ x = n := by
  have hb := bounds_u8 h
  exact ⟨x.toNat, by omega, by omega⟩
theorem tab_of {laid : List (String × DataW Unit)} {W : World} (hpl : (laid.all fun x => x.2.handleName?.isNone) = true) (h : laidMetH Tryd.prog laid W) (i : Nat) {name : String}
    (hi : laid[i]? = some (name, Lib.tabData .u8 [27, 54, 108, 216, 171, 77, 154])) (hg : Tryd.prog.globalNamed name = some 0) : Tab W ∧ 0 < W.heap.size := by
  obtain ⟨hc, hs⟩ := G294.tab_of_laid hpl h i (g := 0) (t := 67) (e := 5) (n := 7) hi hg (by kernel_rfl) Tryd.underlying67 Tryd.underlying5 (by kernel_rfl) (by kernel_rfl)
  refine ⟨fun k hk => ?_, hs⟩
  have := hc k (by simpa using hk)
  rw [this]
  have : k = 0 ∨ k = 1 ∨ k = 2 ∨ k = 3 ∨ k = 4 ∨ k = 5 ∨ k = 6 := by omega
  rcases this with rfl | rfl | rfl | rfl | rfl | rfl | rfl <;> rfl

theorem bne_same (a : Nat) : ((a : Int) != (a : Int)) = false := by simp

set_option maxHeartbeats 400000 in
theorem exactTimes_walk (a b : Nat) (ha : a < 256) (hb : b < 256) (w : World) (ht : Tab w) :
    Calls Tryd.prog 5 #[.int .u8 a, .int .u8 b] w fun e w' => e = .returned (.bool true) ∧ w = w' := by
  have hbn := bne_same (G294.gm a b)
  go_enter Tryd.func5, Tryd.ntmps5
  go_wp2_with fail
  refine (sTimes_any a b ha hb _).mono ?_
  rintro e w' ⟨rfl, rfl⟩
  go_wp2_with fail
  refine (times_any a b ha hb _ ht).mono ?_
  rintro e w' ⟨rfl, rfl⟩
  go_wp2_with fail
  go_ret
  exact ⟨rfl, rfl⟩
theorem walk_FnExactTimes : G294.LawWalk Tryd.prog 5 Tryd.f5 Rows.fnExactTimesSpec.vars false (fun W => laidMetH Tryd.prog Rows.fnExactTimesRow.laid W) := by
  intro H enc W base args ds gs before hval hW hX
  obtain ⟨p, q, hA, hV, rfl, hfz, hnd⟩ := hW
  rw [Tryd.params5] at hA hval
  obtain ⟨v0, v1, d0, d1, p0, p1, rfl, rfl, rfl, h0, h1⟩ := trodAll_two hA
  obtain ⟨a0, rfl, rfl, rfl, w0⟩ := open_int Tryd.underlying5 (hval 0 5 v0 rfl rfl) h0
  obtain ⟨a1, rfl, rfl, rfl, w1⟩ := open_int Tryd.underlying5 (hval 1 5 v1 rfl rfl) h1
  obtain ⟨a, ha, rfl⟩ := byte_of_wf w0
  obtain ⟨b, hb, rfl⟩ := byte_of_wf w1
  obtain ⟨ht, hs⟩ := tab_of (by kernel_rfl) hX 0 rfl (by kernel_rfl)
  exact (exactTimes_walk a b ha hb W ht).mono fun e w' ⟨he, hw⟩ => ⟨he, hw ▸ Below.refl _ _⟩

set_option maxHeartbeats 400000 in
theorem exactInverse_walk (a : Nat) (ha : a < 256) (w : World) (ht : Tab w) :
    Calls Tryd.prog 6 #[.int .u8 a] w fun e w' => e = .returned (.bool true) ∧ w = w' := by
  have hbn := bne_same (G294.gi a)
  go_enter Tryd.func6, Tryd.ntmps6
  go_wp2_with fail
  refine (sInverse_any a ha _).mono ?_
  rintro e w' ⟨rfl, rfl⟩
  go_wp2_with fail
  refine (inverse_any a ha _ ht).mono ?_
  rintro e w' ⟨rfl, rfl⟩
  go_wp2_with fail
  go_ret
  exact ⟨rfl, rfl⟩
theorem walk_FnExactInverse : G294.LawWalk Tryd.prog 6 Tryd.f6 Rows.fnExactInverseSpec.vars false (fun W => laidMetH Tryd.prog Rows.fnExactInverseRow.laid W) := by
  intro H enc W base args ds gs before hval hW hX
  obtain ⟨p, q, hA, hV, rfl, hfz, hnd⟩ := hW
  rw [Tryd.params6] at hA hval
  obtain ⟨v0, d0, rfl, rfl, h0⟩ := trodAll_one hA
  obtain ⟨a0, rfl, rfl, rfl, w0⟩ := open_int Tryd.underlying5 (hval 0 5 v0 rfl rfl) h0
  obtain ⟨a, ha, rfl⟩ := byte_of_wf w0
  obtain ⟨ht, hs⟩ := tab_of (by kernel_rfl) hX 0 rfl (by kernel_rfl)
  exact (exactInverse_walk a ha W ht).mono fun e w' ⟨he, hw⟩ => ⟨he, hw ▸ Below.refl _ _⟩

theorem powV_cases (a : Nat) (n : Int) : ∃ (x : Nat) (b : Bool), powV a n = .tuple #[.int .u8 x, .bool b] := by
  unfold powV; split
  · exact ⟨_, _, rfl⟩
  · exact ⟨0, _, rfl⟩
theorem logV_cases (a : Nat) : ∃ (x : Nat) (b : Bool), logV a = .tuple #[.int .i64 x, .bool b] := by
  unfold logV; split
  · exact ⟨0, _, rfl⟩
  · exact ⟨_, _, rfl⟩

set_option maxHeartbeats 400000 in
theorem exactPower_walk (a : Nat) (n : Int) (ha : a < 256) (w : World) (ht : Tab w) :
    Calls Tryd.prog 7 #[.int .u8 a, .int .i64 n] w fun e w' => e = .returned (.bool true) ∧ w = w' := by
  obtain ⟨x, b, hv⟩ := powV_cases a n
  have HV := Lib.hid hv
  clear hv
  have hbn := bne_same x
  have hbb : (b != b) = false := by simp
  go_enter Tryd.func7, Tryd.ntmps7
  go_wp2_with fail
  refine (sPower_any a n ha _).mono ?_
  rintro e w' ⟨rfl, rfl⟩
  rw [HV.out]
  go_wp2_with fail
  refine (power_any a n ha _ ht).mono ?_
  rintro e w' ⟨rfl, rfl⟩
  rw [HV.out]
  go_wp2_with fail
  go_ret
  exact ⟨rfl, rfl⟩
theorem walk_FnExactPower : G294.LawWalk Tryd.prog 7 Tryd.f7 Rows.fnExactPowerSpec.vars false (fun W => laidMetH Tryd.prog Rows.fnExactPowerRow.laid W) := by
  intro H enc W base args ds gs before hval hW hX
  obtain ⟨p, q, hA, hV, rfl, hfz, hnd⟩ := hW
  rw [Tryd.params7] at hA hval
  obtain ⟨v0, v1, d0, d1, p0, p1, rfl, rfl, rfl, h0, h1⟩ := trodAll_two hA
  obtain ⟨a0, rfl, rfl, rfl, w0⟩ := open_int Tryd.underlying5 (hval 0 5 v0 rfl rfl) h0
  obtain ⟨a1, rfl, rfl, rfl, w1⟩ := open_int Tryd.underlying3 (hval 1 3 v1 rfl rfl) h1
  obtain ⟨a, ha, rfl⟩ := byte_of_wf w0
  obtain ⟨ht, hs⟩ := tab_of (by kernel_rfl) hX 0 rfl (by kernel_rfl)
  exact (exactPower_walk a a1 ha W ht).mono fun e w' ⟨he, hw⟩ => ⟨he, hw ▸ Below.refl _ _⟩

set_option maxHeartbeats 400000 in
theorem exactLogOf_walk (a : Nat) (ha : a < 256) (w : World) (ht : Tab w) :
    Calls Tryd.prog 8 #[.int .u8 a] w fun e w' => e = .returned (.bool true) ∧ w = w' := by
  obtain ⟨x, b, hv⟩ := logV_cases a
  have HV := Lib.hid hv
  clear hv
  have hbn := bne_same x
  have hbb : (b != b) = false := by simp
  go_enter Tryd.func8, Tryd.ntmps8
  go_wp2_with fail
  refine (sLogOf_any a ha _).mono ?_
  rintro e w' ⟨rfl, rfl⟩
  rw [HV.out]
  go_wp2_with fail
  refine (logOf_any a ha _ ht).mono ?_
  rintro e w' ⟨rfl, rfl⟩
  rw [HV.out]
  go_wp2_with fail
  go_ret
  exact ⟨rfl, rfl⟩
theorem walk_FnExactLogOf : G294.LawWalk Tryd.prog 8 Tryd.f8 Rows.fnExactLogOfSpec.vars false (fun W => laidMetH Tryd.prog Rows.fnExactLogOfRow.laid W) := by
  intro H enc W base args ds gs before hval hW hX
  obtain ⟨p, q, hA, hV, rfl, hfz, hnd⟩ := hW
  rw [Tryd.params8] at hA hval
  obtain ⟨v0, d0, rfl, rfl, h0⟩ := trodAll_one hA
  obtain ⟨a0, rfl, rfl, rfl, w0⟩ := open_int Tryd.underlying5 (hval 0 5 v0 rfl rfl) h0
  obtain ⟨a, ha, rfl⟩ := byte_of_wf w0
  obtain ⟨ht, hs⟩ := tab_of (by kernel_rfl) hX 0 rfl (by kernel_rfl)
  exact (exactLogOf_walk a ha W ht).mono fun e w' ⟨he, hw⟩ => ⟨he, hw ▸ Below.refl _ _⟩
end Go.Proofs.YtmkihipjfcknfaaDoor
