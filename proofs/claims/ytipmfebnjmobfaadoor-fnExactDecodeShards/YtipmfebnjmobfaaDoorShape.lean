/- Shapes of codes: the program's goodDataCount and GoodShape, the model's GoodShape. -/
import Derived.Test.YtipmfebnjmobfaaDoorFieldWalksB
import Derived.Test.YtipmfebnjmobfaaDoorOwn
set_option linter.unusedSimpArgs false
set_option linter.unusedVariables false
namespace G294
open Go Go.RowKit
def dataOk (k : Int) : Bool := decide (1 ≤ k ∧ k ≤ 8)
def shapeOk (k m : Int) : Bool := dataOk k && decide (1 ≤ m ∧ m ≤ 6)
theorem shapeOk_b {k m : Int} (h : shapeOk k m = true) : (1 ≤ k ∧ k ≤ 8) ∧ 1 ≤ m ∧ m ≤ 6 := by simpa [shapeOk, dataOk] using h
end G294
namespace Go.Proofs.YtipmfebnjmobfaaDoor
open Go.RowKit G294

set_option maxHeartbeats 400000 in
theorem goodDataCount_any (n : Int) (w : World) : Calls Tryd.prog 77 #[.int .i64 n] w fun e w' => e = .returned (.bool (dataOk n)) ∧ w = w' := by
  by_cases h1 : 1 ≤ n
  · have hd : decide (1 ≤ n) = true := by simpa using h1
    by_cases h2 : n ≤ 8
    · have HV : Hid (dataOk n = true) := by show dataOk n = true; simp [dataOk, h1, h2]
      go_enter Tryd.func77, Tryd.ntmps77
      go_wp2_with fail
      go_ret
      exact ⟨by rw [HV.out]; simp [h2], rfl⟩
    · have HV : Hid (dataOk n = false) := by show dataOk n = false; simp [dataOk, h2]
      go_enter Tryd.func77, Tryd.ntmps77
      go_wp2_with fail
      go_ret
      exact ⟨by rw [HV.out]; simp [h2], rfl⟩
  · have hd : decide (1 ≤ n) = false := by simpa using h1
    have HV : Hid (dataOk n = false) := by show dataOk n = false; simp [dataOk, h1]
    go_enter Tryd.func77, Tryd.ntmps77
    go_wp2_with fail
    go_ret
    exact ⟨by rw [HV.out]; rfl, rfl⟩

set_option maxHeartbeats 1000000 in
theorem goodShape_any (k m : Int) (w : World) : Calls Tryd.prog 41 #[.int .i64 k, .int .i64 m] w fun e w' => e = .returned (.bool (shapeOk k m)) ∧ w = w' := by
  by_cases h : dataOk k = true
  · have HO := Lib.hid h
    clear h
    by_cases h1 : 1 ≤ m
    · have hd : decide (1 ≤ m) = true := by simpa using h1
      by_cases h2 : m ≤ 6
      · have hd2 : decide (m ≤ 6) = true := by simpa using h2
        have HV : Hid (shapeOk k m = true) := by show shapeOk k m = true; simp [shapeOk, HO.out, h1, h2]
        go_enter Tryd.func41, Tryd.ntmps41
        go_wp2_with fail
        refine (goodDataCount_any _ _).mono ?_
        rintro e w' ⟨rfl, rfl⟩
        rw [HO.out]
        go_wp2_with fail
        go_ret
        exact ⟨by rw [HV.out]; simp [h2], rfl⟩
      · have hd2 : decide (m ≤ 6) = false := by simpa using h2
        have HV : Hid (shapeOk k m = false) := by show shapeOk k m = false; simp [shapeOk, h2]
        go_enter Tryd.func41, Tryd.ntmps41
        go_wp2_with fail
        refine (goodDataCount_any _ _).mono ?_
        rintro e w' ⟨rfl, rfl⟩
        rw [HO.out]
        go_wp2_with fail
        go_ret
        exact ⟨by rw [HV.out]; simp [h2], rfl⟩
    · have hd : decide (1 ≤ m) = false := by simpa using h1
      have HV : Hid (shapeOk k m = false) := by show shapeOk k m = false; simp [shapeOk, h1]
      go_enter Tryd.func41, Tryd.ntmps41
      go_wp2_with fail
      refine (goodDataCount_any _ _).mono ?_
      rintro e w' ⟨rfl, rfl⟩
      rw [HO.out]
      go_wp2_with fail
      go_ret
      exact ⟨by rw [HV.out]; simp [h1], rfl⟩
  · have HO : Hid (dataOk k = false) := by show dataOk k = false; simpa using h
    have HV : Hid (shapeOk k m = false) := by show shapeOk k m = false; simp [shapeOk, HO.out]
    clear h
    go_enter Tryd.func41, Tryd.ntmps41
    go_wp2_with fail
    refine (goodDataCount_any _ _).mono ?_
    rintro e w' ⟨rfl, rfl⟩
    rw [HO.out]
    go_wp2_with fail
    go_ret
    exact ⟨by rw [HV.out]; rfl, rfl⟩

set_option maxHeartbeats 1000000 in
theorem sGoodShape_any (k m : Int) (w : World) : Calls Tryd.prog 60 #[.int .i64 k, .int .i64 m] w fun e w' => e = .returned (.bool (shapeOk k m)) ∧ w = w' := by
  by_cases h : dataOk k = true
  · have HO : Hid (inB k 1 8 = true) := h
    have HV : Hid (shapeOk k m = inB m 1 6) := by show shapeOk k m = inB m 1 6; simp [shapeOk, h, inB]
    clear h
    go_enter Tryd.func60, Tryd.ntmps60
    go_wp2_with fail
    refine (l1In_any _ _ _ _).mono ?_
    rintro e w' ⟨rfl, rfl⟩
    rw [HO.out]
    go_wp2_with fail
    refine (l1In_any _ _ _ _).mono ?_
    rintro e w' ⟨rfl, rfl⟩
    go_wp2_with fail
    go_ret
    exact ⟨by rw [HV.out]; rfl, rfl⟩
  · have HO : Hid (inB k 1 8 = false) := by show inB k 1 8 = false; simpa [dataOk, inB] using h
    have HV : Hid (shapeOk k m = false) := by show shapeOk k m = false; simp [shapeOk, h]
    clear h
    go_enter Tryd.func60, Tryd.ntmps60
    go_wp2_with fail
    refine (l1In_any _ _ _ _).mono ?_
    rintro e w' ⟨rfl, rfl⟩
    rw [HO.out]
    go_wp2_with fail
    go_ret
    exact ⟨by rw [HV.out]; rfl, rfl⟩

end Go.Proofs.YtipmfebnjmobfaaDoor
