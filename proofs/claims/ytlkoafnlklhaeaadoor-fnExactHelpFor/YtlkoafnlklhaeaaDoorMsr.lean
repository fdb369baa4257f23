/- Regenerating codes: which are valid, and their sizes, on both sides; the conversion of a code. -/
import Derived.Deep.QuietTactic
import Derived.BigQuiet
import Derived.Test.YtlkoafnlklhaeaaDoorFieldWalksB
import Derived.Test.YtlkoafnlklhaeaaDoorTurns
import Derived.Test.YtlkoafnlklhaeaaDoorOwn
import Derived.Test.YtlkoafnlklhaeaaDoorBoxes
set_option linter.unusedSimpArgs false
set_option linter.unusedVariables false
namespace G294
open Go Go.RowKit
/-- a code of n nodes, k of which suffice -/
abbrev msrV (n k : Int) : Value := .agg #[.int .i64 n, .int .i64 k]
def msrOk (n k : Int) : Bool := decide (2 ≤ k ∧ k ≤ 4) && decide (2 * k - 1 ≤ n ∧ n ≤ 14)
theorem msrOk_b {n k : Int} (h : msrOk n k = true) : (2 ≤ k ∧ k ≤ 4) ∧ 2 * k - 1 ≤ n ∧ n ≤ 14 := by simpa [msrOk] using h
theorem msrOk_k {n k : Int} (h : msrOk n k = true) : k = 2 ∨ k = 3 ∨ k = 4 := by have := msrOk_b h; omega
def msrA (n k : Int) : Int := if msrOk n k = true then k - 1 else 0
def msrD (n k : Int) : Int := if msrOk n k = true then 2 * (k - 1) else 0
def msrB (n k : Int) : Int := if msrOk n k = true then k * (k - 1) else 0
theorem msrA_yes {n k : Int} (h : msrOk n k = true) : msrA n k = k - 1 := if_pos h
theorem msrD_yes {n k : Int} (h : msrOk n k = true) : msrD n k = 2 * (k - 1) := if_pos h
theorem msrB_yes {n k : Int} (h : msrOk n k = true) : msrB n k = k * (k - 1) := if_pos h
theorem msrA_no {n k : Int} (h : msrOk n k = false) : msrA n k = 0 := if_neg (by rw [h]; simp)
theorem msrD_no {n k : Int} (h : msrOk n k = false) : msrD n k = 0 := if_neg (by rw [h]; simp)
theorem msrB_no {n k : Int} (h : msrOk n k = false) : msrB n k = 0 := if_neg (by rw [h]; simp)
theorem alloc_duo0 (w : World) (x y : Value) (T : TypeId) : (w.alloc (.cells #[x, y] T)).cell? ⟨w.heap.size, 0, none⟩ = some x := by simp
theorem alloc_duo1 (w : World) (x y : Value) (T : TypeId) : (w.alloc (.cells #[x, y] T)).cell? ⟨w.heap.size, 1, none⟩ = some y := by simp
def RetSizes (w : World) (a d b : Int) (ok : Bool) (e : Ending) (w' : World) : Prop := e = .returned (.tuple #[.int .i64 a, .int .i64 d, .int .i64 b, .bool ok]) ∧ TurnIn 0 0 w w'
end G294
namespace Go.Proofs.YtlkoafnlklhaeaaDoor
open Go.RowKit G294

set_option maxRecDepth 100000 in
set_option maxHeartbeats 1000000 in
theorem goodMsr_any (n k : Int) (w : World) : Calls Tryd.prog 138 #[msrV n k] w (RetBool w (msrOk n k)) := by
  have a1 := turn_alloc w (.cells #[.int .i64 n, .int .i64 k] 27)
  have cn := alloc_duo0 w (.int .i64 n) (.int .i64 k) 27
  have ck := alloc_duo1 w (.int .i64 n) (.int .i64 k) 27
  by_cases h1 : 2 ≤ k
  · have d1 : decide (2 ≤ k) = true := by simpa using h1
    by_cases h2 : k ≤ 4
    · have d2 : decide (k ≤ 4) = true := by simpa using h2
      by_cases h3 : 2 * k - 1 ≤ n
      · have d3 : decide (2 * k - 1 ≤ n) = true := by simpa using h3
        by_cases h4 : n ≤ 14
        · have HV : Hid (msrOk n k = true) := by show msrOk n k = true; simp [msrOk, h1, h2, h3, h4]
          have d4 : decide (n ≤ 14) = true := by simpa using h4
          go_enter Tryd.func138, Tryd.ntmps138
          go_wp2_with fail
          go_ret
          exact ⟨by rw [HV.out]; first | rfl | simp [d4], a1⟩
        · have HV : Hid (msrOk n k = false) := by show msrOk n k = false; simp [msrOk, h1, h2, h3, h4]
          have d4 : decide (n ≤ 14) = false := by simpa using h4
          go_enter Tryd.func138, Tryd.ntmps138
          go_wp2_with fail
          go_ret
          exact ⟨by rw [HV.out]; first | rfl | simp [d4], a1⟩
      · have HV : Hid (msrOk n k = false) := by show msrOk n k = false; simp [msrOk, h1, h2, h3]
        have d3 : decide (2 * k - 1 ≤ n) = false := by simpa using h3
        go_enter Tryd.func138, Tryd.ntmps138
        go_wp2_with fail
        go_ret
        exact ⟨by rw [HV.out]; first | rfl | simp [d3], a1⟩
    · have HV : Hid (msrOk n k = false) := by show msrOk n k = false; simp [msrOk, h1, h2]
      have d2 : decide (k ≤ 4) = false := by simpa using h2
      go_enter Tryd.func138, Tryd.ntmps138
      go_wp2_with fail
      go_ret
      exact ⟨by rw [HV.out]; first | rfl | simp [d2], a1⟩
  · have HV : Hid (msrOk n k = false) := by show msrOk n k = false; simp [msrOk, h1]
    have d1 : decide (2 ≤ k) = false := by simpa using h1
    go_enter Tryd.func138, Tryd.ntmps138
    go_wp2_with fail
    go_ret
    exact ⟨by rw [HV.out]; first | rfl | simp [d1], a1⟩

set_option maxRecDepth 100000 in
set_option maxHeartbeats 1000000 in
theorem sGoodMsr_any (n k : Int) (w : World) : Calls Tryd.prog 66 #[msrV n k] w (RetBool w (msrOk n k)) := by
  have a1 := turn_alloc w (.cells #[.int .i64 n, .int .i64 k] 27)
  have cn := alloc_duo0 w (.int .i64 n) (.int .i64 k) 27
  have ck := alloc_duo1 w (.int .i64 n) (.int .i64 k) 27
  by_cases h1 : 2 ≤ k ∧ k ≤ 4
  · have H1 : Hid (inB k 2 4 = true) := by show inB k 2 4 = true; simp [inB, h1]
    obtain ⟨h1, h2⟩ := h1
    go_enter Tryd.func66, Tryd.ntmps66
    go_wp2_with fail
    refine (l1In_any _ _ _ _).mono ?_
    rintro e' w' ⟨rfl, rfl⟩
    rw [H1.out]
    go_wp2_with fail
    refine (l1In_any _ _ _ _).mono ?_
    rintro e' w' ⟨rfl, rfl⟩
    have HV : Hid (msrOk n k = inB n (2 * k - 1) 14) := by show msrOk n k = _; simp [msrOk, inB, h1, h2]
    generalize inB n (2 * k - 1) 14 = b at HV ⊢
    go_wp2_with fail
    go_ret
    exact ⟨by rw [HV.out]; rfl, a1⟩
  · have H1 : Hid (inB k 2 4 = false) := by show inB k 2 4 = false; simpa [inB] using h1
    have HV : Hid (msrOk n k = false) := by show msrOk n k = false; simp only [msrOk, h1, decide_false, Bool.false_and]
    clear h1
    go_enter Tryd.func66, Tryd.ntmps66
    go_wp2_with fail
    refine (l1In_any _ _ _ _).mono ?_
    rintro e' w' ⟨rfl, rfl⟩
    rw [H1.out]
    go_wp2_with fail
    go_ret
    exact ⟨by rw [HV.out]; rfl, a1⟩

set_option maxRecDepth 100000 in
set_option maxHeartbeats 1000000 in
theorem msrSizes_any (n k : Int) (w : World) : Calls Tryd.prog 70 #[msrV n k] w (RetSizes w (msrA n k) (msrD n k) (msrB n k) (msrOk n k)) := by
  have a1 := turn_alloc w (.cells #[.int .i64 n, .int .i64 k] 27)
  have l1 := alloc_lt w (.cells #[.int .i64 n, .int .i64 k] 27)
  have cn := alloc_duo0 w (.int .i64 n) (.int .i64 k) 27
  have ck := alloc_duo1 w (.int .i64 n) (.int .i64 k) 27
  by_cases h : msrOk n k = true
  · have HO := Lib.hid h
    have HA := Lib.hid (msrA_yes h)
    have HD := Lib.hid (msrD_yes h)
    have HB := Lib.hid (msrB_yes h)
    have hk := msrOk_k h
    clear h
    rcases hk with rfl | rfl | rfl
    · go_enter Tryd.func70, Tryd.ntmps70
      go_wp2_with fail
      refine (goodMsr_any _ _ _).mono ?_
      rintro e' w2 ⟨rfl, k2⟩
      rw [HO.out]
      replace cn := cell_turn k2 cn l1
      replace ck := cell_turn k2 ck l1
      go_wp2_with fail
      go_quiet (fail)
      go_wp2_with fail
      refine bodyPost_ret (v := .tuple #[.int .i64 (2 - 1), .int .i64 (2 * (2 - 1)), .int .i64 (2 * (2 - 1)), .bool true]) (by simp [results, Tryd.results70, go_sem]) rfl ?_
      exact ⟨by rw [HA.out, HD.out, HB.out, HO.out], TurnIn.of_below (below_drewN (turn_trans a1 k2 (by omega)).to_below _)⟩
    · go_enter Tryd.func70, Tryd.ntmps70
      go_wp2_with fail
      refine (goodMsr_any _ _ _).mono ?_
      rintro e' w2 ⟨rfl, k2⟩
      rw [HO.out]
      replace cn := cell_turn k2 cn l1
      replace ck := cell_turn k2 ck l1
      go_wp2_with fail
      go_quiet (fail)
      go_wp2_with fail
      refine bodyPost_ret (v := .tuple #[.int .i64 (3 - 1), .int .i64 (2 * (3 - 1)), .int .i64 (3 * (3 - 1)), .bool true]) (by simp [results, Tryd.results70, go_sem]) rfl ?_
      exact ⟨by rw [HA.out, HD.out, HB.out, HO.out], TurnIn.of_below (below_drewN (turn_trans a1 k2 (by omega)).to_below _)⟩
    · go_enter Tryd.func70, Tryd.ntmps70
      go_wp2_with fail
      refine (goodMsr_any _ _ _).mono ?_
      rintro e' w2 ⟨rfl, k2⟩
      rw [HO.out]
      replace cn := cell_turn k2 cn l1
      replace ck := cell_turn k2 ck l1
      go_wp2_with fail
      go_quiet (fail)
      go_wp2_with fail
      refine bodyPost_ret (v := .tuple #[.int .i64 (4 - 1), .int .i64 (2 * (4 - 1)), .int .i64 (4 * (4 - 1)), .bool true]) (by simp [results, Tryd.results70, go_sem]) rfl ?_
      exact ⟨by rw [HA.out, HD.out, HB.out, HO.out], TurnIn.of_below (below_drewN (turn_trans a1 k2 (by omega)).to_below _)⟩
  · have HO : Hid (msrOk n k = false) := by show msrOk n k = false; simpa using h
    have HA := Lib.hid (msrA_no HO.out)
    have HD := Lib.hid (msrD_no HO.out)
    have HB := Lib.hid (msrB_no HO.out)
    clear h
    go_enter Tryd.func70, Tryd.ntmps70
    go_wp2_with fail
    refine (goodMsr_any _ _ _).mono ?_
    rintro e' w2 ⟨rfl, k2⟩
    rw [HO.out]
    go_wp2_with fail
    refine bodyPost_ret (v := .tuple #[.int .i64 0, .int .i64 0, .int .i64 0, .bool false]) (by simp [results, Tryd.results70, go_sem]) rfl ?_
    exact ⟨by rw [HA.out, HD.out, HB.out, HO.out], turn_trans a1 k2 (by omega)⟩

set_option maxRecDepth 100000 in
set_option maxHeartbeats 1000000 in
theorem toMsr_any (n k : Int) (w : World) : Calls Tryd.prog 13 #[msrV n k] w fun r w' => r = .returned (msrV n k) ∧ TurnIn 0 0 w w' := by
  have kk : TurnIn 0 0 w (((w.alloc (.cells #[.int .i64 n, .int .i64 k] 23)).alloc (.cells #[.int .i64 n, .int .i64 k] 27)).alloc (.cells #[.int .i64 n, .int .i64 k] 27)) := turn_trans (turn_trans (turn_alloc _ _) (turn_alloc _ _) (by omega)) (turn_alloc _ _) (by omega)
  go_enter Tryd.func13, Tryd.ntmps13
  go_wp2_with fail
  refine bodyPost_ret (v := msrV n k) (by simp [results, Tryd.results13, go_sem]) rfl ?_
  exact ⟨rfl, kk⟩

end Go.Proofs.YtlkoafnlklhaeaaDoor
