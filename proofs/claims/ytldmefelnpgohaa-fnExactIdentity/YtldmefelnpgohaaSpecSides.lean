/- The model's Identity, Vandermonde and Cauchy. -/
import Derived.Test.YtldmefelnpgohaaSpecFill
set_option linter.unusedSimpArgs false
set_option linter.unusedVariables false
namespace Go.Proofs.Ytldmefelnpgohaa
open Go.RowKit G294

set_option maxHeartbeats 1000000 in
theorem sIdentity_own (n : Int) (w : World) : Calls Try.prog 37 #[.int .i64 n] w (RetMatOk 5 44 w (idR n) (idOk n)) := by
  have hb1 : Below w.heap.size w (w.alloc (.cells #[.slice none 0 0] 27)) := (Below.refl _ _).alloc (Nat.le_refl _) _
  by_cases h : goodI n = true
  · have HO := Lib.hid h
    have h2 : 1 ≤ n ∧ n ≤ 16 := by simpa [goodI] using h
    obtain ⟨m, rfl⟩ := Int.eq_ofNat_of_zero_le (show 0 ≤ n by omega)
    have HR : Hid (idR m = mkM m m idF) := by show idR m = _; unfold idR; rw [if_pos HO.out]; simp
    clear h
    go_enter Try.func37, Try.ntmps37
    go_wp2_with fail
    refine (l1In_side _ _).mono ?_
    rintro e w' ⟨rfl, rfl⟩
    rw [HO.out]
    go_wp2_with fail
    refine (l2Identity_own m _ (by omega) (by omega)).mono ?_
    rintro e w' ⟨v', vs', rfl, hM, ht⟩
    obtain ⟨A', n', c', rfl⟩ := hM.isSlice
    have hq := cell_turn ht (B := w.heap.size) (o := 0) (x := .slice none 0 0) (by simp) (by simp)
    have hqf := frozen_turn ht (B := w.heap.size) (o := 0) (x := false) (by simp) (by simp)
    have HF := Lib.hid (ret_store hb1 hM ht w.heap.size 0 (Nat.le_refl _) (by simp) (.slice A' n' c'))
    clear hM ht hb1
    go_wp2_with fail
    refine bodyPost_ret (v := .tuple #[.agg #[.slice A' n' c'], .bool true]) (by simp [results, Try.results37, go_sem, hq]) rfl ?_
    exact ⟨.slice A' n' c', vs', by show _ = Ending.returned (.tuple #[.agg #[.slice A' n' c'], .bool (idOk m)]); unfold idOk; rw [HO.out], by rw [HR.out]; exact HF.out.1, HF.out.2⟩
  · have HO : Hid (goodI n = false) := by show goodI n = false; simpa using h
    have HR : Hid (idR n = []) := if_neg h
    clear h
    go_enter Try.func37, Try.ntmps37
    go_wp2_with fail
    refine (l1In_side _ _).mono ?_
    rintro e w' ⟨rfl, rfl⟩
    rw [HO.out]
    go_wp2_with fail
    refine bodyPost_ret (v := .tuple #[.agg #[.slice none 0 0], .bool false]) (by simp [results, Try.results37, go_sem]) rfl ?_
    exact ⟨_, [], by unfold idOk; rw [HO.out], by rw [HR.out]; exact OwnM.nil _ _ _ _, TurnIn.of_below hb1⟩

end Go.Proofs.Ytldmefelnpgohaa
