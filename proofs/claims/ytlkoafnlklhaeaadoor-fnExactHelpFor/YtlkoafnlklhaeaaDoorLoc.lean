/- Local codes: their numbers; the program's and the model's GoodLocal. -/
import Derived.Test.YtlkoafnlklhaeaaDoorShape
import Derived.Test.YtlkoafnlklhaeaaDoorTurns
set_option linter.unusedSimpArgs false
set_option linter.unusedVariables false
namespace G294
open Go Go.RowKit
def numOk (n : Int) : Bool := decide (1 ≤ n ∧ n ≤ 4)
def locOk (g e q : Int) : Bool := numOk g && numOk e && numOk q && decide (g * e ≤ 8)
/-- a local code as a value -/
abbrev locV (g e q : Int) : Value := .agg #[.int .i64 g, .int .i64 e, .int .i64 q]
theorem mul_bd {a b : Int} (h1 : 1 ≤ a ∧ a ≤ 4) (h2 : 1 ≤ b ∧ b ≤ 4) : 1 ≤ a * b ∧ a * b ≤ 16 := by
  obtain ⟨h1, h1'⟩ := h1
  obtain ⟨h2, h2'⟩ := h2
  have e1 : a = 1 ∨ a = 2 ∨ a = 3 ∨ a = 4 := by omega
  rcases e1 with rfl | rfl | rfl | rfl <;> omega
theorem numOk_b {n : Int} (h : numOk n = true) : 1 ≤ n ∧ n ≤ 4 := by simpa [numOk] using h
theorem locOk_b {g e q : Int} (h : locOk g e q = true) : ((1 ≤ g ∧ g ≤ 4) ∧ (1 ≤ e ∧ e ≤ 4)) ∧ (1 ≤ q ∧ q ≤ 4) ∧ 1 ≤ g * e ∧ g * e ≤ 8 := by
  have h' : (((1 ≤ g ∧ g ≤ 4) ∧ (1 ≤ e ∧ e ≤ 4)) ∧ (1 ≤ q ∧ q ≤ 4)) ∧ g * e ≤ 8 := by simpa [locOk, numOk] using h
  exact ⟨h'.1.1, h'.1.2, (mul_bd h'.1.1.1 h'.1.1.2).1, h'.2⟩
end G294
namespace Go.Proofs.YtlkoafnlklhaeaaDoor
open Go.RowKit G294

set_option maxHeartbeats 400000 in
theorem goodLocalNumber_any (n : Int) (w : World) : Calls Tryd.prog 162 #[.int .i64 n] w fun e w' => e = .returned (.bool (numOk n)) ∧ w = w' := by
  by_cases h1 : 1 ≤ n
  · have hd : decide (1 ≤ n) = true := by simpa using h1
    by_cases h2 : n ≤ 4
    · have HV : Hid (numOk n = true) := by show numOk n = true; simp [numOk, h1, h2]
      go_enter Tryd.func162, Tryd.ntmps162
      go_wp2_with fail
      go_ret
      exact ⟨by rw [HV.out]; simp [h2], rfl⟩
    · have HV : Hid (numOk n = false) := by show numOk n = false; simp [numOk, h2]
      go_enter Tryd.func162, Tryd.ntmps162
      go_wp2_with fail
      go_ret
      exact ⟨by rw [HV.out]; simp [h2], rfl⟩
  · have hd : decide (1 ≤ n) = false := by simpa using h1
    have HV : Hid (numOk n = false) := by show numOk n = false; simp [numOk, h1]
    go_enter Tryd.func162, Tryd.ntmps162
    go_wp2_with fail
    go_ret
    exact ⟨by rw [HV.out]; rfl, rfl⟩

set_option maxRecDepth 100000 in
set_option maxHeartbeats 400000 in
theorem localData_any (g e q : Int) (w : World) (h : 1 ≤ g * e ∧ g * e ≤ 16) : Calls Tryd.prog 104 #[locV g e q] w (RetInt w (g * e)) := by
  have kk := turn_alloc w (.cells #[.int .i64 g, .int .i64 e, .int .i64 q] 73)
  obtain ⟨h1, h2⟩ := h
  go_enter Tryd.func104, Tryd.ntmps104
  go_wp2_with fail
  go_ret
  exact ⟨rfl, kk⟩

set_option maxRecDepth 100000 in
set_option maxHeartbeats 400000 in
theorem l4Data_any (g e q : Int) (w : World) (h : 1 ≤ g * e ∧ g * e ≤ 16) : Calls Tryd.prog 113 #[locV g e q] w (RetInt w (g * e)) := by
  have kk := turn_alloc w (.cells #[.int .i64 g, .int .i64 e, .int .i64 q] 73)
  obtain ⟨h1, h2⟩ := h
  go_enter Tryd.func113, Tryd.ntmps113
  go_wp2_with fail
  go_ret
  exact ⟨rfl, kk⟩

set_option maxRecDepth 100000 in
set_option maxHeartbeats 1000000 in
theorem goodLocal_any (g e q : Int) (w : World) : Calls Tryd.prog 103 #[locV g e q] w (RetBool w (locOk g e q)) := by
  have a1 := turn_alloc w (.cells #[.int .i64 g, .int .i64 e, .int .i64 q] 73)
  have cg : (w.alloc (.cells #[.int .i64 g, .int .i64 e, .int .i64 q] 73)).cell? ⟨w.heap.size, 0, none⟩ = some (.int .i64 g) := by simp
  have ce : (w.alloc (.cells #[.int .i64 g, .int .i64 e, .int .i64 q] 73)).cell? ⟨w.heap.size, 1, none⟩ = some (.int .i64 e) := by simp
  have cq : (w.alloc (.cells #[.int .i64 g, .int .i64 e, .int .i64 q] 73)).cell? ⟨w.heap.size, 2, none⟩ = some (.int .i64 q) := by simp
  by_cases hg : numOk g = true
  · have Hg := Lib.hid hg
    clear hg
    by_cases he : numOk e = true
    · have He := Lib.hid he
      clear he
      by_cases hq : numOk q = true
      · have Hq := Lib.hid hq
        clear hq
        have hb := mul_bd (numOk_b Hg.out) (numOk_b He.out)
        obtain ⟨hb1, hb2⟩ := hb
        by_cases hp : g * e ≤ 8
        · have hpd : decide (g * e ≤ 8) = true := by simpa using hp
          have HV : Hid (locOk g e q = true) := by show locOk g e q = true; simp [locOk, Hg.out, He.out, Hq.out, hp]
          go_enter Tryd.func103, Tryd.ntmps103
          go_wp2_with fail
          refine (goodLocalNumber_any _ _).mono ?_
          rintro e' w' ⟨rfl, rfl⟩
          rw [Hg.out]
          go_wp2_with fail
          refine (goodLocalNumber_any _ _).mono ?_
          rintro e' w' ⟨rfl, rfl⟩
          rw [He.out]
          go_wp2_with fail
          refine (goodLocalNumber_any _ _).mono ?_
          rintro e' w' ⟨rfl, rfl⟩
          rw [Hq.out]
          go_wp2_with fail
          refine (localData_any g e q _ ⟨hb1, hb2⟩).mono ?_
          rintro e' w2 ⟨rfl, k2⟩
          go_wp2_with fail
          go_ret
          exact ⟨by rw [HV.out]; simp [hpd], (turn_trans a1 k2 (by omega))⟩
        · have hpd : decide (g * e ≤ 8) = false := by simpa using hp
          have HV : Hid (locOk g e q = false) := by show locOk g e q = false; simp [locOk, Hg.out, He.out, Hq.out, hp]
          go_enter Tryd.func103, Tryd.ntmps103
          go_wp2_with fail
          refine (goodLocalNumber_any _ _).mono ?_
          rintro e' w' ⟨rfl, rfl⟩
          rw [Hg.out]
          go_wp2_with fail
          refine (goodLocalNumber_any _ _).mono ?_
          rintro e' w' ⟨rfl, rfl⟩
          rw [He.out]
          go_wp2_with fail
          refine (goodLocalNumber_any _ _).mono ?_
          rintro e' w' ⟨rfl, rfl⟩
          rw [Hq.out]
          go_wp2_with fail
          refine (localData_any g e q _ ⟨hb1, hb2⟩).mono ?_
          rintro e' w2 ⟨rfl, k2⟩
          go_wp2_with fail
          go_ret
          exact ⟨by rw [HV.out]; simp [hpd], (turn_trans a1 k2 (by omega))⟩
      · have Hq : Hid (numOk q = false) := by show numOk q = false; simpa using hq
        clear hq
        have HV : Hid (locOk g e q = false) := by show locOk g e q = false; simp [locOk, Hg.out, He.out, Hq.out]
        go_enter Tryd.func103, Tryd.ntmps103
        go_wp2_with fail
        refine (goodLocalNumber_any _ _).mono ?_
        rintro e' w' ⟨rfl, rfl⟩
        rw [Hg.out]
        go_wp2_with fail
        refine (goodLocalNumber_any _ _).mono ?_
        rintro e' w' ⟨rfl, rfl⟩
        rw [He.out]
        go_wp2_with fail
        refine (goodLocalNumber_any _ _).mono ?_
        rintro e' w' ⟨rfl, rfl⟩
        rw [Hq.out]
        go_wp2_with fail
        go_ret
        exact ⟨by rw [HV.out]; rfl, a1⟩
    · have He : Hid (numOk e = false) := by show numOk e = false; simpa using he
      clear he
      have HV : Hid (locOk g e q = false) := by show locOk g e q = false; simp [locOk, Hg.out, He.out]
      go_enter Tryd.func103, Tryd.ntmps103
      go_wp2_with fail
      refine (goodLocalNumber_any _ _).mono ?_
      rintro e' w' ⟨rfl, rfl⟩
      rw [Hg.out]
      go_wp2_with fail
      refine (goodLocalNumber_any _ _).mono ?_
      rintro e' w' ⟨rfl, rfl⟩
      rw [He.out]
      go_wp2_with fail
      go_ret
      exact ⟨by rw [HV.out]; rfl, a1⟩
  · have Hg : Hid (numOk g = false) := by show numOk g = false; simpa using hg
    clear hg
    have HV : Hid (locOk g e q = false) := by show locOk g e q = false; simp [locOk, Hg.out]
    go_enter Tryd.func103, Tryd.ntmps103
    go_wp2_with fail
    refine (goodLocalNumber_any _ _).mono ?_
    rintro e' w' ⟨rfl, rfl⟩
    rw [Hg.out]
    go_wp2_with fail
    go_ret
    exact ⟨by rw [HV.out]; rfl, a1⟩

set_option maxRecDepth 100000 in
set_option maxHeartbeats 1000000 in
theorem sGoodLocal_any (g e q : Int) (w : World) : Calls Tryd.prog 101 #[locV g e q] w (RetBool w (locOk g e q)) := by
  have a1 := turn_alloc w (.cells #[.int .i64 g, .int .i64 e, .int .i64 q] 73)
  have cg : (w.alloc (.cells #[.int .i64 g, .int .i64 e, .int .i64 q] 73)).cell? ⟨w.heap.size, 0, none⟩ = some (.int .i64 g) := by simp
  have ce : (w.alloc (.cells #[.int .i64 g, .int .i64 e, .int .i64 q] 73)).cell? ⟨w.heap.size, 1, none⟩ = some (.int .i64 e) := by simp
  have cq : (w.alloc (.cells #[.int .i64 g, .int .i64 e, .int .i64 q] 73)).cell? ⟨w.heap.size, 2, none⟩ = some (.int .i64 q) := by simp
  by_cases hg : numOk g = true
  · have Hg := Lib.hid hg
    clear hg
    by_cases he : numOk e = true
    · have He := Lib.hid he
      clear he
      have hb := mul_bd (numOk_b Hg.out) (numOk_b He.out)
      obtain ⟨hb1, hb2⟩ := hb
      by_cases hp : g * e ≤ 8
      · have hpd : decide (g * e ≤ 8) = true := by simpa using hp
        by_cases hq : numOk q = true
        · have Hq := Lib.hid hq
          clear hq
          have HV : Hid (locOk g e q = true) := by show locOk g e q = true; simp [locOk, Hg.out, He.out, Hq.out, hp]
          go_enter Tryd.func101, Tryd.ntmps101
          go_wp2_with fail
          refine (l1In_any _ _ _ _).mono ?_
          rintro e' w' ⟨rfl, rfl⟩
          rw [show inB g 1 4 = true from Hg.out]
          go_wp2_with fail
          refine (l1In_any _ _ _ _).mono ?_
          rintro e' w' ⟨rfl, rfl⟩
          rw [show inB e 1 4 = true from He.out]
          go_wp2_with fail
          refine (l1In_any _ _ _ _).mono ?_
          rintro e' w' ⟨rfl, rfl⟩
          rw [show inB q 1 4 = true from Hq.out]
          go_wp2_with fail
          go_ret
          exact ⟨by rw [HV.out]; first | rfl | simp [hpd], a1⟩
        · have Hq : Hid (numOk q = false) := by show numOk q = false; simpa using hq
          clear hq
          have HV : Hid (locOk g e q = false) := by show locOk g e q = false; simp [locOk, Hg.out, He.out, Hq.out, hp]
          go_enter Tryd.func101, Tryd.ntmps101
          go_wp2_with fail
          refine (l1In_any _ _ _ _).mono ?_
          rintro e' w' ⟨rfl, rfl⟩
          rw [show inB g 1 4 = true from Hg.out]
          go_wp2_with fail
          refine (l1In_any _ _ _ _).mono ?_
          rintro e' w' ⟨rfl, rfl⟩
          rw [show inB e 1 4 = true from He.out]
          go_wp2_with fail
          refine (l1In_any _ _ _ _).mono ?_
          rintro e' w' ⟨rfl, rfl⟩
          rw [show inB q 1 4 = false from Hq.out]
          go_wp2_with fail
          go_ret
          exact ⟨by rw [HV.out]; first | rfl | simp [hpd], a1⟩
      · have hpd : decide (g * e ≤ 8) = false := by simpa using hp
        have HV : Hid (locOk g e q = false) := by show locOk g e q = false; simp [locOk, Hg.out, He.out, hp]
        go_enter Tryd.func101, Tryd.ntmps101
        go_wp2_with fail
        refine (l1In_any _ _ _ _).mono ?_
        rintro e' w' ⟨rfl, rfl⟩
        rw [show inB g 1 4 = true from Hg.out]
        go_wp2_with fail
        refine (l1In_any _ _ _ _).mono ?_
        rintro e' w' ⟨rfl, rfl⟩
        rw [show inB e 1 4 = true from He.out]
        go_wp2_with fail
        go_ret
        exact ⟨by rw [HV.out]; first | rfl | simp [hpd], a1⟩
    · have He : Hid (numOk e = false) := by show numOk e = false; simpa using he
      clear he
      have HV : Hid (locOk g e q = false) := by show locOk g e q = false; simp [locOk, Hg.out, He.out]
      go_enter Tryd.func101, Tryd.ntmps101
      go_wp2_with fail
      refine (l1In_any _ _ _ _).mono ?_
      rintro e' w' ⟨rfl, rfl⟩
      rw [show inB g 1 4 = true from Hg.out]
      go_wp2_with fail
      refine (l1In_any _ _ _ _).mono ?_
      rintro e' w' ⟨rfl, rfl⟩
      rw [show inB e 1 4 = false from He.out]
      go_wp2_with fail
      go_ret
      exact ⟨by rw [HV.out]; first | rfl | simp [hpd], a1⟩
  · have Hg : Hid (numOk g = false) := by show numOk g = false; simpa using hg
    clear hg
    have HV : Hid (locOk g e q = false) := by show locOk g e q = false; simp [locOk, Hg.out]
    go_enter Tryd.func101, Tryd.ntmps101
    go_wp2_with fail
    refine (l1In_any _ _ _ _).mono ?_
    rintro e' w' ⟨rfl, rfl⟩
    rw [show inB g 1 4 = false from Hg.out]
    go_wp2_with fail
    go_ret
    exact ⟨by rw [HV.out]; first | rfl | simp [hpd], a1⟩

set_option maxRecDepth 100000 in
set_option maxHeartbeats 1000000 in
theorem toLocal_any (g e q : Int) (w : World) : Calls Tryd.prog 43 #[locV g e q] w fun r w' => r = .returned (locV g e q) ∧ TurnIn 0 0 w w' := by
  have kk : TurnIn 0 0 w (((w.alloc (.cells #[.int .i64 g, .int .i64 e, .int .i64 q] 67)).alloc (.cells #[.int .i64 g, .int .i64 e, .int .i64 q] 73)).alloc (.cells #[.int .i64 g, .int .i64 e, .int .i64 q] 73)) := turn_trans (turn_trans (turn_alloc _ _) (turn_alloc _ _) (by omega)) (turn_alloc _ _) (by omega)
  go_enter Tryd.func43, Tryd.ntmps43
  go_wp2_with fail
  refine bodyPost_ret (v := locV g e q) (by simp [results, Tryd.results43, go_sem]) rfl ?_
  exact ⟨rfl, kk⟩

end Go.Proofs.YtlkoafnlklhaeaaDoor
