/- Chapter 11: RotateText, the program's and the model's. -/
import Derived.Test.YtbfchebnooanjaaTurS
set_option linter.unusedSimpArgs false
set_option linter.unusedVariables false
namespace G294
open Go Go.RowKit
def rtOk (s : List UInt8) (k : Int) : Bool := trnOk s && (decide (0 ≤ k) && decide (k < max (s.length : Int) 1))
def rtR (s : List UInt8) (k : Int) : List UInt8 := if rtOk s k = true then rotL s k.toNat else []
theorem rtR_no {s : List UInt8} {k : Int} (h : rtOk s k = false) : rtR s k = [] := if_neg (by rw [h]; decide)
theorem rtR_yes {s : List UInt8} {k : Nat} (h : rtOk s k = true) : rtR s k = rotL s k := by unfold rtR; rw [if_pos h]; simp
theorem rtOk_b {s : List UInt8} {k : Int} (h : rtOk s k = true) : s.length ≤ 120 ∧ ∃ q : Nat, k = (q : Int) ∧ q ≤ s.length ∧ (q < s.length ∨ (q = 0 ∧ s = [])) := by
  simp only [rtOk, trnOk, Bool.and_eq_true, decide_eq_true_eq] at h
  refine ⟨h.1, k.toNat, by omega, by omega, ?_⟩
  by_cases e : s.length = 0
  · right; exact ⟨by omega, List.eq_nil_of_length_eq_zero e⟩
  · left; omega
end G294
namespace Go.Proofs.Ytbfchebnooanjaa
open Go.RowKit G294

set_option maxHeartbeats 1000000 in
theorem goodTurn_any (k : Int) (s : List UInt8) (w : World) (hs : s.length ≤ 1000000000000) : Calls Try.prog 40 #[.int .i64 k, .string (str s)] w fun e w' => e = .returned (.bool (decide (0 ≤ k) && decide (k < max (s.length : Int) 1))) ∧ w = w' := by
  have hsz : (str s).size = s.length := str_size s
  generalize s.length = n at *
  obtain ⟨x, hx⟩ : ∃ x, x = max (n : Int) 1 := ⟨_, rfl⟩
  have HX : Hid ((decide (0 ≤ k) && decide (k < max (n : Int) 1)) = (decide (0 ≤ k) && decide (k < x))) := by show _ = _; rw [hx]
  rw [HX.out]
  have hxn : n ≤ 1 → x = 1 := fun h => by omega
  have hxn2 : 1 < n → x = (n : Int) := fun h => by omega
  have HXN := Lib.hid (And.intro hxn hxn2)
  clear hx hxn hxn2 HX
  by_cases h1 : 0 ≤ k
  · have h1d : decide (0 ≤ k) = true := decide_eq_true h1
    by_cases hn : 1 < n
    · have hni : (1 : Int) < (n : Int) := by omega
      have hni2 : ¬ (n : Int) ≤ 1 := by omega
      have e := HXN.out.2 hn
      subst e
      go_enter Try.func40, Try.ntmps40
      go_wp2_with fail
      all_goals
        go_ret
        refine ⟨?_, rfl⟩
        simp [h1] <;> omega
    · have e := HXN.out.1 (by omega)
      subst e
      have h01 : n = 0 ∨ n = 1 := by omega
      clear hn
      rcases h01 with rfl | rfl
      all_goals
        go_enter Try.func40, Try.ntmps40
        go_wp2_with fail
        go_ret
        refine ⟨?_, rfl⟩
        simp [h1] <;> omega
  · have h1d : decide (0 ≤ k) = false := decide_eq_false h1
    go_enter Try.func40, Try.ntmps40
    go_wp2_with fail
    go_ret
    refine ⟨?_, rfl⟩
    simp [h1]

set_option maxRecDepth 100000 in
set_option maxHeartbeats 1000000 in
theorem rotateText_own (s : List UInt8) (k : Int) (w : World) (hs : s.length ≤ 1000000000000) : Calls Try.prog 18 #[.string (str s), .int .i64 k] w (RetStrOk w (rtR s k) (rtOk s k)) := by
  have hsz : (str s).size = s.length := str_size s
  have HG := Lib.hid (fun W => goodTurnText_any s W hs)
  have HT := Lib.hid (fun W => goodTurn_any k s W hs)
  by_cases h : rtOk s k = true
  · obtain ⟨hn, q, rfl, hq, _⟩ := rtOk_b h
    have HR := Lib.hid (rtR_yes h)
    have HO1 : Hid (trnOk s = true) := by show _ = _; simp [trnOk, hn]
    have HO2 : Hid ((decide (0 ≤ (q : Int)) && decide ((q : Int) < max (s.length : Int) 1)) = true) := by
      simp only [rtOk, Bool.and_eq_true] at h
      show _ = _
      simp only [Bool.and_eq_true]; exact h.2
    have HO := Lib.hid h
    have HA : Hid (str s ++ str s = str (s ++ s)) := str_append s s
    have HRI := Lib.hid (fun W => rotationIn_any s q W hq (by omega))
    rw [HR.out, HO.out]
    rw [HO1.out] at HG
    rw [HO2.out] at HT
    clear h
    generalize s.length = n at *
    go_enter Try.func18, Try.ntmps18
    go_wp2_with fail
    refine (HG.out _).mono ?_
    rintro e w' ⟨rfl, rfl⟩
    go_wp2_with fail
    refine (HT.out _).mono ?_
    rintro e w' ⟨rfl, rfl⟩
    go_wp2_with fail
    rw [HA.out]
    refine (HRI.out _).mono ?_
    rintro e w' ⟨rfl, rfl⟩
    go_wp2_with fail
    go_ret2
    exact ⟨rfl, TurnIn.refl _⟩
  · have HO : Hid (rtOk s k = false) := by show rtOk s k = false; simpa using h
    have HR := Lib.hid (rtR_no HO.out)
    rw [HR.out, HO.out]
    by_cases h1 : trnOk s = true
    · have HO2 : Hid ((decide (0 ≤ k) && decide (k < max (s.length : Int) 1)) = false) := by
        have := HO.out
        simp only [rtOk, h1, Bool.true_and] at this
        exact this
      rw [h1] at HG
      rw [HO2.out] at HT
      clear h h1
      go_enter Try.func18, Try.ntmps18
      go_wp2_with fail
      refine (HG.out _).mono ?_
      rintro e w' ⟨rfl, rfl⟩
      go_wp2_with fail
      refine (HT.out _).mono ?_
      rintro e w' ⟨rfl, rfl⟩
      go_wp2_with fail
      go_ret2
      exact ⟨rfl, TurnIn.refl _⟩
    · rw [show trnOk s = false by simpa using h1] at HG
      clear h h1
      go_enter Try.func18, Try.ntmps18
      go_wp2_with fail
      refine (HG.out _).mono ?_
      rintro e w' ⟨rfl, rfl⟩
      go_wp2_with fail
      go_ret2
      exact ⟨rfl, TurnIn.refl _⟩

set_option maxRecDepth 100000 in
set_option maxHeartbeats 1000000 in
theorem sRotateText_own (s : List UInt8) (k : Int) (w : World) (hs : s.length ≤ 1000000000000) : Calls Try.prog 37 #[.string (str s), .int .i64 k] w (RetStrOk w (rtR s k) (rtOk s k)) := by
  have hsz : (str s).size = s.length := str_size s
  have HI := Lib.hid (fun W => l1In_any k 0 ((s.length : Int) - 1) W)
  by_cases hn : s.length ≤ 120
  · have hni : ¬ (120 : Int) < (s.length : Int) := by omega
    by_cases hk : 0 ≤ k ∧ k ≤ (s.length : Int) - 1
    · have HIN : Hid (inB k 0 ((s.length : Int) - 1) = true) := by show _ = _; simp [inB, hk.1]; omega
      obtain ⟨q, rfl⟩ : ∃ q : Nat, k = (q : Int) := ⟨k.toNat, by omega⟩
      have HO : Hid (rtOk s q = true) := by show _ = _; simp [rtOk, trnOk, hn]; omega
      have HR := Lib.hid (rtR_yes HO.out)
      have HT := Lib.hid (fun W => l11Turn_any s q W (by omega) (by omega))
      rw [HR.out, HO.out]
      rw [HIN.out] at HI
      generalize s.length = n at *
      go_enter Try.func37, Try.ntmps37
      go_wp2_with fail
      refine (HI.out _).mono ?_
      rintro e w' ⟨rfl, rfl⟩
      go_wp2_with fail
      refine (HT.out _).mono ?_
      rintro e w1 ⟨rfl, k1⟩
      have K1 := Lib.hid k1
      clear k1
      go_wp2_with fail
      go_ret2
      exact ⟨rfl, K1.out⟩
    · have HIN : Hid (inB k 0 ((s.length : Int) - 1) = false) := by
        show _ = _
        rw [Bool.eq_false_iff]; intro e
        simp only [inB, Bool.and_eq_true, decide_eq_true_eq] at e
        exact hk e
      rw [HIN.out] at HI
      by_cases hz : k = 0
      · subst hz
        have hl0 : s = [] := List.eq_nil_of_length_eq_zero (by omega)
        subst hl0
        have HT := Lib.hid (fun W => l11Turn_any [] 0 W (by simp) (by simp))
        have HO : Hid (rtOk [] 0 = true) := Lib.hid rfl
        have HR : Hid (rtR [] 0 = rotL [] 0) := Lib.hid rfl
        rw [HR.out, HO.out]
        have hem : ((str []).toList == (⟨#[]⟩ : ByteArray).toList) = true := by
          have e0 : (⟨#[]⟩ : ByteArray).toList = [] := str_toList []
          rw [str_toList, e0]; rfl
        have hem2 : (!((str []).toList == (⟨#[]⟩ : ByteArray).toList)) = false := by rw [hem]; rfl
        have hem3 : (str []).toList = [] := str_toList []
        simp only [List.length_nil] at hsz HI
        clear hn hni hk
        go_enter Try.func37, Try.ntmps37
        go_wp2_with fail
        refine (HI.out _).mono ?_
        rintro e w' ⟨rfl, rfl⟩
        go_wp2_with fail
        refine (HT.out _).mono ?_
        rintro e w1 ⟨rfl, k1⟩
        have K1 := Lib.hid k1
        clear k1
        go_wp2_with fail
        go_ret2
        exact ⟨rfl, K1.out⟩
      · have hzb : (k != 0) = true := by simpa using hz
        have HO : Hid (rtOk s k = false) := by
          show _ = _
          rw [Bool.eq_false_iff]; intro e
          obtain ⟨_, q, rfl, _, h1 | ⟨h1, _⟩⟩ := rtOk_b e
          · omega
          · omega
        have HR := Lib.hid (rtR_no HO.out)
        rw [HR.out, HO.out]
        clear hk hz
        generalize s.length = n at *
        go_enter Try.func37, Try.ntmps37
        go_wp2_with fail
        refine (HI.out _).mono ?_
        rintro e w' ⟨rfl, rfl⟩
        go_wp2_with fail
        go_ret2
        exact ⟨rfl, TurnIn.refl _⟩
  · have hni : (120 : Int) < (s.length : Int) := by omega
    have HO : Hid (rtOk s k = false) := by show _ = _; simp [rtOk, trnOk, hn]
    have HR := Lib.hid (rtR_no HO.out)
    rw [HR.out, HO.out]
    generalize s.length = n at *
    go_enter Try.func37, Try.ntmps37
    go_wp2_with fail
    go_ret2
    exact ⟨rfl, TurnIn.refl _⟩
end Go.Proofs.Ytbfchebnooanjaa
