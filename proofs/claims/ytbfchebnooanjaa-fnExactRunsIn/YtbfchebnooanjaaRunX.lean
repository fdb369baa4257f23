/- Chapter 11: RunsIn, the program's and the model's. -/
import Derived.Test.YtbfchebnooanjaaTurS
set_option linter.unusedSimpArgs false
set_option linter.unusedVariables false
namespace G294
open Go Go.RowKit
def newRun (s : List UInt8) (k : Nat) : Bool := decide (k = 0 ∨ s.getD k 0 ≠ s.getD (k - 1) 0)
def rnsN (s : List UInt8) : Nat → Nat
  | 0 => 0
  | k + 1 => rnsN s k + (if newRun s k = true then 1 else 0)
theorem rnsN_le (s : List UInt8) : ∀ k, rnsN s k ≤ k
  | 0 => Nat.le_refl _
  | k + 1 => by have := rnsN_le s k; unfold rnsN; split <;> omega
theorem rns_first (s : List UInt8) : rnsN s 1 = rnsN s 0 + 1 := by
  show rnsN s 0 + (if newRun s 0 = true then 1 else 0) = _
  rw [if_pos (by simp [newRun])]
theorem rns_same {s : List UInt8} {q : Nat} (h : s.getD (q + 1) 0 = s.getD q 0) : rnsN s (q + 1 + 1) = rnsN s (q + 1) := by
  show rnsN s (q + 1) + (if newRun s (q + 1) = true then 1 else 0) = _
  have hn : ¬ newRun s (q + 1) = true := by
    show ¬ decide (q + 1 = 0 ∨ s.getD (q + 1) 0 ≠ s.getD q 0) = true
    rw [decide_eq_true_eq]
    rintro (e | e)
    · omega
    · exact e h
  rw [if_neg hn, Nat.add_zero]
theorem rns_more {s : List UInt8} {q : Nat} (h : s.getD (q + 1) 0 ≠ s.getD q 0) : rnsN s (q + 1 + 1) = rnsN s (q + 1) + 1 := by
  show rnsN s (q + 1) + (if newRun s (q + 1) = true then 1 else 0) = _
  have hn : newRun s (q + 1) = true := by
    show decide (q + 1 = 0 ∨ s.getD (q + 1) 0 ≠ s.getD q 0) = true
    rw [decide_eq_true_eq]
    exact .inr h
  rw [if_pos hn]
def runR (s : List UInt8) : Int := if trnOk s = true then (rnsN s s.length : Nat) else 0
theorem runR_no {s : List UInt8} (h : trnOk s = false) : runR s = 0 := if_neg (by rw [h]; decide)
theorem runR_yes {s : List UInt8} (h : trnOk s = true) : runR s = (rnsN s s.length : Nat) := if_pos h
end G294
namespace Go.Proofs.Ytbfchebnooanjaa
open Go.RowKit G294

set_option maxRecDepth 100000 in
set_option maxHeartbeats 2000000 in
theorem runsIn_own (s : List UInt8) (w : World) (hs : s.length ≤ 1000000000000) : Calls Try.prog 27 #[.string (str s)] w (RetIntOk w (runR s) (trnOk s)) := by
  have hsz : (str s).size = s.length := str_size s
  have HG := Lib.hid (fun W => goodTurnText_any s W hs)
  by_cases h : trnOk s = true
  · have HO := Lib.hid h
    have HR := Lib.hid (runR_yes h)
    have hn : s.length ≤ 120 := by simpa [trnOk] using h
    rw [HO.out] at HG
    rw [HR.out, HO.out]
    have HL := Lib.hid (rnsN_le s)
    have HSG := Lib.hid (fun k h => str_get s k h)
    clear h
    generalize s.length = n at *
    go_enter Try.func27, Try.ntmps27
    go_wp2_with fail
    refine (HG.out _).mono ?_
    rintro e w' ⟨rfl, rfl⟩
    go_wp2_with fail
    go_loopw [4, 11] (fun x y wr => ∃ k : Nat, k ≤ n ∧ y = .int .i64 k ∧ x = .int .i64 (rnsN s k : Nat) ∧ Below w.heap.size w wr) (fun _ y _ => n - (intOf y).toNat)
    case atStart => exact ⟨0, Nat.zero_le _, rfl, rfl, Below.refl _ _⟩
    case round =>
      obtain ⟨k, hk, rfl, rfl, hb⟩ := hrel
      by_cases hlt : k < n
      · have hki : (k : Int) < (n : Int) := by omega
        have hle := HL.out k
        by_cases hz : k = 0
        · subst hz
          have HE : Hid (rnsN s 1 = rnsN s 0 + 1) := rns_first s
          generalize rnsN s 0 = x at *
          have hz0 : ((0 : Nat) : Int) = 0 := rfl
          go_wp2_with fail
          go_quiet (fail)
          go_wp2_with fail
          go_roundw
          case rel => exact ⟨1, by omega, by go_num, by rw [HE.out]; go_num, below_drewN hb _⟩
          case measure => simp [intOf]; omega
        · obtain ⟨q, rfl⟩ : ∃ q, k = q + 1 := ⟨k - 1, by omega⟩
          have hz0 : ((q : Int) + 1 == 0) = false := by rw [beq_eq_false_iff_ne]; omega
          have g1 := HSG.out (q + 1) (by omega)
          have g2 := HSG.out q (by omega)
          by_cases hx : s.getD (q + 1) 0 = s.getD q 0
          · have HE : Hid (rnsN s (q + 1 + 1) = rnsN s (q + 1)) := rns_same hx
            have hbb := bne_byte (x := s.getD (q + 1) 0) (y := s.getD q 0) false (by rw [hx]; exact bne_self_eq_false _)
            generalize s.getD (q + 1) 0 = c at *
            generalize s.getD q 0 = d at *
            generalize rnsN s (q + 1) = x at *
            clear hx hz
            go_wp2_with fail
            go_quiet (fail)
            go_wp2_with fail
            go_roundw
            case rel => exact ⟨q + 1 + 1, by omega, by go_num, by rw [HE.out], below_drewN hb _⟩
            case measure => simp [intOf]; omega
          · have HE : Hid (rnsN s (q + 1 + 1) = rnsN s (q + 1) + 1) := rns_more hx
            have hbb := bne_byte (x := s.getD (q + 1) 0) (y := s.getD q 0) true (bne_iff_ne.2 hx)
            generalize s.getD (q + 1) 0 = c at *
            generalize s.getD q 0 = d at *
            generalize rnsN s (q + 1) = x at *
            clear hx hz
            go_wp2_with fail
            go_quiet (fail)
            go_wp2_with fail
            go_roundw
            case rel => exact ⟨q + 1 + 1, by omega, by go_num, by rw [HE.out]; go_num, below_drewN hb _⟩
            case measure => simp [intOf]; omega
      · obtain rfl : k = n := by omega
        have hki : ¬ (k : Int) < (k : Int) := by omega
        go_wp2_with fail
        go_ret2
        exact ⟨rfl, TurnIn.of_below hb⟩
  · have HO : Hid (trnOk s = false) := by show trnOk s = false; simpa using h
    have HR := Lib.hid (runR_no HO.out)
    rw [HO.out] at HG
    rw [HR.out, HO.out]
    clear h
    go_enter Try.func27, Try.ntmps27
    go_wp2_with fail
    refine (HG.out _).mono ?_
    rintro e w' ⟨rfl, rfl⟩
    go_wp2_with fail
    go_ret2
    exact ⟨rfl, TurnIn.refl _⟩

set_option maxRecDepth 100000 in
set_option maxHeartbeats 2000000 in
theorem l11Runs_own (s : List UInt8) (w : World) (hs : s.length ≤ 120) : Calls Try.prog 53 #[.string (str s)] w (RetInt w (rnsN s s.length : Nat)) := by
  have hsz : (str s).size = s.length := str_size s
  have HL := Lib.hid (rnsN_le s)
  have HSG := Lib.hid (fun k h => str_get s k h)
  generalize s.length = n at *
  go_enter Try.func53, Try.ntmps53
  go_wp2_with fail
  go_loopw [3, 4] (fun x y wr => ∃ k : Nat, k ≤ n ∧ y = .int .i64 k ∧ x = .int .i64 (rnsN s k : Nat) ∧ Below w.heap.size w wr) (fun _ y _ => n - (intOf y).toNat)
  case atStart => exact ⟨0, Nat.zero_le _, rfl, rfl, Below.refl _ _⟩
  case round =>
    obtain ⟨k, hk, rfl, rfl, hb⟩ := hrel
    by_cases hlt : k < n
    · have hki : (k : Int) < (n : Int) := by omega
      have hle := HL.out k
      by_cases hz : k = 0
      · subst hz
        have HE : Hid (rnsN s 1 = rnsN s 0 + 1) := rns_first s
        generalize rnsN s 0 = x at *
        go_wp2_with fail
        go_quiet (fail)
        go_wp2_with fail
        go_roundw
        case rel => exact ⟨1, by omega, by go_num, by rw [HE.out]; go_num, below_drewN hb _⟩
        case measure => simp [intOf]; omega
      · obtain ⟨q, rfl⟩ : ∃ q, k = q + 1 := ⟨k - 1, by omega⟩
        have hz0 : ((q : Int) + 1 == 0) = false := by rw [beq_eq_false_iff_ne]; omega
        have g1 := HSG.out (q + 1) (by omega)
        have g2 := HSG.out q (by omega)
        by_cases hx : s.getD (q + 1) 0 = s.getD q 0
        · have HE : Hid (rnsN s (q + 1 + 1) = rnsN s (q + 1)) := rns_same hx
          have hbb := bne_byte (x := s.getD q 0) (y := s.getD (q + 1) 0) false (by rw [hx]; exact bne_self_eq_false _)
          generalize s.getD (q + 1) 0 = c at *
          generalize s.getD q 0 = d at *
          generalize rnsN s (q + 1) = x at *
          clear hx hz
          go_wp2_with fail
          go_quiet (fail)
          go_wp2_with fail
          go_roundw
          case rel => exact ⟨q + 1 + 1, by omega, by go_num, by rw [HE.out], below_drewN hb _⟩
          case measure => simp [intOf]; omega
        · have HE : Hid (rnsN s (q + 1 + 1) = rnsN s (q + 1) + 1) := rns_more hx
          have hbb := bne_byte (x := s.getD q 0) (y := s.getD (q + 1) 0) true (bne_iff_ne.2 (Ne.symm hx))
          generalize s.getD (q + 1) 0 = c at *
          generalize s.getD q 0 = d at *
          generalize rnsN s (q + 1) = x at *
          clear hx hz
          go_wp2_with fail
          go_quiet (fail)
          go_wp2_with fail
          go_roundw
          case rel => exact ⟨q + 1 + 1, by omega, by go_num, by rw [HE.out]; go_num, below_drewN hb _⟩
          case measure => simp [intOf]; omega
    · obtain rfl : k = n := by omega
      have hki : ¬ (k : Int) < (k : Int) := by omega
      go_wp2_with fail
      go_ret
      exact ⟨rfl, TurnIn.of_below hb⟩

set_option maxHeartbeats 1000000 in
theorem sRunsIn_own (s : List UInt8) (w : World) (hs : s.length ≤ 1000000000000) : Calls Try.prog 28 #[.string (str s)] w (RetIntOk w (runR s) (trnOk s)) := by
  have hsz : (str s).size = s.length := str_size s
  by_cases h : s.length ≤ 120
  · have HO : Hid (trnOk s = true) := by show _ = _; simpa [trnOk] using h
    have HR := Lib.hid (runR_yes HO.out)
    have HT := Lib.hid (l11Runs_own s w h)
    rw [HR.out, HO.out]
    have hle := rnsN_le s s.length
    generalize rnsN s s.length = x at *
    generalize s.length = n at *
    go_enter Try.func28, Try.ntmps28
    go_wp2_with fail
    refine HT.out.mono ?_
    rintro e w1 ⟨rfl, k1⟩
    have K1 := Lib.hid k1
    clear k1
    go_wp2_with fail
    go_ret2
    exact ⟨rfl, K1.out⟩
  · have HO : Hid (trnOk s = false) := by show _ = _; simpa [trnOk] using h
    have HR := Lib.hid (runR_no HO.out)
    rw [HR.out, HO.out]
    generalize s.length = n at *
    go_enter Try.func28, Try.ntmps28
    go_wp2_with fail
    go_ret2
    exact ⟨rfl, TurnIn.refl _⟩
end Go.Proofs.Ytbfchebnooanjaa
