/- Chapter 11: CountPattern, the program's and the model's. -/
import Derived.Test.YtbfchebnooanjaaRunX
set_option linter.unusedSimpArgs false
set_option linter.unusedVariables false
namespace G294
open Go Go.RowKit
def isAt (s p : List UInt8) (k : Nat) : Bool := (rotL s k).take p.length == p
def cntN (s p : List UInt8) : Nat → Nat
  | 0 => 0
  | k + 1 => cntN s p k + (if isAt s p k = true then 1 else 0)
theorem cntN_le (s p : List UInt8) : ∀ k, cntN s p k ≤ k
  | 0 => Nat.le_refl _
  | k + 1 => by have := cntN_le s p k; unfold cntN; split <;> omega
def cntOk (s p : List UInt8) : Bool := decide (s.length ≤ 120 ∧ 1 ≤ p.length ∧ p.length ≤ s.length)
def cntR (s p : List UInt8) : Int := if cntOk s p = true then (cntN s p s.length : Nat) else 0
theorem cntR_no {s p : List UInt8} (h : cntOk s p = false) : cntR s p = 0 := if_neg (by rw [h]; decide)
theorem cntR_yes {s p : List UInt8} (h : cntOk s p = true) : cntR s p = (cntN s p s.length : Nat) := if_pos h
theorem pre_extract (t : List UInt8) (m : Nat) : (str t).extract 0 m = str (t.take m) := by
  unfold str
  apply ByteArray.ext
  simp [ByteArray.data_extract]
end G294
namespace Go.Proofs.Ytbfchebnooanjaa
open Go.RowKit G294

set_option maxHeartbeats 1000000 in
theorem hasPrefix2_any (t p : List UInt8) (w : World) (hp : p.length ≤ t.length) (ht : t.length ≤ 1000000) : Calls Try.prog 64 #[.string (str t), .string (str p)] w fun e w' => e = .returned (.bool (t.take p.length == p)) ∧ w = w' := by
  have h1 : (str t).size = t.length := str_size t
  have h2 : (str p).size = p.length := str_size p
  have hx := pre_extract t p.length
  have e1 : (str (t.take p.length)).toList = t.take p.length := str_toList _
  have e2 : (str p).toList = p := str_toList _
  generalize t.take p.length = x at *
  generalize p.length = m at *
  generalize t.length = n at *
  go_enter Try.func64, Try.ntmps64
  go_wp2_with fail
  go_ret
  exact ⟨rfl, rfl⟩

set_option maxHeartbeats 1000000 in
theorem hasPrefix_any (t p : List UInt8) (w : World) (hp : p.length ≤ t.length) (ht : t.length ≤ 1000000) : Calls Try.prog 55 #[.string (str t), .string (str p)] w fun e w' => e = .returned (.bool (t.take p.length == p)) ∧ w = w' := by
  have HH := Lib.hid (fun W => hasPrefix2_any t p W hp ht)
  generalize (t.take p.length == p) = b at *
  go_enter Try.func55, Try.ntmps55
  go_wp2_with fail
  refine (HH.out _).mono ?_
  rintro e w' ⟨rfl, rfl⟩
  go_wp2_with fail
  go_ret
  exact ⟨rfl, rfl⟩

set_option maxRecDepth 100000 in
set_option maxHeartbeats 2000000 in
theorem countPattern_own (s p : List UInt8) (w : World) (hs : s.length ≤ 1000000000000) (hp : p.length ≤ 1000000000000) : Calls Try.prog 31 #[.string (str s), .string (str p)] w (RetIntOk w (cntR s p) (cntOk s p)) := by
  have hsz : (str s).size = s.length := str_size s
  have hsp : (str p).size = p.length := str_size p
  have HG := Lib.hid (fun W => goodTurnText_any s W hs)
  by_cases h1 : s.length ≤ 120
  · rw [show trnOk s = true by simpa [trnOk] using h1] at HG
    by_cases h2 : p.length = 0
    · have HO : Hid (cntOk s p = false) := by show _ = _; simp [cntOk, h2]
      have HR := Lib.hid (cntR_no HO.out)
      rw [HR.out, HO.out]
      rw [h2] at hsp
      generalize s.length = n at *
      clear h2
      go_enter Try.func31, Try.ntmps31
      go_wp2_with fail
      refine (HG.out _).mono ?_
      rintro e w' ⟨rfl, rfl⟩
      go_wp2_with fail
      go_ret2
      exact ⟨rfl, TurnIn.refl _⟩
    · have h2b : ((p.length : Int) == 0) = false := beq_eq_false_iff_ne.2 (by omega)
      by_cases h3 : p.length ≤ s.length
      · have h3i : ¬ (s.length : Int) < (p.length : Int) := by omega
        have h3d : decide ((s.length : Int) < (p.length : Int)) = false := decide_eq_false h3i
        have h3n : decide (s.length < p.length) = false := decide_eq_false (by omega)
        have HO : Hid (cntOk s p = true) := by show _ = _; simp only [cntOk, decide_eq_true_eq]; omega
        have HR := Lib.hid (cntR_yes HO.out)
        rw [HR.out, HO.out]
        have HA : Hid (str s ++ str s = str (s ++ s)) := str_append s s
        have HRI := Lib.hid (fun k W (hk : k ≤ s.length) => rotationIn_any s k W hk (by omega))
        have HHP := Lib.hid (fun k W (hk : k ≤ s.length) => hasPrefix_any (rotL s k) p W (by rw [rotL_len s hk]; exact h3) (by rw [rotL_len s hk]; omega))
        have HN : Hid (∀ k, cntN s p (k + 1) = cntN s p k + (if isAt s p k = true then 1 else 0)) := fun _ => rfl
        have HI : Hid (∀ k, ((rotL s k).take p.length == p) = isAt s p k) := fun _ => rfl
        have HL := Lib.hid (cntN_le s p)
        generalize s.length = n at *
        generalize hmm : p.length = m at *
        clear h2 hmm
        go_enter Try.func31, Try.ntmps31
        go_wp2_with fail
        refine (HG.out _).mono ?_
        rintro e w' ⟨rfl, rfl⟩
        go_wp2_with fail
        rw [HA.out]
        go_loopw [7, 29] (fun x y wr => ∃ k : Nat, k ≤ n ∧ y = .int .i64 k ∧ x = .int .i64 (cntN s p k : Nat) ∧ Below w.heap.size w wr) (fun _ y _ => n - (intOf y).toNat)
        case atStart => exact ⟨0, Nat.zero_le _, rfl, rfl, Below.refl _ _⟩
        case round =>
          obtain ⟨k, hk, rfl, rfl, hb⟩ := hrel
          by_cases hlt : k < n
          · have hki : (k : Int) < (n : Int) := by omega
            have hle := HL.out k
            have HRK := Lib.hid (fun W => HRI.out k W (by omega))
            have HHK := Lib.hid (fun W => HHP.out k W (by omega))
            have HNK := Lib.hid (HN.out k)
            rw [HI.out k] at HHK
            go_wp2_with fail
            refine (HRK.out _).mono ?_
            rintro e w' ⟨rfl, rfl⟩
            go_wp2_with fail
            refine (HHK.out _).mono ?_
            rintro e w' ⟨rfl, rfl⟩
            generalize isAt s p k = b at *
            generalize cntN s p k = x at *
            cases b with
            | true =>
              go_wp2_with fail
              go_roundw
              case rel => exact ⟨k + 1, by omega, by go_num, by rw [HNK.out]; go_num, hb⟩
              case measure => simp [intOf]; omega
            | false =>
              go_wp2_with fail
              go_roundw
              case rel => exact ⟨k + 1, by omega, by go_num, by rw [HNK.out]; rfl, hb⟩
              case measure => simp [intOf]; omega
          · obtain rfl : k = n := by omega
            have hki : ¬ (k : Int) < (k : Int) := by omega
            go_wp2_with fail
            go_ret2
            exact ⟨rfl, TurnIn.of_below hb⟩
      · have h3i : (s.length : Int) < (p.length : Int) := by omega
        have HO : Hid (cntOk s p = false) := by show _ = _; simp only [cntOk, decide_eq_false_iff_not]; omega
        have HR := Lib.hid (cntR_no HO.out)
        rw [HR.out, HO.out]
        generalize s.length = n at *
        generalize p.length = m at *
        clear h2
        go_enter Try.func31, Try.ntmps31
        go_wp2_with fail
        refine (HG.out _).mono ?_
        rintro e w' ⟨rfl, rfl⟩
        go_wp2_with fail
        go_ret2
        exact ⟨rfl, TurnIn.refl _⟩
  · have HO : Hid (cntOk s p = false) := by show _ = _; simp only [cntOk, decide_eq_false_iff_not]; omega
    have HR := Lib.hid (cntR_no HO.out)
    rw [show trnOk s = false by simpa [trnOk] using h1] at HG
    rw [HR.out, HO.out]
    go_enter Try.func31, Try.ntmps31
    go_wp2_with fail
    refine (HG.out _).mono ?_
    rintro e w' ⟨rfl, rfl⟩
    go_wp2_with fail
    go_ret2
    exact ⟨rfl, TurnIn.refl _⟩

set_option maxRecDepth 100000 in
set_option maxHeartbeats 2000000 in
theorem sCountPattern_own (s p : List UInt8) (w : World) (hs : s.length ≤ 1000000000000) (hp : p.length ≤ 1000000000000) : Calls Try.prog 32 #[.string (str s), .string (str p)] w (RetIntOk w (cntR s p) (cntOk s p)) := by
  have hsz : (str s).size = s.length := str_size s
  have hsp : (str p).size = p.length := str_size p
  have HI := Lib.hid (fun W => l1In_any (p.length : Int) 1 (s.length : Int) W)
  by_cases h1 : s.length ≤ 120
  · by_cases h3 : 1 ≤ p.length ∧ p.length ≤ s.length
    · obtain ⟨h3a, h3b⟩ := h3
      have HIN : Hid (inB (p.length : Int) 1 (s.length : Int) = true) := by show _ = _; simp [inB]; omega
      have HO : Hid (cntOk s p = true) := by show _ = _; simp only [cntOk, decide_eq_true_eq]; omega
      have HR := Lib.hid (cntR_yes HO.out)
      rw [HR.out, HO.out]
      rw [HIN.out] at HI
      obtain ⟨cp, w1, hcv, hc1, hc2, hO, hb1⟩ := bytes_of_str (P := Try.prog) w 9 22 5 s Try.underlying9 Try.underlying22 Try.underlying5 (by unfold maxLen; omega)
      have HB1 := Lib.hid (TurnIn.of_below hb1)
      have HT := Lib.hid (fun k W (hk : k ≤ s.length) => l11Turn_any s k W hk (by omega))
      have HZ := Lib.hid (fun k (hk : k ≤ s.length) => (show (str (rotL s k)).size = s.length by rw [str_size, rotL_len s hk]))
      have HX := Lib.hid (fun k => pre_extract (rotL s k) p.length)
      have HE := Lib.hid (fun k => (show ((str ((rotL s k).take p.length)).toList == (str p).toList) = isAt s p k by rw [str_toList, str_toList]; rfl))
      have HN : Hid (∀ k, cntN s p (k + 1) = cntN s p k + (if isAt s p k = true then 1 else 0)) := fun _ => rfl
      have HL := Lib.hid (cntN_le s p)
      clear hb1 hO
      generalize s.length = n at *
      generalize hmm : p.length = m at *
      clear hmm
      go_enter Try.func32, Try.ntmps32
      go_wp2_with fail
      refine (HI.out _).mono ?_
      rintro e w' ⟨rfl, rfl⟩
      go_wp2_with fail
      go_loopw [6, 22] (fun x y wr => ∃ k : Nat, k ≤ n ∧ y = .int .i64 k ∧ x = .int .i64 (cntN s p k : Nat) ∧ Hid (TurnIn 0 0 w wr)) (fun _ y _ => n - (intOf y).toNat)
      case atStart => exact ⟨0, Nat.zero_le _, rfl, rfl, HB1⟩
      case round =>
        clear hcv HB1
        obtain ⟨k, hk, rfl, rfl, HK⟩ := hrel
        by_cases hlt : k < n
        · have hki : (k : Int) < (n : Int) := by omega
          have hle := HL.out k
          have HTK := Lib.hid (fun W => HT.out k W (by omega))
          have hz := HZ.out k (by omega)
          have hx := HX.out k
          have he := HE.out k
          have HNK := Lib.hid (HN.out k)
          generalize (rotL s k).take m = y at *
          generalize rotL s k = r at *
          generalize isAt s p k = b at *
          generalize cntN s p k = x at *
          go_wp2_with fail
          refine (HTK.out _).mono ?_
          rintro e w3 ⟨rfl, k3⟩
          have K3 := Lib.hid (turn_trans HK.out k3 (by omega))
          clear k3
          cases b with
          | true =>
            go_wp2_with fail
            go_roundw
            case rel => exact ⟨k + 1, by omega, by go_num, by rw [HNK.out]; go_num, K3⟩
            case measure => simp [intOf]; omega
          | false =>
            go_wp2_with fail
            go_roundw
            case rel => exact ⟨k + 1, by omega, by go_num, by rw [HNK.out]; rfl, K3⟩
            case measure => simp [intOf]; omega
        · obtain rfl : k = n := by omega
          have hki : ¬ (k : Int) < (k : Int) := by omega
          go_wp2_with fail
          go_ret2
          exact ⟨rfl, HK.out⟩
    · have HIN : Hid (inB (p.length : Int) 1 (s.length : Int) = false) := by
        show _ = _
        rw [Bool.eq_false_iff]; intro e
        simp only [inB, decide_eq_true_eq] at e
        omega
      have HO : Hid (cntOk s p = false) := by show _ = _; simp only [cntOk, decide_eq_false_iff_not]; omega
      have HR := Lib.hid (cntR_no HO.out)
      rw [HR.out, HO.out]
      rw [HIN.out] at HI
      clear h3
      generalize s.length = n at *
      generalize p.length = m at *
      go_enter Try.func32, Try.ntmps32
      go_wp2_with fail
      refine (HI.out _).mono ?_
      rintro e w' ⟨rfl, rfl⟩
      go_wp2_with fail
      go_ret2
      exact ⟨rfl, TurnIn.refl _⟩
  · have HO : Hid (cntOk s p = false) := by show _ = _; simp only [cntOk, decide_eq_false_iff_not]; omega
    have HR := Lib.hid (cntR_no HO.out)
    rw [HR.out, HO.out]
    generalize s.length = n at *
    go_enter Try.func32, Try.ntmps32
    go_wp2_with fail
    go_ret2
    exact ⟨rfl, TurnIn.refl _⟩
end Go.Proofs.Ytbfchebnooanjaa
