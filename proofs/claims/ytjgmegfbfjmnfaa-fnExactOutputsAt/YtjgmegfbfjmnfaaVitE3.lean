/- Chapter 10: outputs at a state, differences, distances, costs, flipped bits: the program's. -/
import Derived.Test.YtjgmegfbfjmnfaaVitE2
import Derived.Test.YtjgmegfbfjmnfaaPartWalks
import Derived.Deep.RegionHeld3
set_option linter.unusedSimpArgs false
set_option linter.unusedVariables false
namespace Go.Proofs.Ytjgmegfbfjmnfaa
open Go.RowKit G294

set_option maxRecDepth 100000 in
set_option maxHeartbeats 2000000 in
theorem outputsAt_own (st b : Int) (w : World) : Calls Try.prog 24 #[.int .i64 st, .int .i64 b] w (RetOut3 w (outS st b) (outX st b) (outOk st b)) := by
  have HD : Hid (outOk st b = (inB st 0 3 && inB b 0 1)) := Lib.hid rfl
  have HS : Hid (outOk st b = false → outS st b = [] ∧ outX st b = 0) := fun h => ⟨if_neg (by rw [h]; decide), if_neg (by rw [h]; decide)⟩
  have HY : Hid (outOk st b = true → outS st b = outN st.toNat b.toNat ∧ outX st b = (nxtN st.toNat b.toNat : Int)) := fun h => ⟨if_pos h, if_pos h⟩
  by_cases h1 : st < 0
  · have hd1 : decide (st < 0) = true := by simpa using h1
    have HO : Hid (outOk st b = false) := by show _ = _; rw [HD.out, show inB st 0 3 = false by simp [inB]; omega]; rfl
    have HR := Lib.hid (HS.out HO.out)
    clear h1
    go_enter Try.func24, Try.ntmps24
    go_wp2_with fail
    refine bodyPost_ret (v := .tuple #[.string (str []), .int .i64 0, .bool false]) (by simp [results, Try.results24, go_sem]; rfl) rfl ?_
    exact ⟨by rw [HR.out.1, HR.out.2, HO.out], TurnIn.refl _⟩
  have hd1 : decide (st < 0) = false := by simpa using h1
  by_cases h2 : 4 ≤ st
  · have hd2 : decide (4 ≤ st) = true := by simpa using h2
    have HO : Hid (outOk st b = false) := by show _ = _; rw [HD.out, show inB st 0 3 = false by simp [inB]; omega]; rfl
    have HR := Lib.hid (HS.out HO.out)
    go_enter Try.func24, Try.ntmps24
    go_wp2_with fail
    refine bodyPost_ret (v := .tuple #[.string (str []), .int .i64 0, .bool false]) (by simp [results, Try.results24, go_sem]; rfl) rfl ?_
    exact ⟨by rw [HR.out.1, HR.out.2, HO.out], TurnIn.refl _⟩
  have hd2 : decide (4 ≤ st) = false := by simpa using h2
  by_cases h3 : b < 0
  · have hd3 : decide (b < 0) = true := by simpa using h3
    have HO : Hid (outOk st b = false) := by show _ = _; rw [HD.out, show inB b 0 1 = false by simp [inB]; omega]; simp
    have HR := Lib.hid (HS.out HO.out)
    go_enter Try.func24, Try.ntmps24
    go_wp2_with fail
    refine bodyPost_ret (v := .tuple #[.string (str []), .int .i64 0, .bool false]) (by simp [results, Try.results24, go_sem]; rfl) rfl ?_
    exact ⟨by rw [HR.out.1, HR.out.2, HO.out], TurnIn.refl _⟩
  have hd3 : decide (b < 0) = false := by simpa using h3
  by_cases h4 : 1 < b
  · have hd4 : decide (1 < b) = true := by simpa using h4
    have HO : Hid (outOk st b = false) := by show _ = _; rw [HD.out, show inB b 0 1 = false by simp [inB]; omega]; simp
    have HR := Lib.hid (HS.out HO.out)
    go_enter Try.func24, Try.ntmps24
    go_wp2_with fail
    refine bodyPost_ret (v := .tuple #[.string (str []), .int .i64 0, .bool false]) (by simp [results, Try.results24, go_sem]; rfl) rfl ?_
    exact ⟨by rw [HR.out.1, HR.out.2, HO.out], TurnIn.refl _⟩
  have hd4 : decide (1 < b) = false := by simpa using h4
  have HO : Hid (outOk st b = true) := by show _ = _; rw [HD.out, show inB st 0 3 = true by simp [inB]; omega, show inB b 0 1 = true by simp [inB]; omega]; rfl
  have HR := Lib.hid (HY.out HO.out)
  obtain ⟨n, rfl⟩ := Int.eq_ofNat_of_zero_le (show 0 ≤ st by omega)
  obtain ⟨m, rfl⟩ := Int.eq_ofNat_of_zero_le (show 0 ≤ b by omega)
  simp only [Int.toNat_natCast] at HR
  have hn4 : n < 4 := by omega
  have hm2 : m < 2 := by omega
  have HG := Lib.hid (registerOf_own n w hn4)
  have hmb : (m : Int) = ((UInt8.ofNat m).toNat : Int) := by
    match m, hm2 with
    | 0, _ => rfl
    | 1, _ => rfl
  have HRW := Lib.hid (outs_raw n hn4 m hm2)
  have HNX := Lib.hid (reg_next n hn4 m hm2)
  have HNN := Lib.hid (reg_num (nxtN n m) (nxtN_lt hn4 hm2))
  have HMB := Lib.hid hmb
  clear h1 h2 h3 h4 HS HY hmb
  go_enter Try.func24, Try.ntmps24
  go_wp2_with fail
  refine HG.out.mono ?_
  rintro e w1 ⟨rfl, k1⟩
  generalize regH n = X at *
  generalize regL n = L at *
  generalize hbb : UInt8.ofNat m = bb at *
  unfold regV
  have HBX := Lib.hid (boxV2_new w1 (.int .u8 (X.toNat : Int)) (.int .u8 (L.toNat : Int)) 68)
  have q0 := HBX.out.c0
  have q1 := HBX.out.c1
  have ql := HBX.out.lt
  obtain ⟨B, hB⟩ : ∃ B, B = w1.heap.size := ⟨_, rfl⟩
  have HK2 := Lib.hid (turn_trans k1 (turn_alloc w1 (.cells #[.int .u8 (X.toNat : Int), .int .u8 (L.toNat : Int)] 68)) (by omega))
  rw [← hB] at HBX q0 q1 ql
  have HOUT : Hid (∀ W, Calls Try.prog 50 #[.agg #[.int .u8 (X.toNat : Int), .int .u8 (L.toNat : Int)], .int .u8 (m : Int)] W (RetBytes 5 W (raw (outN n m)))) := fun W => by rw [HMB.out, ← HRW.out]; exact outputs_own X L bb W
  have HAFT : Hid (∀ W, Calls Try.prog 51 #[.agg #[.int .u8 (X.toNat : Int), .int .u8 (L.toNat : Int)], .int .u8 (m : Int)] W (RetReg W bb X)) := fun W => by rw [HMB.out]; exact after_own X L bb W
  have HNUM : Hid (∀ W, Calls Try.prog 58 #[regV bb X] W (RetInt W ((nxtN n m : Nat) : Int))) := fun W => by
    have h := HNN.out
    rw [HNX.out.1, HNX.out.2] at h
    have := number_own bb X W h.2.1 h.2.2
    rw [h.1] at this
    exact this
  have HTX : Hid (∀ W v, Seen W v (bys (raw (outN n m))) → Calls Try.prog 52 #[v] W (RetStr W (outN n m))) := fun W v hv => by
    have := bitText_own v (raw (outN n m)) W hv (by simp)
    rw [txt_raw] at this
    exact this
  go_wp2_with fail
  rw [← hB]
  generalize (w1.alloc (.cells #[.int .u8 (X.toNat : Int), .int .u8 (L.toNat : Int)] 68)) = w2 at *
  clear hB k1
  have hw8 : IntKind.u8.wrap (m : Int) = (m : Int) := by
    match m, hm2 with
    | 0, _ => rfl
    | 1, _ => rfl
  have hw9 : (m : Int) % 256 = (m : Int) := by omega
  have S0 : w2.cell? ⟨B, 0, none⟩ = some (.int .u8 (X.toNat : Int)) ∧ w2.cell? ⟨B, 1, none⟩ = some (.int .u8 (L.toNat : Int)) := ⟨q0, q1⟩
  go_region_held3 (fun W => W.cell? ⟨B, 0, none⟩ = some (.int .u8 (X.toNat : Int)) ∧ W.cell? ⟨B, 1, none⟩ = some (.int .u8 (L.toNat : Int)))
    (first | exact S6 | exact S5 | exact S4 | exact S3 | exact S0)
    (first
      | (go_at_call 50; (with_reducible refine (HOUT.out _).mono ?_); rintro e w3 ⟨vo, rfl, oo, k3⟩; have S3 : w3.cell? ⟨B, 0, none⟩ = some (.int .u8 (X.toNat : Int)) ∧ w3.cell? ⟨B, 1, none⟩ = some (.int .u8 (L.toNat : Int)) := ⟨cell_turn k3 q0 ql, cell_turn k3 q1 ql⟩; have l3 := Nat.lt_of_lt_of_le ql k3.size; have HSE := Lib.hid oo.seen; clear oo)
      | (go_at_call 52; (with_reducible refine (HTX.out _ _ HSE.out).mono ?_); rintro e w4 ⟨rfl, k4⟩; have S4 : w4.cell? ⟨B, 0, none⟩ = some (.int .u8 (X.toNat : Int)) ∧ w4.cell? ⟨B, 1, none⟩ = some (.int .u8 (L.toNat : Int)) := ⟨cell_turn k4 S3.1 l3, cell_turn k4 S3.2 l3⟩; have l4 := Nat.lt_of_lt_of_le l3 k4.size)
      | (go_at_call 51; (with_reducible refine (HAFT.out _).mono ?_); rintro e w5 ⟨rfl, k5⟩; have S5 : w5.cell? ⟨B, 0, none⟩ = some (.int .u8 (X.toNat : Int)) ∧ w5.cell? ⟨B, 1, none⟩ = some (.int .u8 (L.toNat : Int)) := ⟨cell_turn k5 S4.1 l4, cell_turn k5 S4.2 l4⟩; have l5 := Nat.lt_of_lt_of_le l4 k5.size)
      | (go_at_call 58; (with_reducible refine (HNUM.out _).mono ?_); rintro e w6 ⟨rfl, k6⟩; have S6 : w6.cell? ⟨B, 0, none⟩ = some (.int .u8 (X.toNat : Int)) ∧ w6.cell? ⟨B, 1, none⟩ = some (.int .u8 (L.toNat : Int)) := ⟨cell_turn k6 S5.1 l5, cell_turn k6 S5.2 l5⟩))
  all_goals
    have j3 : TurnIn 0 0 w2 w3 := ⟨k3.os, k3.tape, k3.output, k3.size, k3.block⟩
    have j4 : TurnIn 0 0 w3 w4 := ⟨k4.os, k4.tape, k4.output, k4.size, k4.block⟩
    have j5 : TurnIn 0 0 w4 w5 := ⟨k5.os, k5.tape, k5.output, k5.size, k5.block⟩
    have j6 : TurnIn 0 0 w5 w6 := ⟨k6.os, k6.tape, k6.output, k6.size, k6.block⟩
    have JJ := Lib.hid (turn_trans (turn_trans (turn_trans (turn_trans HK2.out j3 (by omega)) j4 (by omega)) j5 (by omega)) j6 (by omega))
    clear j3 j4 j5 j6
    go_wp2_with fail
    refine bodyPost_ret (v := .tuple #[.string (str (outN n m)), .int .i64 (nxtN n m : Nat), .bool true]) (by simp [results, Try.results24, go_sem]) rfl ?_
    exact ⟨by rw [HR.out.1, HR.out.2, HO.out], JJ.out⟩

end Go.Proofs.Ytjgmegfbfjmnfaa
