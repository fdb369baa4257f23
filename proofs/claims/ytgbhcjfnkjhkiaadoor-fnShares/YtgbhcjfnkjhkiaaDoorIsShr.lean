/- IsShared: the program's and the model's. -/
import Derived.Test.YtgbhcjfnkjhkiaaDoorOpenSec
import Derived.BigQuiet
import Derived.Deep.RegionHeld3
set_option linter.unusedSimpArgs false
set_option linter.unusedVariables false
namespace G294
open Go Go.RowKit
theorem isSOk_no {l : List Sr} {k : Int} (h : shrOk l = false) : isSOk l k = false := by simp [isSOk, h]
theorem isSOk_bad {l : List Sr} {k : Int} (h : ¬ (1 ≤ k ∧ k ≤ 20)) : isSOk l k = false := by
  unfold isSOk
  rw [decide_eq_false h, Bool.and_false]
theorem isSOk_yes {l : List Sr} {k : Int} (h : shrOk l = true) (h1 : 1 ≤ k) (h2 : k ≤ 20) : isSOk l k = true := by simp [isSOk, h, h1, h2]
theorem isSR_no {l : List Sr} {k : Int} (h : isSOk l k = false) : isSR l k = false := by simp [isSR, h]
theorem isSR_yes {l : List Sr} {k : Int} (h : isSOk l k = true) : isSR l k = onAll l k.toNat := by simp [isSR, h]
theorem onAll_iff (l : List Sr) (k : Nat) : onAll l k = true ↔ ∀ i, i < l.length → k ≤ i → lag (xF l) (yF l) (xF l i) k = yF l i := by simp only [onAll, decide_eq_true_eq]
/-- what the program compares -/
theorem thr_on {l : List Sr} (h : shrOk l = true) (k : Nat) : (thr (l.take (min k l.length)) == thr l) = onAll l k := by
  have h20 := shr_20 h
  have ha := shr_apart h
  rw [Bool.eq_iff_iff, beq_iff_eq, onAll_iff]
  by_cases hk : k ≤ l.length
  · rw [Nat.min_eq_left hk, thr_same h20 ha hk]
    exact ⟨fun h i hi hki => h i hki hi, fun h i hki hi => h i hi hki⟩
  · rw [Nat.min_eq_right (by omega), List.take_of_length_le (Nat.le_refl _)]
    exact ⟨fun _ i hi hki => by omega, fun _ => rfl⟩
end G294
namespace Go.Proofs.YtgbhcjfnkjhkiaaDoor
open Go.RowKit G294

theorem eqgCoef (x y : Operand) (xs ys : List UInt8) (w : World) : (eqGuard .eql 136 x y (aggL xs) (aggL ys)).run Tryd.prog w = .ok () w := run_eqGuard_agg w .eql 136 x y _ _ (by kernel_rfl)

theorem eqlCoef (xs ys : List UInt8) (hx : xs.length = 20) (hy : ys.length = 20) (w : World) : (binOp .eql 136 (aggL xs) (aggL ys)).run Tryd.prog w = .ok (.bool (xs == ys)) w :=
  run_eql_bytes w 136 5 20 Tryd.underlying136 Tryd.underlying5 (fun w => by
    have := sizeByteA
    cases hq : Tryd.prog.info? 5 with
    | none => simp [hq] at this
    | some i => simp [hq] at this; simp [Go.sizeOf, typeInfo, hq, this]) xs ys hx hy

set_option maxRecDepth 100000 in
set_option maxHeartbeats 1000000 in
theorem isShared_own (v : Value) (l : List Sr) (k : Int) (w : World) (hv : SeenR w v l) (ht : Tab w) (h0 : 0 < w.heap.size) :
    Calls Tryd.prog 41 #[v, .int .i64 k] w fun e w' => e = .returned (.tuple #[.bool (isSR l k), .bool (isSOk l k)]) ∧ TurnIn 0 0 w w' := by
  have HV := Lib.hid hv
  have HT := Lib.hid ht
  obtain ⟨A, c, rfl, hlc, hcm, _⟩ := hv
  unfold maxLen at hcm
  clear ht
  by_cases hs : shrOk l = true
  · have HS := Lib.hid hs
    have h20 := shr_20 hs
    clear hs
    by_cases h1 : k < 1
    · have HO := Lib.hid (isSOk_bad (l := l) (k := k) (by omega))
      have HR := Lib.hid (isSR_no HO.out)
      generalize hnn : l.length = n at *
      clear hnn
      have hd1 : decide (k < 1) = true := by simpa using h1
      go_enter Tryd.func41, Tryd.ntmps41
      go_wp2_with fail
      refine (goodShares_own _ l _ HV.out).mono ?_
      rintro e w1 ⟨rfl, k1⟩
      rw [HS.out]
      go_wp2_with fail
      go_ret2
      exact ⟨by rw [HR.out, HO.out]; rfl, k1⟩
    · by_cases h2 : 20 < k
      · have HO := Lib.hid (isSOk_bad (l := l) (k := k) (by omega))
        have HR := Lib.hid (isSR_no HO.out)
        generalize hnn : l.length = n at *
        clear hnn
        have hd1 : decide (k < 1) = false := by simpa using h1
        have hd2 : decide (20 < k) = true := by simpa using h2
        go_enter Tryd.func41, Tryd.ntmps41
        go_wp2_with fail
        refine (goodShares_own _ l _ HV.out).mono ?_
        rintro e w1 ⟨rfl, k1⟩
        rw [HS.out]
        go_wp2_with fail
        go_ret2
        exact ⟨by rw [HR.out, HO.out]; rfl, k1⟩
      · obtain ⟨m, rfl⟩ := Int.eq_ofNat_of_zero_le (show 0 ≤ k by omega)
        have HO := Lib.hid (isSOk_yes HS.out (show (1 : Int) ≤ m by omega) (show (m : Int) ≤ 20 by omega))
        have HR : Hid (isSR l m = onAll l m) := isSR_yes HO.out
        have HON := Lib.hid (thr_on HS.out m)
        have hq : min m l.length ≤ l.length := Nat.min_le_right _ _
        have HCU : Hid (∀ W, TurnIn 0 0 w W → SeenR W (.slice A (min m l.length) c) (l.take (min m l.length))) := fun W hW => (HV.out.below hW.to_below).cut hq
        have HTL : Hid ((l.take (min m l.length)).length ≤ 20) := by show _ ≤ _; rw [List.length_take]; omega
        have HEQ := Lib.hid (fun W => eqlCoef (thr (l.take (min m l.length))) (thr l) (thr_len _) (thr_len _) W)
        have HL20 := Lib.hid h20
        have hsp : (m ≤ l.length ∧ min m l.length = m) ∨ (l.length < m ∧ min m l.length = l.length) := by omega
        generalize hqq : min m l.length = q at *
        generalize hnn : l.length = n at *
        have HN := Lib.hid hnn
        clear hnn hqq
        have hd1 : decide ((m : Int) < 1) = false := by simpa using h1
        have hd2 : decide (20 < (m : Int)) = false := by simpa using h2
        clear h1 h2
        rcases hsp with ⟨hmn, rfl⟩ | ⟨hmn, rfl⟩
        all_goals
          have hqc : (q : Int) ≤ (c : Int) := by omega
          go_enter Tryd.func41, Tryd.ntmps41
          go_wp2_with fail
          refine (goodShares_own _ l _ HV.out).mono ?_
          rintro e w1 ⟨rfl, k1⟩
          rw [HS.out]
          have z1 := k1.size
          go_wp2_with fail
          refine (through_own _ (l.take q) _ (HCU.out _ k1) HTL.out (HT.out.below k1.to_below h0) (by omega)).mono ?_
          rintro e w2 ⟨rfl, k2⟩
          have k3 := turn_trans k1 k2 (by omega)
          have z3 := k3.size
          go_wp2_with fail
          refine (through_own _ l _ (HV.out.below k3.to_below) (by rw [HN.out]; exact h20) (HT.out.below k3.to_below h0) (by omega)).mono ?_
          rintro e w4 ⟨rfl, k4⟩
          have k5 := turn_trans k3 k4 (by omega)
          go_wp2_with (refine wpList_eql_arr rfl _ _ _ _ rfl _ _ rfl rfl (eqgCoef _ _ _ _ _) (HEQ.out _) ?_)
          rw [HON.out]
          go_wp2_with fail
          go_ret2
          exact ⟨by rw [HR.out, HO.out]; rfl, k5⟩
  · have HS : Hid (shrOk l = false) := by show _ = _; simpa using hs
    have HO := Lib.hid (isSOk_no (k := k) HS.out)
    have HR := Lib.hid (isSR_no HO.out)
    clear hs
    generalize hnn : l.length = n at *
    clear hnn
    go_enter Tryd.func41, Tryd.ntmps41
    go_wp2_with fail
    refine (goodShares_own _ l _ HV.out).mono ?_
    rintro e w1 ⟨rfl, k1⟩
    rw [HS.out]
    go_wp2_with fail
    go_ret2
    exact ⟨by rw [HR.out, HO.out]; rfl, k1⟩

set_option maxRecDepth 100000 in
set_option maxHeartbeats 2000000 in
theorem sIsShared_own (v : Value) (l : List Sr) (k : Int) (w : World) (hv : SeenR w v l) :
    Calls Tryd.prog 60 #[v, .int .i64 k] w fun e w' => e = .returned (.tuple #[.bool (isSR l k), .bool (isSOk l k)]) ∧ TurnIn 0 0 w w' := by
  have HV := Lib.hid hv
  obtain ⟨A, c, rfl, hlc, hcm, hx⟩ := hv
  unfold maxLen at hcm
  have HX := Lib.hid hx
  clear hx
  by_cases hs : shrOk l = true
  · have HS := Lib.hid hs
    have h20 := shr_20 hs
    clear hs
    by_cases h1 : 1 ≤ k ∧ k ≤ 20
    · have HIN : Hid (inB k 1 20 = true) := by show decide _ = _; simpa using h1
      obtain ⟨m, rfl⟩ := Int.eq_ofNat_of_zero_le (show 0 ≤ k by omega)
      have HO := Lib.hid (isSOk_yes HS.out h1.1 h1.2)
      have HR : Hid (isSR l m = onAll l m) := isSR_yes HO.out
      have HON := Lib.hid (onAll_iff l m)
      have HLT := Lib.hid (lag_take l m)
      generalize hnn : l.length = n at *
      have HN := Lib.hid hnn
      clear hnn
      have hm1 : 1 ≤ m := by omega
      have hm2 : m ≤ 20 := by omega
      clear h1
      go_enter Tryd.func60, Tryd.ntmps60
      go_wp2_with fail
      refine (l7Shares_own _ l _ HV.out).mono ?_
      rintro e w1 ⟨rfl, k1⟩
      rw [HS.out]
      go_wp2_with fail
      refine (l1In_any _ 1 20 _).mono ?_
      rintro e w' ⟨rfl, rfl⟩
      rw [HIN.out]
      go_wp2_with fail
      go_loopw [18] (fun i wr => ∃ k : Nat, k ≤ n ∧ i = .int .i64 k ∧ Hid (∀ i, i < k → m ≤ i → lag (xF l) (yF l) (xF l i) m = yF l i) ∧ TurnIn 0 0 w wr)
        (fun i _ => n - (intOf i).toNat)
      case atStart => exact ⟨0, Nat.zero_le _, rfl, (fun _ h => by omega), k1⟩
      case round =>
        obtain ⟨k, hk, rfl, HE, k5⟩ := hrel
        clear k1
        by_cases hlt : k < n
        · have hki : (k : Int) < (n : Int) := by omega
          obtain ⟨b, off, rfl, hbl, hcell⟩ := HX.out (by omega)
          obtain ⟨⟨x, y⟩, hks⟩ := at_ltR HN.out hlt
          obtain ⟨e1, e2⟩ := at_xy hks
          have hb5 := k5.to_below
          have hc1 := (hb5.cell (p := ⟨b, off + k * 2, none⟩) hbl).trans (hcell k _ hks).1
          have hc2 := (hb5.cell (p := ⟨b, off + k * 2 + 1, none⟩) hbl).trans (hcell k _ hks).2
          simp only at hc1 hc2 e1 e2
          have ta := turn_alloc wr (.cells #[.int .u8 (x.toNat : Int), .int .u8 (y.toNat : Int)] 59)
          have hp0 : (wr.alloc (.cells #[.int .u8 (x.toNat : Int), .int .u8 (y.toNat : Int)] 59)).cell? ⟨wr.heap.size, 0, none⟩ = some (.int .u8 (x.toNat : Int)) := by simp
          have hp1 : (wr.alloc (.cells #[.int .u8 (x.toNat : Int), .int .u8 (y.toNat : Int)] 59)).cell? ⟨wr.heap.size, 1, none⟩ = some (.int .u8 (y.toNat : Int)) := by simp
          have zq := World.size_alloc wr (.cells #[.int .u8 (x.toNat : Int), .int .u8 (y.toNat : Int)] 59)
          have k6 := turn_trans k5 ta (by omega)
          have z5 := k5.size
          have HE1 := Lib.hid e1
          have HE2 := Lib.hid e2
          clear hcell hks hb5 ta k5 e1 e2
          by_cases hmk : m ≤ k
          · have hd : decide ((m : Int) ≤ (k : Int)) = true := by simpa using hmk
            have hmn : m ≤ n := by omega
            have HLK := Lib.hid (HLT.out hmn x)
            have HCU : Hid (∀ W, TurnIn 0 0 w W → SeenR W (.slice (some ⟨b, off, none⟩) m c) (l.take m)) := fun W hW => by
              have h := HV.out.below hW.to_below
              rw [← HN.out] at h hmn
              exact h.cut hmn
            have hmc : (m : Int) ≤ (c : Int) := by omega
            go_wp2_with fail
            generalize wr.alloc (.cells #[.int .u8 (x.toNat : Int), .int .u8 (y.toNat : Int)] 59) = Wa at *
            generalize hBp : wr.heap.size = Bp at *
            clear hBp hc1 hc2
            have HSC := Lib.hid (HCU.out Wa.drew (turn_drewA k6))
            obtain ⟨z, hz⟩ : ∃ z, z = lag (xF l) (yF l) x m := ⟨_, rfl⟩
            have HZ := Lib.hid hz
            rw [← hz] at HLK
            clear hz
            by_cases hzy : z = y
            · have hbb : ((z.toNat : Int) != (y.toNat : Int)) = false := by rw [hzy]; simp
              have HE3 : Hid (∀ i, i < k + 1 → m ≤ i → lag (xF l) (yF l) (xF l i) m = yF l i) := fun i hi hmi => by
                rcases Nat.lt_or_ge i k with h' | h'
                · exact HE.out i h' hmi
                · obtain rfl : i = k := by omega
                  rw [← HE1.out, ← HE2.out, ← hzy, HZ.out]
              clear hzy
              go_region_held3 (fun w' => w'.cell? ⟨Bp, 0, none⟩ = some (.int .u8 (x.toNat : Int)) ∧ w'.cell? ⟨Bp, 1, none⟩ = some (.int .u8 (y.toNat : Int)))
                (first | exact ⟨hp0, hp1⟩ | exact ⟨cell_turn ht hp0 (by simp; omega), cell_turn ht hp1 (by simp; omega)⟩)
                ((go_at_call 121; refine (l7Through_own _ (l.take m) x _ HSC.out).mono ?_; rintro e w' ⟨rfl, ht⟩; rw [HLK.out]))
              all_goals
                have k7 := turn_trans k6 (undrewA ht) (by omega)
                go_wp2_with fail
                go_roundw
                case rel => exact ⟨k + 1, by omega, by go_num, HE3, k7⟩
                case measure => simp [intOf]; omega
            · have hbb : ((z.toNat : Int) != (y.toNat : Int)) = true := by rw [bne_iff_ne]; intro e; exact hzy (UInt8.toNat_inj.1 (by omega))
              have HF : Hid (onAll l m = false) := by
                show _ = _
                cases e : onAll l m
                · rfl
                · exfalso
                  have := HON.out.1 e k (by omega) hmk
                  rw [← HE1.out, ← HE2.out, ← HZ.out] at this
                  exact hzy this
              clear hzy
              go_region_held3 (fun w' => w'.cell? ⟨Bp, 0, none⟩ = some (.int .u8 (x.toNat : Int)) ∧ w'.cell? ⟨Bp, 1, none⟩ = some (.int .u8 (y.toNat : Int)))
                (first | exact ⟨hp0, hp1⟩ | exact ⟨cell_turn ht hp0 (by simp; omega), cell_turn ht hp1 (by simp; omega)⟩)
                ((go_at_call 121; refine (l7Through_own _ (l.take m) x _ HSC.out).mono ?_; rintro e w' ⟨rfl, ht⟩; rw [HLK.out]))
              all_goals
                have k7 := turn_trans k6 (undrewA ht) (by omega)
                go_wp2_with fail
                go_ret2
                exact ⟨by rw [HR.out, HO.out, HF.out]; rfl, k7⟩
          · have hd : decide ((m : Int) ≤ (k : Int)) = false := by simpa using hmk
            have HE3 : Hid (∀ i, i < k + 1 → m ≤ i → lag (xF l) (yF l) (xF l i) m = yF l i) := fun i hi hmi => HE.out i (by omega) hmi
            have HK6 := Lib.hid k6
            clear k6
            go_wp2_with fail
            go_quiet (fail)
            go_wp2_with fail
            go_roundw
            case rel => exact ⟨k + 1, by omega, by go_num, HE3, ⟨HK6.out.os, HK6.out.tape, HK6.out.output, HK6.out.size, HK6.out.block⟩⟩
            case measure => simp [intOf]; omega
        · obtain rfl : k = n := by omega
          have hki : ¬ (k : Int) < (k : Int) := by omega
          have HF : Hid (onAll l m = true) := HON.out.2 HE.out
          go_wp2_with fail
          go_ret2
          exact ⟨by rw [HR.out, HO.out, HF.out]; rfl, k5⟩
    · have HIN : Hid (inB k 1 20 = false) := by show decide _ = _; simpa using h1
      have HO := Lib.hid (isSOk_bad (l := l) (k := k) h1)
      have HR := Lib.hid (isSR_no HO.out)
      generalize hnn : l.length = n at *
      clear hnn h1
      go_enter Tryd.func60, Tryd.ntmps60
      go_wp2_with fail
      refine (l7Shares_own _ l _ HV.out).mono ?_
      rintro e w1 ⟨rfl, k1⟩
      rw [HS.out]
      go_wp2_with fail
      refine (l1In_any _ 1 20 _).mono ?_
      rintro e w' ⟨rfl, rfl⟩
      rw [HIN.out]
      go_wp2_with fail
      go_ret2
      exact ⟨by rw [HR.out, HO.out]; rfl, k1⟩
  · have HS : Hid (shrOk l = false) := by show _ = _; simpa using hs
    have HO := Lib.hid (isSOk_no (k := k) HS.out)
    have HR := Lib.hid (isSR_no HO.out)
    clear hs
    generalize hnn : l.length = n at *
    clear hnn
    go_enter Tryd.func60, Tryd.ntmps60
    go_wp2_with fail
    refine (l7Shares_own _ l _ HV.out).mono ?_
    rintro e w1 ⟨rfl, k1⟩
    rw [HS.out]
    go_wp2_with fail
    go_ret2
    exact ⟨by rw [HR.out, HO.out]; rfl, k1⟩

end Go.Proofs.YtgbhcjfnkjhkiaaDoor
