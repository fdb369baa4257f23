/- Interpolate: the program's and the model's. -/
import Derived.Test.YtgbhcjfnkjhkiaaDoorArr3
import Derived.Test.YtgbhcjfnkjhkiaaDoorThru1
set_option linter.unusedSimpArgs false
set_option linter.unusedVariables false
namespace G294
theorem intR_yes {l : List Sr} {x : UInt8} (h : intOk l = true) : intR l x = lag (xF l) (yF l) x l.length := if_pos h
theorem intR_no {l : List Sr} {x : UInt8} (h : intOk l = false) : intR l x = 0 := if_neg (by rw [h]; simp)
theorem intOk_no {l : List Sr} (h : shrOk l = false) : intOk l = false := by simp [intOk, h]
theorem intOk_nil {l : List Sr} (h : l.length = 0) : intOk l = false := by simp [intOk, h]
theorem intOk_yes {l : List Sr} (h : shrOk l = true) (h0 : l.length ≠ 0) : intOk l = true := by simp [intOk, h]; omega
end G294
namespace Go.Proofs.YtgbhcjfnkjhkiaaDoor
open Go.RowKit G294

set_option maxRecDepth 100000 in
set_option maxHeartbeats 1000000 in
theorem interpolate_own (v : Value) (l : List Sr) (x : UInt8) (w : World) (hv : SeenR w v l) (ht : Tab w) (h0 : 0 < w.heap.size) :
    Calls Tryd.prog 42 #[v, .int .u8 (x.toNat : Int)] w (RetByteOk w (intR l x) (intOk l)) := by
  have HV := Lib.hid hv
  have HT := Lib.hid ht
  obtain ⟨A, c, rfl, hlc, hcm, _⟩ := hv
  unfold maxLen at hcm
  clear ht
  by_cases hs : shrOk l = true
  · have HS := Lib.hid hs
    have h20 := shr_20 hs
    have HA := Lib.hid (shr_apart hs)
    clear hs
    by_cases hz : l.length = 0
    · have HO := Lib.hid (intOk_nil hz)
      have HR := Lib.hid (intR_no (x := x) HO.out)
      have hd : ((l.length : Int) == 0) = true := by simp [hz]
      clear hz
      generalize hnn : l.length = n at *
      clear hnn
      go_enter Tryd.func42, Tryd.ntmps42
      go_wp2_with fail
      refine (goodShares_own _ l _ HV.out).mono ?_
      rintro e w1 ⟨rfl, k1⟩
      rw [HS.out]
      go_wp2_with fail
      go_ret2
      exact ⟨by rw [HR.out, HO.out]; rfl, k1⟩
    · have HO := Lib.hid (intOk_yes HS.out hz)
      have HR := Lib.hid (intR_yes (x := x) HO.out)
      have HL := Lib.hid (thr_lag h20 HA.out x)
      have hd : ((l.length : Int) == 0) = false := by rw [beq_eq_false_iff_ne]; omega
      have hTL := thr_len l
      generalize hnn : l.length = n at *
      have HN := Lib.hid hnn
      clear hnn hz
      go_enter Tryd.func42, Tryd.ntmps42
      go_wp2_with fail
      refine (goodShares_own _ l _ HV.out).mono ?_
      rintro e w1 ⟨rfl, k1⟩
      rw [HS.out]
      have z1 := k1.size
      go_wp2_with fail
      refine (through_own _ l _ (HV.out.below k1.to_below) (by rw [HN.out]; exact h20) (HT.out.below k1.to_below h0) (by omega)).mono ?_
      rintro e w2 ⟨rfl, k2⟩
      have k3 := turn_trans k1 k2 (by omega)
      have z2 := k2.size
      go_wp2_with (refine wpList_alloc_arr rfl 136 rfl _ zeroCoef ?_)
      intro W2 hW2
      replace hW2 := hW2.out
      have t2 := hW2 ▸ turn_alloc w2 (.cells (bys (List.replicate 20 0)).toArray 136)
      have r2 := hW2 ▸ ArrAt.new w2 136 (List.replicate 20 0)
      replace k3 := turn_trans k3 t2 (by omega)
      clear hW2 t2
      generalize hB : w2.heap.size = B at *
      clear hB
      go_wp2_with (refine wpList_store_arr rfl 136 _ _ rfl B 20 _ _ (thr l) rfl rfl r2 sizeCoef (by simp) hTL ?_)
      intro W3 hW3
      replace hW3 := hW3.out
      have r3 := hW3 ▸ r2.row (thr l)
      have t3 := hW3 ▸ turn_row W2 B (bys (thr l)).toArray
      replace k3 := turn_trans k3 t3 (by omega)
      have z3 := k3.size
      clear hW3 t3
      go_wp2_with fail
      refine (valueAt_own _ (thr l) x _ (r3.seen hTL (by omega)) (by omega) (HT.out.below k3.to_below h0) (by omega)).mono ?_
      rintro e w4 ⟨rfl, k4⟩
      have k5 := turn_trans k3 k4 (by omega)
      go_wp2_with fail
      go_ret2
      exact ⟨by rw [HR.out, HO.out, ← HL.out]; rfl, k5⟩
  · have HS : Hid (shrOk l = false) := by show _ = _; simpa using hs
    have HO := Lib.hid (intOk_no HS.out)
    have HR := Lib.hid (intR_no (x := x) HO.out)
    clear hs
    generalize hnn : l.length = n at *
    clear hnn
    go_enter Tryd.func42, Tryd.ntmps42
    go_wp2_with fail
    refine (goodShares_own _ l _ HV.out).mono ?_
    rintro e w1 ⟨rfl, k1⟩
    rw [HS.out]
    go_wp2_with fail
    go_ret2
    exact ⟨by rw [HR.out, HO.out]; rfl, k1⟩

set_option maxRecDepth 100000 in
set_option maxHeartbeats 1000000 in
theorem sInterpolate_own (v : Value) (l : List Sr) (x : UInt8) (w : World) (hv : SeenR w v l) :
    Calls Tryd.prog 47 #[v, .int .u8 (x.toNat : Int)] w (RetByteOk w (intR l x) (intOk l)) := by
  have HV := Lib.hid hv
  obtain ⟨A, c, rfl, hlc, hcm, _⟩ := hv
  unfold maxLen at hcm
  by_cases hs : shrOk l = true
  · have HS := Lib.hid hs
    clear hs
    by_cases hz : l.length = 0
    · have HO := Lib.hid (intOk_nil hz)
      have HR := Lib.hid (intR_no (x := x) HO.out)
      have hd : ((l.length : Int) == 0) = true := by simp [hz]
      clear hz
      generalize hnn : l.length = n at *
      clear hnn
      go_enter Tryd.func47, Tryd.ntmps47
      go_wp2_with fail
      refine (l7Shares_own _ l _ HV.out).mono ?_
      rintro e w1 ⟨rfl, k1⟩
      rw [HS.out]
      go_wp2_with fail
      go_ret2
      exact ⟨by rw [HR.out, HO.out]; rfl, k1⟩
    · have HO := Lib.hid (intOk_yes HS.out hz)
      have HR := Lib.hid (intR_yes (x := x) HO.out)
      have hd : ((l.length : Int) == 0) = false := by rw [beq_eq_false_iff_ne]; omega
      generalize hnn : l.length = n at *
      have HN := Lib.hid hnn
      clear hnn hz
      go_enter Tryd.func47, Tryd.ntmps47
      go_wp2_with fail
      refine (l7Shares_own _ l _ HV.out).mono ?_
      rintro e w1 ⟨rfl, k1⟩
      rw [HS.out]
      go_wp2_with fail
      refine (l7Through_own _ l x _ (HV.out.below k1.to_below)).mono ?_
      rintro e w2 ⟨rfl, k2⟩
      have k3 := turn_trans k1 k2 (by omega)
      go_wp2_with fail
      go_ret2
      exact ⟨by rw [HR.out, HO.out, ← HN.out]; rfl, k3⟩
  · have HS : Hid (shrOk l = false) := by show _ = _; simpa using hs
    have HO := Lib.hid (intOk_no HS.out)
    have HR := Lib.hid (intR_no (x := x) HO.out)
    clear hs
    generalize hnn : l.length = n at *
    clear hnn
    go_enter Tryd.func47, Tryd.ntmps47
    go_wp2_with fail
    refine (l7Shares_own _ l _ HV.out).mono ?_
    rintro e w1 ⟨rfl, k1⟩
    rw [HS.out]
    go_wp2_with fail
    go_ret2
    exact ⟨by rw [HR.out, HO.out]; rfl, k1⟩

end Go.Proofs.YtgbhcjfnkjhkiaaDoor
