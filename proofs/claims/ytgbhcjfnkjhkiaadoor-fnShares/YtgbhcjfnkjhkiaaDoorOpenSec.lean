/- OpenSecret: the program's and the model's. -/
import Derived.Test.YtgbhcjfnkjhkiaaDoorInter
set_option linter.unusedSimpArgs false
set_option linter.unusedVariables false
namespace G294
open Go Go.RowKit
theorem opnR_yes {l : List Sr} {k : Int} (h : opnOk l k = true) : opnR l k = lag (xF l) (yF l) 0 k.toNat := if_pos h
theorem opnR_no {l : List Sr} {k : Int} (h : opnOk l k = false) : opnR l k = 0 := if_neg (by rw [h]; simp)
theorem opnOk_no {l : List Sr} {k : Int} (h : shrOk l = false) : opnOk l k = false := by simp [opnOk, h]
theorem opnOk_bad {l : List Sr} {k : Int} (h : ¬ (1 ≤ k ∧ k ≤ l.length)) : opnOk l k = false := by
  unfold opnOk
  rw [decide_eq_false h, Bool.and_false]
theorem opnOk_yes {l : List Sr} {k : Int} (h : shrOk l = true) (h1 : 1 ≤ k) (h2 : k ≤ l.length) : opnOk l k = true := by simp [opnOk, h, h1, h2]
theorem shr_take {l : List Sr} (h : shrOk l = true) (m : Nat) : shrOk (l.take m) = true := by
  rw [shrOk_iff] at h ⊢
  refine ⟨by simp; omega, fun i hi => ?_⟩
  have hi' : i < m ∧ i < l.length := by simp at hi; omega
  have := h.2 i hi'.2
  rw [xF_take l m i hi'.1]
  unfold prX at this ⊢
  split
  · simpa [*] using this
  · rw [xF_take l m (i - 1) (by omega)]
    simpa [*] using this
theorem lag_take (l : List Sr) (m : Nat) (hm : m ≤ l.length) (x : UInt8) : lag (xF (l.take m)) (yF (l.take m)) x (l.take m).length = lag (xF l) (yF l) x m := by
  rw [show (l.take m).length = m by simp; omega]
  exact lag_congr (fun j hj => xF_take l m j hj) (fun j hj => yF_take l m j hj)
/-- the first shares of a slice that is seen -/
theorem SeenR.cut {w : World} {A : Option Addr} {c : Nat} {l : List Sr} {m : Nat} (h : SeenR w (.slice A l.length c) l) (hm : m ≤ l.length) : SeenR w (.slice A m c) (l.take m) := by
  obtain ⟨A', c', e, h1, h2, h3⟩ := h
  simp only [Value.slice.injEq] at e
  obtain ⟨rfl, _, rfl⟩ := e
  have hl : (l.take m).length = m := by simp; omega
  refine ⟨A, c, by rw [hl], by omega, h2, fun h0 => ?_⟩
  obtain ⟨b, off, hA, hb, hc⟩ := h3 (by omega)
  refine ⟨b, off, hA, hb, fun i s hs => hc i s ?_⟩
  have hi : i < m := by have := (List.getElem?_eq_some_iff.1 hs).1; omega
  rwa [List.getElem?_take, if_pos hi] at hs
end G294
namespace Go.Proofs.YtgbhcjfnkjhkiaaDoor
open Go.RowKit G294

set_option maxRecDepth 100000 in
set_option maxHeartbeats 1000000 in
theorem openSecret_own (v : Value) (l : List Sr) (k : Int) (w : World) (hv : SeenR w v l) (ht : Tab w) (h0 : 0 < w.heap.size) :
    Calls Tryd.prog 40 #[v, .int .i64 k] w (RetByteOk w (opnR l k) (opnOk l k)) := by
  have HV := Lib.hid hv
  have HT := Lib.hid ht
  obtain ⟨A, c, rfl, hlc, hcm, _⟩ := hv
  unfold maxLen at hcm
  clear ht
  by_cases hs : shrOk l = true
  · have HS := Lib.hid hs
    have h20 := shr_20 hs
    clear hs
    by_cases h1 : k < 1
    · have HO := Lib.hid (opnOk_bad (l := l) (k := k) (by omega))
      have HR := Lib.hid (opnR_no HO.out)
      generalize hnn : l.length = n at *
      clear hnn
      have hd1 : decide (k < 1) = true := by simpa using h1
      go_enter Tryd.func40, Tryd.ntmps40
      go_wp2_with fail
      refine (goodShares_own _ l _ HV.out).mono ?_
      rintro e w1 ⟨rfl, k1⟩
      rw [HS.out]
      go_wp2_with fail
      go_ret2
      exact ⟨by rw [HR.out, HO.out]; rfl, k1⟩
    · by_cases h2 : (l.length : Int) < k
      · have HO := Lib.hid (opnOk_bad (l := l) (k := k) (by omega))
        have HR := Lib.hid (opnR_no HO.out)
        generalize hnn : l.length = n at *
        clear hnn
        have hd1 : decide (k < 1) = false := by simpa using h1
        have hd2 : decide ((n : Int) < k) = true := by simpa using h2
        go_enter Tryd.func40, Tryd.ntmps40
        go_wp2_with fail
        refine (goodShares_own _ l _ HV.out).mono ?_
        rintro e w1 ⟨rfl, k1⟩
        rw [HS.out]
        go_wp2_with fail
        go_ret2
        exact ⟨by rw [HR.out, HO.out]; rfl, k1⟩
      · obtain ⟨m, rfl⟩ := Int.eq_ofNat_of_zero_le (show 0 ≤ k by omega)
        have hm : m ≤ l.length := by omega
        have HO := Lib.hid (opnOk_yes HS.out (show (1 : Int) ≤ m by omega) (by omega))
        have HR : Hid (opnR l m = lag (xF l) (yF l) 0 m) := opnR_yes HO.out
        have HTK := Lib.hid (lag_take l m hm 0)
        have HI := Lib.hid (intOk_yes (shr_take HS.out m) (show (l.take m).length ≠ 0 by rw [List.length_take]; omega))
        have HIR := Lib.hid (intR_yes (x := 0) HI.out)
        have HCU : Hid (∀ W, TurnIn 0 0 w W → SeenR W (.slice A m c) (l.take m)) := fun W hW => (HV.out.below hW.to_below).cut hm
        generalize hnn : l.length = n at *
        clear hnn
        have hd1 : decide ((m : Int) < 1) = false := by simpa using h1
        have hd2 : decide ((n : Int) < (m : Int)) = false := by simpa using h2
        have hmc : (m : Int) ≤ (c : Int) := by omega
        have hm0 : (0 : Int) ≤ (m : Int) := by omega
        go_enter Tryd.func40, Tryd.ntmps40
        go_wp2_with fail
        refine (goodShares_own _ l _ HV.out).mono ?_
        rintro e w1 ⟨rfl, k1⟩
        rw [HS.out]
        have z1 := k1.size
        go_wp2_with fail
        refine (interpolate_own _ (l.take m) 0 _ (HCU.out _ k1) (HT.out.below k1.to_below h0) (by omega)).mono ?_
        rintro e w2 ⟨rfl, k2⟩
        have k3 := turn_trans k1 k2 (by omega)
        go_wp2_with fail
        go_ret2
        exact ⟨by rw [HR.out, HO.out, ← HTK.out, ← HIR.out, HI.out]; rfl, k3⟩
  · have HS : Hid (shrOk l = false) := by show _ = _; simpa using hs
    have HO := Lib.hid (opnOk_no (k := k) HS.out)
    have HR := Lib.hid (opnR_no HO.out)
    clear hs
    generalize hnn : l.length = n at *
    clear hnn
    go_enter Tryd.func40, Tryd.ntmps40
    go_wp2_with fail
    refine (goodShares_own _ l _ HV.out).mono ?_
    rintro e w1 ⟨rfl, k1⟩
    rw [HS.out]
    go_wp2_with fail
    go_ret2
    exact ⟨by rw [HR.out, HO.out]; rfl, k1⟩

set_option maxRecDepth 100000 in
set_option maxHeartbeats 1000000 in
theorem sOpenSecret_own (v : Value) (l : List Sr) (k : Int) (w : World) (hv : SeenR w v l) :
    Calls Tryd.prog 61 #[v, .int .i64 k] w (RetByteOk w (opnR l k) (opnOk l k)) := by
  have HV := Lib.hid hv
  obtain ⟨A, c, rfl, hlc, hcm, _⟩ := hv
  unfold maxLen at hcm
  by_cases hs : shrOk l = true
  · have HS := Lib.hid hs
    have h20 := shr_20 hs
    clear hs
    by_cases h1 : 1 ≤ k ∧ k ≤ 20
    · have hin : decide (1 ≤ k ∧ k ≤ 20) = true := by simpa using h1
      have HIN := Lib.hid (show inB k 1 20 = _ from hin)
      by_cases h2 : (l.length : Int) < k
      · have HO := Lib.hid (opnOk_bad (l := l) (k := k) (by omega))
        have HR := Lib.hid (opnR_no HO.out)
        generalize hnn : l.length = n at *
        clear hnn hin
        have hd2 : decide ((n : Int) < k) = true := by simpa using h2
        go_enter Tryd.func61, Tryd.ntmps61
        go_wp2_with fail
        refine (l7Shares_own _ l _ HV.out).mono ?_
        rintro e w1 ⟨rfl, k1⟩
        rw [HS.out]
        go_wp2_with fail
        refine (l1In_any k 1 20 _).mono ?_
        rintro e w' ⟨rfl, rfl⟩
        rw [HIN.out]
        go_wp2_with fail
        go_ret2
        exact ⟨by rw [HR.out, HO.out]; rfl, k1⟩
      · obtain ⟨m, rfl⟩ := Int.eq_ofNat_of_zero_le (show 0 ≤ k by omega)
        have hm : m ≤ l.length := by omega
        have HO := Lib.hid (opnOk_yes HS.out (show (1 : Int) ≤ m by omega) (by omega))
        have HR : Hid (opnR l m = lag (xF l) (yF l) 0 m) := opnR_yes HO.out
        have HTK := Lib.hid (lag_take l m hm 0)
        have HCU : Hid (∀ W, TurnIn 0 0 w W → SeenR W (.slice A m c) (l.take m)) := fun W hW => (HV.out.below hW.to_below).cut hm
        generalize hnn : l.length = n at *
        clear hnn hin
        have hd2 : decide ((n : Int) < (m : Int)) = false := by simpa using h2
        have hmc : (m : Int) ≤ (c : Int) := by omega
        have hm0 : (0 : Int) ≤ (m : Int) := by omega
        clear h1
        go_enter Tryd.func61, Tryd.ntmps61
        go_wp2_with fail
        refine (l7Shares_own _ l _ HV.out).mono ?_
        rintro e w1 ⟨rfl, k1⟩
        rw [HS.out]
        go_wp2_with fail
        refine (l1In_any _ 1 20 _).mono ?_
        rintro e w' ⟨rfl, rfl⟩
        rw [HIN.out]
        go_wp2_with fail
        refine (l7Through_own _ (l.take m) 0 _ (HCU.out _ k1)).mono ?_
        rintro e w2 ⟨rfl, k2⟩
        rw [HTK.out]
        have k3 := turn_trans k1 k2 (by omega)
        go_wp2_with fail
        go_ret2
        exact ⟨by rw [HR.out, HO.out]; rfl, k3⟩
    · have hin : decide (1 ≤ k ∧ k ≤ 20) = false := by simpa using h1
      have HIN := Lib.hid (show inB k 1 20 = _ from hin)
      have HO := Lib.hid (opnOk_bad (l := l) (k := k) (by omega))
      have HR := Lib.hid (opnR_no HO.out)
      generalize hnn : l.length = n at *
      clear hnn hin h1
      go_enter Tryd.func61, Tryd.ntmps61
      go_wp2_with fail
      refine (l7Shares_own _ l _ HV.out).mono ?_
      rintro e w1 ⟨rfl, k1⟩
      rw [HS.out]
      go_wp2_with fail
      refine (l1In_any k 1 20 _).mono ?_
      rintro e w' ⟨rfl, rfl⟩
      rw [HIN.out]
      go_wp2_with fail
      go_ret2
      exact ⟨by rw [HR.out, HO.out]; rfl, k1⟩
  · have HS : Hid (shrOk l = false) := by show _ = _; simpa using hs
    have HO := Lib.hid (opnOk_no (k := k) HS.out)
    have HR := Lib.hid (opnR_no HO.out)
    clear hs
    generalize hnn : l.length = n at *
    clear hnn
    go_enter Tryd.func61, Tryd.ntmps61
    go_wp2_with fail
    refine (l7Shares_own _ l _ HV.out).mono ?_
    rintro e w1 ⟨rfl, k1⟩
    rw [HS.out]
    go_wp2_with fail
    go_ret2
    exact ⟨by rw [HR.out, HO.out]; rfl, k1⟩

end Go.Proofs.YtgbhcjfnkjhkiaaDoor
