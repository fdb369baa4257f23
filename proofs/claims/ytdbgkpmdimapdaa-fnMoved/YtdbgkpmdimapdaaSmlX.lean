/- Chapter 12: SmallIn, the program's and the model's. -/
import Derived.Test.YtdbgkpmdimapdaaMtfB
import Derived.Test.YtdbgkpmdimapdaaMtfMath
set_option linter.unusedSimpArgs false
set_option linter.unusedVariables false
namespace G294
open Go Go.RowKit Go.Proofs.Ytdbgkpmdimapdaa
theorem smallN_takeD {l : List UInt8} {k : Nat} (m : Int) (h : k < l.length) : smallN (l.take (k + 1)) m = smallN (l.take k) m + (if ((l.getD k 0).toNat : Int) < m then 1 else 0) := by rw [smallN_take m h, getD_at h]
def smlOk (l : List UInt8) (m : Int) : Bool := mvdB l.length && inB m 0 256
def smlR (l : List UInt8) (m : Int) : Int := if smlOk l m = true then (smallN l m : Nat) else 0
theorem smlR_no {l : List UInt8} {m : Int} (h : smlOk l m = false) : smlR l m = 0 := if_neg (by rw [h]; decide)
theorem smlR_yes {l : List UInt8} {m : Int} (h : smlOk l m = true) : smlR l m = (smallN l m : Nat) := if_pos h
end G294
namespace Go.Proofs.Ytdbgkpmdimapdaa
open Go.RowKit G294

set_option maxRecDepth 100000 in
set_option maxHeartbeats 2000000 in
theorem smallIn_own (v : Value) (l : List UInt8) (m : Int) (w : World) (hv : Seen w v (bys l)) : Calls Try.prog 33 #[v, .int .i64 m] w (RetIntOk w (smlR l m) (smlOk l m)) := by
  have HG := Lib.hid (fun W => goodMoved_any l.length W)
  by_cases h1 : l.length ≤ 200
  · have HB : Hid (mvdB l.length = true) := by show _ = _; simp [mvdB, h1]
    by_cases h2 : inB m 0 256 = true
    · have HO : Hid (smlOk l m = true) := by show _ = _; rw [smlOk, HB.out, h2]; rfl
      have HR := Lib.hid (smlR_yes HO.out)
      rw [HR.out, HO.out]
      obtain ⟨A, c, rfl, hx⟩ := seen_getD hv
      have HTK := Lib.hid (fun k (h : k < l.length) => smallN_takeD (l := l) (k := k) m h)
      have HLE := Lib.hid (fun k => Nat.le_trans (smallN_le (l.take k) m) (by simpa using Nat.min_le_left k l.length))
      have HALL : Hid (smallN (l.take l.length) m = smallN l m) := by show _ = _; rw [List.take_length]
      have HZ : Hid (smallN (l.take 0) m = 0) := Lib.hid rfl
      generalize hnn : l.length = n at *
      clear hv hnn
      go_enter Try.func33, Try.ntmps33
      go_wp2_with fail
      refine (HG.out _).mono ?_
      rintro e w' ⟨rfl, rfl⟩
      rw [HB.out]
      have hm := inB_iff h2
      have d1 : ¬ m < 0 := by omega
      have d2 : ¬ 256 < m := by omega
      clear hm h2
      go_wp2_with fail
      go_loopw [6, 23] (fun x y wr => ∃ k : Nat, k ≤ n ∧ y = .int .i64 k ∧ x = .int .i64 (smallN (l.take k) m : Nat) ∧ Below w.heap.size w wr) (fun _ y _ => n - (intOf y).toNat)
      case atStart => exact ⟨0, Nat.zero_le _, rfl, by rw [HZ.out]; rfl, Below.refl _ _⟩
      case round =>
        obtain ⟨k, hk, rfl, rfl, hb⟩ := hrel
        by_cases hlt : k < n
        · have hki : (k : Int) < (n : Int) := by omega
          obtain ⟨b, off, rfl, hbl, hcell⟩ := hx (by omega)
          have hc := (hb.cell (p := ⟨b, off + k, none⟩) hbl).trans (hcell k hlt)
          have HT := Lib.hid (HTK.out k hlt)
          have hle := HLE.out k
          clear hx hcell
          generalize smallN (l.take k) m = x at *
          have hbb := (l.getD k 0).toNat_lt
          generalize (l.getD k 0).toNat = t at *
          by_cases ht : (t : Int) < m
          · have HY : Hid (smallN (l.take (k + 1)) m = x + 1) := by show _ = _; have := HT.out; simpa [ht] using this
            go_wp2_with fail
            go_roundw
            case rel => exact ⟨k + 1, by omega, by go_num, by rw [HY.out]; go_num, hb⟩
            case measure => simp [intOf]; omega
          · have HY : Hid (smallN (l.take (k + 1)) m = x) := by show _ = _; have := HT.out; simpa [ht] using this
            go_wp2_with fail
            go_roundw
            case rel => exact ⟨k + 1, by omega, by go_num, by rw [HY.out], hb⟩
            case measure => simp [intOf]; omega
        · obtain rfl : k = n := by omega
          have hki : ¬ (k : Int) < (k : Int) := by omega
          rw [HALL.out]
          go_wp2_with fail
          go_ret2
          exact ⟨rfl, TurnIn.of_below hb⟩
    · have h2 : inB m 0 256 = false := by simpa using h2
      have HO : Hid (smlOk l m = false) := by show _ = _; rw [smlOk, h2, Bool.and_false]
      have HR := Lib.hid (smlR_no HO.out)
      rw [HR.out, HO.out]
      obtain ⟨A, c, rfl, hx⟩ := seen_getD hv
      clear hx hv
      generalize l.length = n at *
      have hm := inB_not h2
      by_cases d1 : m < 0
      · go_enter Try.func33, Try.ntmps33
        go_wp2_with fail
        refine (HG.out _).mono ?_
        rintro e w' ⟨rfl, rfl⟩
        rw [HB.out]
        go_wp2_with fail
        go_ret2
        exact ⟨rfl, TurnIn.refl _⟩
      · have d2 : 256 < m := by omega
        go_enter Try.func33, Try.ntmps33
        go_wp2_with fail
        refine (HG.out _).mono ?_
        rintro e w' ⟨rfl, rfl⟩
        rw [HB.out]
        go_wp2_with fail
        go_ret2
        exact ⟨rfl, TurnIn.refl _⟩
  · have HB : Hid (mvdB l.length = false) := by show _ = _; simp [mvdB]; omega
    have HO : Hid (smlOk l m = false) := by show _ = _; rw [smlOk, HB.out, Bool.false_and]
    have HR := Lib.hid (smlR_no HO.out)
    rw [HR.out, HO.out]
    obtain ⟨A, c, rfl, hx⟩ := seen_getD hv
    clear hx hv
    generalize l.length = n at *
    go_enter Try.func33, Try.ntmps33
    go_wp2_with fail
    refine (HG.out _).mono ?_
    rintro e w' ⟨rfl, rfl⟩
    rw [HB.out]
    go_wp2_with fail
    go_ret2
    exact ⟨rfl, TurnIn.refl _⟩


set_option maxRecDepth 100000 in
set_option maxHeartbeats 2000000 in
theorem sSmallIn_own (v : Value) (l : List UInt8) (m : Int) (w : World) (hv : Seen w v (bys l)) : Calls Try.prog 58 #[v, .int .i64 m] w (RetIntOk w (smlR l m) (smlOk l m)) := by
  by_cases h1 : l.length ≤ 200
  · have HB : Hid (mvdB l.length = true) := by show _ = _; simp [mvdB, h1]
    by_cases h2 : inB m 0 256 = true
    · have HO : Hid (smlOk l m = true) := by show _ = _; rw [smlOk, HB.out, h2]; rfl
      have HR := Lib.hid (smlR_yes HO.out)
      rw [HR.out, HO.out]
      obtain ⟨A, c, rfl, hx⟩ := seen_getD hv
      have HTK := Lib.hid (fun k (h : k < l.length) => smallN_takeD (l := l) (k := k) m h)
      have HLE := Lib.hid (fun k => Nat.le_trans (smallN_le (l.take k) m) (by simpa using Nat.min_le_left k l.length))
      have HALL : Hid (smallN (l.take l.length) m = smallN l m) := by show _ = _; rw [List.take_length]
      have HZ : Hid (smallN (l.take 0) m = 0) := Lib.hid rfl
      generalize hnn : l.length = n at *
      clear hv hnn
      go_enter Try.func58, Try.ntmps58
      go_wp2_with fail
      refine (l1In_any _ _ _ _).mono ?_
      rintro e w' ⟨rfl, rfl⟩
      rw [h2]
      go_wp2_with fail
      go_loopw [6, 19] (fun x y wr => ∃ k : Nat, k ≤ n ∧ y = .int .i64 k ∧ x = .int .i64 (smallN (l.take k) m : Nat) ∧ Below w.heap.size w wr) (fun _ y _ => n - (intOf y).toNat)
      case atStart => exact ⟨0, Nat.zero_le _, rfl, by rw [HZ.out]; rfl, Below.refl _ _⟩
      case round =>
        obtain ⟨k, hk, rfl, rfl, hb⟩ := hrel
        by_cases hlt : k < n
        · have hki : (k : Int) < (n : Int) := by omega
          obtain ⟨b, off, rfl, hbl, hcell⟩ := hx (by omega)
          have hc := (hb.cell (p := ⟨b, off + k, none⟩) hbl).trans (hcell k hlt)
          have HT := Lib.hid (HTK.out k hlt)
          have hle := HLE.out k
          clear hx hcell
          generalize smallN (l.take k) m = x at *
          have hbb := (l.getD k 0).toNat_lt
          generalize (l.getD k 0).toNat = t at *
          by_cases ht : (t : Int) < m
          · have HY : Hid (smallN (l.take (k + 1)) m = x + 1) := by show _ = _; have := HT.out; simpa [ht] using this
            go_wp2_with fail
            go_roundw
            case rel => exact ⟨k + 1, by omega, by go_num, by rw [HY.out]; go_num, hb⟩
            case measure => simp [intOf]; omega
          · have HY : Hid (smallN (l.take (k + 1)) m = x) := by show _ = _; have := HT.out; simpa [ht] using this
            go_wp2_with fail
            go_roundw
            case rel => exact ⟨k + 1, by omega, by go_num, by rw [HY.out], hb⟩
            case measure => simp [intOf]; omega
        · obtain rfl : k = n := by omega
          have hki : ¬ (k : Int) < (k : Int) := by omega
          rw [HALL.out]
          go_wp2_with fail
          go_ret2
          exact ⟨rfl, TurnIn.of_below hb⟩
    · have h2 : inB m 0 256 = false := by simpa using h2
      have HO : Hid (smlOk l m = false) := by show _ = _; rw [smlOk, h2, Bool.and_false]
      have HR := Lib.hid (smlR_no HO.out)
      rw [HR.out, HO.out]
      obtain ⟨A, c, rfl, hx⟩ := seen_getD hv
      clear hx hv
      generalize l.length = n at *
      go_enter Try.func58, Try.ntmps58
      go_wp2_with fail
      refine (l1In_any _ _ _ _).mono ?_
      rintro e w' ⟨rfl, rfl⟩
      rw [h2]
      go_wp2_with fail
      go_ret2
      exact ⟨rfl, TurnIn.refl _⟩
  · have HB : Hid (mvdB l.length = false) := by show _ = _; simp [mvdB]; omega
    have HO : Hid (smlOk l m = false) := by show _ = _; rw [smlOk, HB.out, Bool.false_and]
    have HR := Lib.hid (smlR_no HO.out)
    rw [HR.out, HO.out]
    obtain ⟨A, c, rfl, hx⟩ := seen_getD hv
    clear hx hv
    generalize l.length = n at *
    go_enter Try.func58, Try.ntmps58
    go_wp2_with fail
    go_ret2
    exact ⟨rfl, TurnIn.refl _⟩

end Go.Proofs.Ytdbgkpmdimapdaa
