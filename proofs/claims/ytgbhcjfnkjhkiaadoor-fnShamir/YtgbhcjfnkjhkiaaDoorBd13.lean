/- Joined texts: Thru1, Inter, OpenSec, IsShr. -/
import Derived.Test.YtgbhcjfnkjhkiaaDoorBd05
import Derived.Test.YtgbhcjfnkjhkiaaDoorBd04
import Derived.BigQuiet
import Derived.Deep.RegionHeld3
set_option linter.unusedSimpArgs false
set_option linter.unusedVariables false
/- Lagrange's interpolation: the model's. -/
namespace G294
theorem upK_at {X : Nat → UInt8} {i : Nat} {x : UInt8} : upK X i x (i + 1) = upK X i x i := by simp [upK]
theorem upK_step {X : Nat → UInt8} {i k : Nat} {x : UInt8} (h : k ≠ i) : upK X i x (k + 1) = gmul (upK X i x k) (x ^^^ X k) := by simp [upK, h]
theorem lagK_succ (X Y : Nat → UInt8) (x : UInt8) (n m : Nat) : lagK X Y x n (m + 1) = lagK X Y x n m ^^^ gmul (Y m) (gmul (upK X m x n) (ginv (upK X m (X m) n))) := rfl
end G294
namespace Go.Proofs.YtgbhcjfnkjhkiaaDoor
open Go.RowKit G294

theorem l1Inverse_u8 (a : UInt8) (w : World) :
    Calls Tryd.prog 149 #[.int .u8 (a.toNat : Int)] w fun e w' => e = .returned (.int .u8 ((ginv a).toNat : Int)) ∧ w = w' := by
  rw [ginv_toNat]; exact l1Inverse_any _ a.toNat_lt w

set_option maxRecDepth 100000 in
set_option maxHeartbeats 2000000 in
theorem l7Through_own (v : Value) (l : List Sr) (x : UInt8) (w : World) (hv : SeenR w v l) :
    Calls Tryd.prog 121 #[v, .int .u8 (x.toNat : Int)] w (RetByte w (lag (xF l) (yF l) x l.length)) := by
  obtain ⟨A, c, rfl, hlc, hcm, hx⟩ := hv
  unfold maxLen at hcm
  have HL : Hid (lag (xF l) (yF l) x l.length = lagK (xF l) (yF l) x l.length l.length) := rfl
  generalize hnn : l.length = n at *
  have HN := Lib.hid hnn
  clear hnn
  go_enter Tryd.func121, Tryd.ntmps121
  go_wp2_with fail
  go_loopw [5, 14] (fun o i wr => ∃ k : Nat, k ≤ n ∧ i = .int .i64 k ∧ o = .int .u8 ((lagK (xF l) (yF l) x n k).toNat : Int) ∧ Below w.heap.size w wr)
    (fun _ i _ => n - (intOf i).toNat)
  case atStart => exact ⟨0, Nat.zero_le _, rfl, rfl, Below.refl _ _⟩
  case round =>
    obtain ⟨i, hi, rfl, rfl, hb⟩ := hrel
    by_cases hlt : i < n
    · obtain ⟨b, off, rfl, hbl, hcell⟩ := hx (by omega)
      obtain ⟨⟨no, s⟩, hks⟩ := at_ltR HN.out hlt
      have HXY := Lib.hid (at_xy hks)
      have hc1 := (hb.cell (p := ⟨b, off + i * 2, none⟩) hbl).trans (hcell i _ hks).1
      have hc2 := (hb.cell (p := ⟨b, off + i * 2 + 1, none⟩) hbl).trans (hcell i _ hks).2
      simp only at hc1 hc2
      have hii : (i : Int) < (n : Int) := by omega
      have hbs := hb.size
      have hb2 := hb.alloc hbs (.cells #[.int .u8 (no.toNat : Int), .int .u8 (s.toNat : Int)] 59)
      have hp0 : (wr.alloc (.cells #[.int .u8 (no.toNat : Int), .int .u8 (s.toNat : Int)] 59)).cell? ⟨wr.heap.size, 0, none⟩ = some (.int .u8 (no.toNat : Int)) := by simp
      have hp1 : (wr.alloc (.cells #[.int .u8 (no.toNat : Int), .int .u8 (s.toNat : Int)] 59)).cell? ⟨wr.heap.size, 1, none⟩ = some (.int .u8 (s.toNat : Int)) := by simp
      have hz1 := World.size_alloc wr (.cells #[.int .u8 (no.toNat : Int), .int .u8 (s.toNat : Int)] 59)
      clear hks
      go_wp2_with fail
      generalize hW : wr.alloc (.cells #[.int .u8 (no.toNat : Int), .int .u8 (s.toNat : Int)] 59) = W1 at *
      clear hW hc1 hc2 hb
      obtain ⟨B1, hB1⟩ : ∃ B1, B1 = wr.heap.size := ⟨_, rfl⟩
      rw [← hB1] at hp0 hp1 hz1 hbs ⊢
      clear hB1
      go_loopw [8, 9, 21] (fun u d j wr => ∃ k : Nat, k ≤ n ∧ j = .int .i64 k ∧ u = .int .u8 ((upK (xF l) i x k).toNat : Int) ∧ d = .int .u8 ((upK (xF l) i no k).toNat : Int) ∧ Below w.heap.size w wr ∧ Below (B1 + 1) W1 wr)
        (fun _ _ j _ => n - (intOf j).toNat)
      case atStart => exact ⟨0, Nat.zero_le _, rfl, rfl, rfl, hb2, Below.refl _ _⟩
      case round =>
        obtain ⟨k, hk, rfl, rfl, rfl, hb3, hb4⟩ := hrel
        have hd0 := (hb4.cell (p := ⟨B1, 0, none⟩) (by simp)).trans hp0
        have hd1 := (hb4.cell (p := ⟨B1, 1, none⟩) (by simp)).trans hp1
        have hs4 := hb4.size
        by_cases hlt2 : k < n
        · obtain ⟨⟨no', s'⟩, hks'⟩ := at_ltR HN.out hlt2
          have HXY' := Lib.hid (at_xy hks')
          have hc3 := (hb3.cell (p := ⟨b, off + k * 2, none⟩) hbl).trans (hcell k _ hks').1
          have hc4 := (hb3.cell (p := ⟨b, off + k * 2 + 1, none⟩) hbl).trans (hcell k _ hks').2
          simp only at hc3 hc4
          have hki : (k : Int) < (n : Int) := by omega
          have hb5 := hb3.alloc (by omega) (.cells #[.int .u8 (no'.toNat : Int), .int .u8 (s'.toNat : Int)] 59)
          have hb6 := hb4.alloc (by omega) (.cells #[.int .u8 (no'.toNat : Int), .int .u8 (s'.toNat : Int)] 59)
          clear hks'
          by_cases hne : k = i
          · subst hne
            have hbn : ((k : Int) != (k : Int)) = false := by simp
            have HU := Lib.hid (upK_at (X := xF l) (i := k) (x := x))
            have HD := Lib.hid (upK_at (X := xF l) (i := k) (x := no))
            clear hcell hx
            go_wp2_with fail
            go_roundw
            case rel => exact ⟨k + 1, by omega, by go_num, by rw [HU.out], by rw [HD.out], hb5, hb6⟩
            case measure => simp [intOf]; omega
          · have hbn : ((k : Int) != (i : Int)) = true := by simp; omega
            have HU := Lib.hid (upK_step (X := xF l) (x := x) hne)
            have HD := Lib.hid (upK_step (X := xF l) (x := no) hne)
            have he0 : (wr.alloc (.cells #[.int .u8 (no'.toNat : Int), .int .u8 (s'.toNat : Int)] 59)).cell? ⟨B1, 0, none⟩ = some (.int .u8 (no.toNat : Int)) := cell_turn (turn_alloc _ _) hd0 (by omega)
            have hx1 := xor_u8 x no'
            have hx2 := xor_u8 no no'
            clear hcell hx hne
            go_wp2_with fail
            refine (l1Times_u8 (upK (xF l) i x k) (x ^^^ no') _).mono ?_
            rintro e w' ⟨rfl, rfl⟩
            go_wp2_with fail
            refine (l1Times_u8 (upK (xF l) i no k) (no ^^^ no') _).mono ?_
            rintro e w' ⟨rfl, rfl⟩
            go_wp2_with fail
            go_roundw
            case rel => exact ⟨k + 1, by omega, by go_num, by rw [HU.out, ← HXY'.out.1], by rw [HD.out, ← HXY'.out.1], hb5, hb6⟩
            case measure => simp [intOf]; omega
        · obtain rfl : k = n := by omega
          have hki : ¬ (k : Int) < (k : Int) := by omega
          have HX := Lib.hid (xor_u8 (lagK (xF l) (yF l) x k i) (gmul s (gmul (upK (xF l) i x k) (ginv (upK (xF l) i no k)))))
          have HS := Lib.hid (lagK_succ (xF l) (yF l) x k i)
          clear hcell hx
          go_wp2_with fail
          go_quiet ((first | (go_at_call 125; exact quietly (l1Times_u8 _ _ _)) | (go_at_call 149; exact quietly (l1Inverse_u8 _ _))))
          go_wp2_with fail
          go_roundw
          case rel => exact ⟨i + 1, by omega, by go_num, by rw [HX.out, HS.out, ← HXY.out.1, ← HXY.out.2], below_drewN hb3 _⟩
          case measure => simp [intOf]; omega
    · obtain rfl : i = n := by omega
      have hki : ¬ (i : Int) < (i : Int) := by omega
      go_wp2_with fail
      go_ret
      exact ⟨by rw [HL.out]; rfl, TurnIn.of_below hb⟩

end Go.Proofs.YtgbhcjfnkjhkiaaDoor

/- Interpolate: the program's and the model's. -/
namespace G294
theorem intR_yes {l : List Sr} {x : UInt8} (h : intOk l = true) : intR l x = lag (xF l) (yF l) x l.length := if_pos h
theorem intR_no {l : List Sr} {x : UInt8} (h : intOk l = false) : intR l x = 0 := if_neg (by rw [h]; simp)
theorem intOk_no {l : List Sr} (h : shrOk l = false) : intOk l = false := by simp [intOk, h]
theorem intOk_nil {l : List Sr} (h : l.length = 0) : intOk l = false := by simp [intOk, h]
theorem intOk_yes {l : List Sr} (h : shrOk l = true) (h0 : l.length ≠ 0) : intOk l = true := by simp [intOk, h]; omega
end G294
namespace Go.Proofs.YtgbhcjfnkjhkiaaDoor
open Go.RowKit G294

set_option maxRecDepth 100000 in
set_option maxHeartbeats 1000000 in
theorem interpolate_own (v : Value) (l : List Sr) (x : UInt8) (w : World) (hv : SeenR w v l) (ht : Tab w) (h0 : 0 < w.heap.size) :
    Calls Tryd.prog 42 #[v, .int .u8 (x.toNat : Int)] w (RetByteOk w (intR l x) (intOk l)) := by
  have HV := Lib.hid hv
  have HT := Lib.hid ht
  obtain ⟨A, c, rfl, hlc, hcm, _⟩ := hv
  unfold maxLen at hcm
  clear ht
  by_cases hs : shrOk l = true
  · have HS := Lib.hid hs
    have h20 := shr_20 hs
    have HA := Lib.hid (shr_apart hs)
    clear hs
    by_cases hz : l.length = 0
    · have HO := Lib.hid (intOk_nil hz)
      have HR := Lib.hid (intR_no (x := x) HO.out)
      have hd : ((l.length : Int) == 0) = true := by simp [hz]
      clear hz
      generalize hnn : l.length = n at *
      clear hnn
      go_enter Tryd.func42, Tryd.ntmps42
      go_wp2_with fail
      refine (goodShares_own _ l _ HV.out).mono ?_
      rintro e w1 ⟨rfl, k1⟩
      rw [HS.out]
      go_wp2_with fail
      go_ret2
      exact ⟨by rw [HR.out, HO.out]; rfl, k1⟩
    · have HO := Lib.hid (intOk_yes HS.out hz)
      have HR := Lib.hid (intR_yes (x := x) HO.out)
      have HL := Lib.hid (thr_lag h20 HA.out x)
      have hd : ((l.length : Int) == 0) = false := by rw [beq_eq_false_iff_ne]; omega
      have hTL := thr_len l
      generalize hnn : l.length = n at *
      have HN := Lib.hid hnn
      clear hnn hz
      go_enter Tryd.func42, Tryd.ntmps42
      go_wp2_with fail
      refine (goodShares_own _ l _ HV.out).mono ?_
      rintro e w1 ⟨rfl, k1⟩
      rw [HS.out]
      have z1 := k1.size
      go_wp2_with fail
      refine (through_own _ l _ (HV.out.below k1.to_below) (by rw [HN.out]; exact h20) (HT.out.below k1.to_below h0) (by omega)).mono ?_
      rintro e w2 ⟨rfl, k2⟩
      have k3 := turn_trans k1 k2 (by omega)
      have z2 := k2.size
      go_wp2_with (refine wpList_alloc_arr rfl 136 rfl _ zeroCoef ?_)
      intro W2 hW2
      replace hW2 := hW2.out
      have t2 := hW2 ▸ turn_alloc w2 (.cells (bys (List.replicate 20 0)).toArray 136)
      have r2 := hW2 ▸ ArrAt.new w2 136 (List.replicate 20 0)
      replace k3 := turn_trans k3 t2 (by omega)
      clear hW2 t2
      generalize hB : w2.heap.size = B at *
      clear hB
      go_wp2_with (refine wpList_store_arr rfl 136 _ _ rfl B 20 _ _ (thr l) rfl rfl r2 sizeCoef (by simp) hTL ?_)
      intro W3 hW3
      replace hW3 := hW3.out
      have r3 := hW3 ▸ r2.row (thr l)
      have t3 := hW3 ▸ turn_row W2 B (bys (thr l)).toArray
      replace k3 := turn_trans k3 t3 (by omega)
      have z3 := k3.size
      clear hW3 t3
      go_wp2_with fail
      refine (valueAt_own _ (thr l) x _ (r3.seen hTL (by omega)) (by omega) (HT.out.below k3.to_below h0) (by omega)).mono ?_
      rintro e w4 ⟨rfl, k4⟩
      have k5 := turn_trans k3 k4 (by omega)
      go_wp2_with fail
      go_ret2
      exact ⟨by rw [HR.out, HO.out, ← HL.out]; rfl, k5⟩
  · have HS : Hid (shrOk l = false) := by show _ = _; simpa using hs
    have HO := Lib.hid (intOk_no HS.out)
    have HR := Lib.hid (intR_no (x := x) HO.out)
    clear hs
    generalize hnn : l.length = n at *
    clear hnn
    go_enter Tryd.func42, Tryd.ntmps42
    go_wp2_with fail
    refine (goodShares_own _ l _ HV.out).mono ?_
    rintro e w1 ⟨rfl, k1⟩
    rw [HS.out]
    go_wp2_with fail
    go_ret2
    exact ⟨by rw [HR.out, HO.out]; rfl, k1⟩

set_option maxRecDepth 100000 in
set_option maxHeartbeats 1000000 in
theorem sInterpolate_own (v : Value) (l : List Sr) (x : UInt8) (w : World) (hv : SeenR w v l) :
    Calls Tryd.prog 47 #[v, .int .u8 (x.toNat : Int)] w (RetByteOk w (intR l x) (intOk l)) := by
  have HV := Lib.hid hv
  obtain ⟨A, c, rfl, hlc, hcm, _⟩ := hv
  unfold maxLen at hcm
  by_cases hs : shrOk l = true
  · have HS := Lib.hid hs
    clear hs
    by_cases hz : l.length = 0
    · have HO := Lib.hid (intOk_nil hz)
      have HR := Lib.hid (intR_no (x := x) HO.out)
      have hd : ((l.length : Int) == 0) = true := by simp [hz]
      clear hz
      generalize hnn : l.length = n at *
      clear hnn
      go_enter Tryd.func47, Tryd.ntmps47
      go_wp2_with fail
      refine (l7Shares_own _ l _ HV.out).mono ?_
      rintro e w1 ⟨rfl, k1⟩
      rw [HS.out]
      go_wp2_with fail
      go_ret2
      exact ⟨by rw [HR.out, HO.out]; rfl, k1⟩
    · have HO := Lib.hid (intOk_yes HS.out hz)
      have HR := Lib.hid (intR_yes (x := x) HO.out)
      have hd : ((l.length : Int) == 0) = false := by rw [beq_eq_false_iff_ne]; omega
      generalize hnn : l.length = n at *
      have HN := Lib.hid hnn
      clear hnn hz
      go_enter Tryd.func47, Tryd.ntmps47
      go_wp2_with fail
      refine (l7Shares_own _ l _ HV.out).mono ?_
      rintro e w1 ⟨rfl, k1⟩
      rw [HS.out]
      go_wp2_with fail
      refine (l7Through_own _ l x _ (HV.out.below k1.to_below)).mono ?_
      rintro e w2 ⟨rfl, k2⟩
      have k3 := turn_trans k1 k2 (by omega)
      go_wp2_with fail
      go_ret2
      exact ⟨by rw [HR.out, HO.out, ← HN.out]; rfl, k3⟩
  · have HS : Hid (shrOk l = false) := by show _ = _; simpa using hs
    have HO := Lib.hid (intOk_no HS.out)
    have HR := Lib.hid (intR_no (x := x) HO.out)
    clear hs
    generalize hnn : l.length = n at *
    clear hnn
    go_enter Tryd.func47, Tryd.ntmps47
    go_wp2_with fail
    refine (l7Shares_own _ l _ HV.out).mono ?_
    rintro e w1 ⟨rfl, k1⟩
    rw [HS.out]
    go_wp2_with fail
    go_ret2
    exact ⟨by rw [HR.out, HO.out]; rfl, k1⟩

end Go.Proofs.YtgbhcjfnkjhkiaaDoor

/- OpenSecret: the program's and the model's. -/
namespace G294
open Go Go.RowKit
theorem opnR_yes {l : List Sr} {k : Int} (h : opnOk l k = true) : opnR l k = lag (xF l) (yF l) 0 k.toNat := if_pos h
theorem opnR_no {l : List Sr} {k : Int} (h : opnOk l k = false) : opnR l k = 0 := if_neg (by rw [h]; simp)
theorem opnOk_no {l : List Sr} {k : Int} (h : shrOk l = false) : opnOk l k = false := by simp [opnOk, h]
theorem opnOk_bad {l : List Sr} {k : Int} (h : ¬ (1 ≤ k ∧ k ≤ l.length)) : opnOk l k = false := by
  unfold opnOk
  rw [decide_eq_false h, Bool.and_false]
theorem opnOk_yes {l : List Sr} {k : Int} (h : shrOk l = true) (h1 : 1 ≤ k) (h2 : k ≤ l.length) : opnOk l k = true := by simp [opnOk, h, h1, h2]
theorem shr_take {l : List Sr} (h : shrOk l = true) (m : Nat) : shrOk (l.take m) = true := by
  rw [shrOk_iff] at h ⊢
  refine ⟨by simp; omega, fun i hi => ?_⟩
  have hi' : i < m ∧ i < l.length := by simp at hi; omega
  have := h.2 i hi'.2
  rw [xF_take l m i hi'.1]
  unfold prX at this ⊢
  split
  · simpa [*] using this
  · rw [xF_take l m (i - 1) (by omega)]
    simpa [*] using this
theorem lag_take (l : List Sr) (m : Nat) (hm : m ≤ l.length) (x : UInt8) : lag (xF (l.take m)) (yF (l.take m)) x (l.take m).length = lag (xF l) (yF l) x m := by
  rw [show (l.take m).length = m by simp; omega]
  exact lag_congr (fun j hj => xF_take l m j hj) (fun j hj => yF_take l m j hj)
/-- the first shares of a slice that is seen -/
theorem SeenR.cut {w : World} {A : Option Addr} {c : Nat} {l : List Sr} {m : Nat} (h : SeenR w (.slice A l.length c) l) (hm : m ≤ l.length) : SeenR w (.slice A m c) (l.take m) := by
  obtain ⟨A', c', e, h1, h2, h3⟩ := h
  simp only [Value.slice.injEq] at e
  obtain ⟨rfl, _, rfl⟩ := e
  have hl : (l.take m).length = m := by simp; omega
  refine ⟨A, c, by rw [hl], by omega, h2, fun h0 => ?_⟩
  obtain ⟨b, off, hA, hb, hc⟩ := h3 (by omega)
  refine ⟨b, off, hA, hb, fun i s hs => hc i s ?_⟩
  have hi : i < m := by have := (List.getElem?_eq_some_iff.1 hs).1; omega
  rwa [List.getElem?_take, if_pos hi] at hs
end G294
namespace Go.Proofs.YtgbhcjfnkjhkiaaDoor
open Go.RowKit G294

set_option maxRecDepth 100000 in
set_option maxHeartbeats 1000000 in
theorem openSecret_own (v : Value) (l : List Sr) (k : Int) (w : World) (hv : SeenR w v l) (ht : Tab w) (h0 : 0 < w.heap.size) :
    Calls Tryd.prog 40 #[v, .int .i64 k] w (RetByteOk w (opnR l k) (opnOk l k)) := by
  have HV := Lib.hid hv
  have HT := Lib.hid ht
  obtain ⟨A, c, rfl, hlc, hcm, _⟩ := hv
  unfold maxLen at hcm
  clear ht
  by_cases hs : shrOk l = true
  · have HS := Lib.hid hs
    have h20 := shr_20 hs
    clear hs
    by_cases h1 : k < 1
    · have HO := Lib.hid (opnOk_bad (l := l) (k := k) (by omega))
      have HR := Lib.hid (opnR_no HO.out)
      generalize hnn : l.length = n at *
      clear hnn
      have hd1 : decide (k < 1) = true := by simpa using h1
      go_enter Tryd.func40, Tryd.ntmps40
      go_wp2_with fail
      refine (goodShares_own _ l _ HV.out).mono ?_
      rintro e w1 ⟨rfl, k1⟩
      rw [HS.out]
      go_wp2_with fail
      go_ret2
      exact ⟨by rw [HR.out, HO.out]; rfl, k1⟩
    · by_cases h2 : (l.length : Int) < k
      · have HO := Lib.hid (opnOk_bad (l := l) (k := k) (by omega))
        have HR := Lib.hid (opnR_no HO.out)
        generalize hnn : l.length = n at *
        clear hnn
        have hd1 : decide (k < 1) = false := by simpa using h1
        have hd2 : decide ((n : Int) < k) = true := by simpa using h2
        go_enter Tryd.func40, Tryd.ntmps40
        go_wp2_with fail
        refine (goodShares_own _ l _ HV.out).mono ?_
        rintro e w1 ⟨rfl, k1⟩
        rw [HS.out]
        go_wp2_with fail
        go_ret2
        exact ⟨by rw [HR.out, HO.out]; rfl, k1⟩
      · obtain ⟨m, rfl⟩ := Int.eq_ofNat_of_zero_le (show 0 ≤ k by omega)
        have hm : m ≤ l.length := by omega
        have HO := Lib.hid (opnOk_yes HS.out (show (1 : Int) ≤ m by omega) (by omega))
        have HR : Hid (opnR l m = lag (xF l) (yF l) 0 m) := opnR_yes HO.out
        have HTK := Lib.hid (lag_take l m hm 0)
        have HI := Lib.hid (intOk_yes (shr_take HS.out m) (show (l.take m).length ≠ 0 by rw [List.length_take]; omega))
        have HIR := Lib.hid (intR_yes (x := 0) HI.out)
        have HCU : Hid (∀ W, TurnIn 0 0 w W → SeenR W (.slice A m c) (l.take m)) := fun W hW => (HV.out.below hW.to_below).cut hm
        generalize hnn : l.length = n at *
        clear hnn
        have hd1 : decide ((m : Int) < 1) = false := by simpa using h1
        have hd2 : decide ((n : Int) < (m : Int)) = false := by simpa using h2
        have hmc : (m : Int) ≤ (c : Int) := by omega
        have hm0 : (0 : Int) ≤ (m : Int) := by omega
        go_enter Tryd.func40, Tryd.ntmps40
        go_wp2_with fail
        refine (goodShares_own _ l _ HV.out).mono ?_
        rintro e w1 ⟨rfl, k1⟩
        rw [HS.out]
        have z1 := k1.size
        go_wp2_with fail
        refine (interpolate_own _ (l.take m) 0 _ (HCU.out _ k1) (HT.out.below k1.to_below h0) (by omega)).mono ?_
        rintro e w2 ⟨rfl, k2⟩
        have k3 := turn_trans k1 k2 (by omega)
        go_wp2_with fail
        go_ret2
        exact ⟨by rw [HR.out, HO.out, ← HTK.out, ← HIR.out, HI.out]; rfl, k3⟩
  · have HS : Hid (shrOk l = false) := by show _ = _; simpa using hs
    have HO := Lib.hid (opnOk_no (k := k) HS.out)
    have HR := Lib.hid (opnR_no HO.out)
    clear hs
    generalize hnn : l.length = n at *
    clear hnn
    go_enter Tryd.func40, Tryd.ntmps40
    go_wp2_with fail
    refine (goodShares_own _ l _ HV.out).mono ?_
    rintro e w1 ⟨rfl, k1⟩
    rw [HS.out]
    go_wp2_with fail
    go_ret2
    exact ⟨by rw [HR.out, HO.out]; rfl, k1⟩

set_option maxRecDepth 100000 in
set_option maxHeartbeats 1000000 in
theorem sOpenSecret_own (v : Value) (l : List Sr) (k : Int) (w : World) (hv : SeenR w v l) :
    Calls Tryd.prog 61 #[v, .int .i64 k] w (RetByteOk w (opnR l k) (opnOk l k)) := by
  have HV := Lib.hid hv
  obtain ⟨A, c, rfl, hlc, hcm, _⟩ := hv
  unfold maxLen at hcm
  by_cases hs : shrOk l = true
  · have HS := Lib.hid hs
    have h20 := shr_20 hs
    clear hs
    by_cases h1 : 1 ≤ k ∧ k ≤ 20
    · have hin : decide (1 ≤ k ∧ k ≤ 20) = true := by simpa using h1
      have HIN := Lib.hid (show inB k 1 20 = _ from hin)
      by_cases h2 : (l.length : Int) < k
      · have HO := Lib.hid (opnOk_bad (l := l) (k := k) (by omega))
        have HR := Lib.hid (opnR_no HO.out)
        generalize hnn : l.length = n at *
        clear hnn hin
        have hd2 : decide ((n : Int) < k) = true := by simpa using h2
        go_enter Tryd.func61, Tryd.ntmps61
        go_wp2_with fail
        refine (l7Shares_own _ l _ HV.out).mono ?_
        rintro e w1 ⟨rfl, k1⟩
        rw [HS.out]
        go_wp2_with fail
        refine (l1In_any k 1 20 _).mono ?_
        rintro e w' ⟨rfl, rfl⟩
        rw [HIN.out]
        go_wp2_with fail
        go_ret2
        exact ⟨by rw [HR.out, HO.out]; rfl, k1⟩
      · obtain ⟨m, rfl⟩ := Int.eq_ofNat_of_zero_le (show 0 ≤ k by omega)
        have hm : m ≤ l.length := by omega
        have HO := Lib.hid (opnOk_yes HS.out (show (1 : Int) ≤ m by omega) (by omega))
        have HR : Hid (opnR l m = lag (xF l) (yF l) 0 m) := opnR_yes HO.out
        have HTK := Lib.hid (lag_take l m hm 0)
        have HCU : Hid (∀ W, TurnIn 0 0 w W → SeenR W (.slice A m c) (l.take m)) := fun W hW => (HV.out.below hW.to_below).cut hm
        generalize hnn : l.length = n at *
        clear hnn hin
        have hd2 : decide ((n : Int) < (m : Int)) = false := by simpa using h2
        have hmc : (m : Int) ≤ (c : Int) := by omega
        have hm0 : (0 : Int) ≤ (m : Int) := by omega
        clear h1
        go_enter Tryd.func61, Tryd.ntmps61
        go_wp2_with fail
        refine (l7Shares_own _ l _ HV.out).mono ?_
        rintro e w1 ⟨rfl, k1⟩
        rw [HS.out]
        go_wp2_with fail
        refine (l1In_any _ 1 20 _).mono ?_
        rintro e w' ⟨rfl, rfl⟩
        rw [HIN.out]
        go_wp2_with fail
        refine (l7Through_own _ (l.take m) 0 _ (HCU.out _ k1)).mono ?_
        rintro e w2 ⟨rfl, k2⟩
        rw [HTK.out]
        have k3 := turn_trans k1 k2 (by omega)
        go_wp2_with fail
        go_ret2
        exact ⟨by rw [HR.out, HO.out]; rfl, k3⟩
    · have hin : decide (1 ≤ k ∧ k ≤ 20) = false := by simpa using h1
      have HIN := Lib.hid (show inB k 1 20 = _ from hin)
      have HO := Lib.hid (opnOk_bad (l := l) (k := k) (by omega))
      have HR := Lib.hid (opnR_no HO.out)
      generalize hnn : l.length = n at *
      clear hnn hin h1
      go_enter Tryd.func61, Tryd.ntmps61
      go_wp2_with fail
      refine (l7Shares_own _ l _ HV.out).mono ?_
      rintro e w1 ⟨rfl, k1⟩
      rw [HS.out]
      go_wp2_with fail
      refine (l1In_any k 1 20 _).mono ?_
      rintro e w' ⟨rfl, rfl⟩
      rw [HIN.out]
      go_wp2_with fail
      go_ret2
      exact ⟨by rw [HR.out, HO.out]; rfl, k1⟩
  · have HS : Hid (shrOk l = false) := by show _ = _; simpa using hs
    have HO := Lib.hid (opnOk_no (k := k) HS.out)
    have HR := Lib.hid (opnR_no HO.out)
    clear hs
    generalize hnn : l.length = n at *
    clear hnn
    go_enter Tryd.func61, Tryd.ntmps61
    go_wp2_with fail
    refine (l7Shares_own _ l _ HV.out).mono ?_
    rintro e w1 ⟨rfl, k1⟩
    rw [HS.out]
    go_wp2_with fail
    go_ret2
    exact ⟨by rw [HR.out, HO.out]; rfl, k1⟩

end Go.Proofs.YtgbhcjfnkjhkiaaDoor

/- IsShared: the program's and the model's. -/
namespace G294
open Go Go.RowKit
theorem isSOk_no {l : List Sr} {k : Int} (h : shrOk l = false) : isSOk l k = false := by simp [isSOk, h]
theorem isSOk_bad {l : List Sr} {k : Int} (h : ¬ (1 ≤ k ∧ k ≤ 20)) : isSOk l k = false := by
  unfold isSOk
  rw [decide_eq_false h, Bool.and_false]
theorem isSOk_yes {l : List Sr} {k : Int} (h : shrOk l = true) (h1 : 1 ≤ k) (h2 : k ≤ 20) : isSOk l k = true := by simp [isSOk, h, h1, h2]
theorem isSR_no {l : List Sr} {k : Int} (h : isSOk l k = false) : isSR l k = false := by simp [isSR, h]
theorem isSR_yes {l : List Sr} {k : Int} (h : isSOk l k = true) : isSR l k = onAll l k.toNat := by simp [isSR, h]
theorem onAll_iff (l : List Sr) (k : Nat) : onAll l k = true ↔ ∀ i, i < l.length → k ≤ i → lag (xF l) (yF l) (xF l i) k = yF l i := by simp only [onAll, decide_eq_true_eq]
/-- what the program compares -/
theorem thr_on {l : List Sr} (h : shrOk l = true) (k : Nat) : (thr (l.take (min k l.length)) == thr l) = onAll l k := by
  have h20 := shr_20 h
  have ha := shr_apart h
  rw [Bool.eq_iff_iff, beq_iff_eq, onAll_iff]
  by_cases hk : k ≤ l.length
  · rw [Nat.min_eq_left hk, thr_same h20 ha hk]
    exact ⟨fun h i hi hki => h i hki hi, fun h i hki hi => h i hi hki⟩
  · rw [Nat.min_eq_right (by omega), List.take_of_length_le (Nat.le_refl _)]
    exact ⟨fun _ i hi hki => by omega, fun _ => rfl⟩
end G294
namespace Go.Proofs.YtgbhcjfnkjhkiaaDoor
open Go.RowKit G294

theorem eqgCoef (x y : Operand) (xs ys : List UInt8) (w : World) : (eqGuard .eql 136 x y (aggL xs) (aggL ys)).run Tryd.prog w = .ok () w := run_eqGuard_agg w .eql 136 x y _ _ (by kernel_rfl)

theorem eqlCoef (xs ys : List UInt8) (hx : xs.length = 20) (hy : ys.length = 20) (w : World) : (binOp .eql 136 (aggL xs) (aggL ys)).run Tryd.prog w = .ok (.bool (xs == ys)) w :=
  run_eql_bytes w 136 5 20 Tryd.underlying136 Tryd.underlying5 (fun w => by
    have := sizeByteA
    cases hq : Tryd.prog.info? 5 with
    | none => simp [hq] at this
    | some i => simp [hq] at this; simp [Go.sizeOf, typeInfo, hq, this]) xs ys hx hy

set_option maxRecDepth 100000 in
set_option maxHeartbeats 1000000 in
theorem isShared_own (v : Value) (l : List Sr) (k : Int) (w : World) (hv : SeenR w v l) (ht : Tab w) (h0 : 0 < w.heap.size) :
    Calls Tryd.prog 41 #[v, .int .i64 k] w fun e w' => e = .returned (.tuple #[.bool (isSR l k), .bool (isSOk l k)]) ∧ TurnIn 0 0 w w' := by
  have HV := Lib.hid hv
  have HT := Lib.hid ht
  obtain ⟨A, c, rfl, hlc, hcm, _⟩ := hv
  unfold maxLen at hcm
  clear ht
  by_cases hs : shrOk l = true
  · have HS := Lib.hid hs
    have h20 := shr_20 hs
    clear hs
    by_cases h1 : k < 1
    · have HO := Lib.hid (isSOk_bad (l := l) (k := k) (by omega))
      have HR := Lib.hid (isSR_no HO.out)
      generalize hnn : l.length = n at *
      clear hnn
      have hd1 : decide (k < 1) = true := by simpa using h1
      go_enter Tryd.func41, Tryd.ntmps41
      go_wp2_with fail
      refine (goodShares_own _ l _ HV.out).mono ?_
      rintro e w1 ⟨rfl, k1⟩
      rw [HS.out]
      go_wp2_with fail
      go_ret2
      exact ⟨by rw [HR.out, HO.out]; rfl, k1⟩
    · by_cases h2 : 20 < k
      · have HO := Lib.hid (isSOk_bad (l := l) (k := k) (by omega))
        have HR := Lib.hid (isSR_no HO.out)
        generalize hnn : l.length = n at *
        clear hnn
        have hd1 : decide (k < 1) = false := by simpa using h1
        have hd2 : decide (20 < k) = true := by simpa using h2
        go_enter Tryd.func41, Tryd.ntmps41
        go_wp2_with fail
        refine (goodShares_own _ l _ HV.out).mono ?_
        rintro e w1 ⟨rfl, k1⟩
        rw [HS.out]
        go_wp2_with fail
        go_ret2
        exact ⟨by rw [HR.out, HO.out]; rfl, k1⟩
      · obtain ⟨m, rfl⟩ := Int.eq_ofNat_of_zero_le (show 0 ≤ k by omega)
        have HO := Lib.hid (isSOk_yes HS.out (show (1 : Int) ≤ m by omega) (show (m : Int) ≤ 20 by omega))
        have HR : Hid (isSR l m = onAll l m) := isSR_yes HO.out
        have HON := Lib.hid (thr_on HS.out m)
        have hq : min m l.length ≤ l.length := Nat.min_le_right _ _
        have HCU : Hid (∀ W, TurnIn 0 0 w W → SeenR W (.slice A (min m l.length) c) (l.take (min m l.length))) := fun W hW => (HV.out.below hW.to_below).cut hq
        have HTL : Hid ((l.take (min m l.length)).length ≤ 20) := by show _ ≤ _; rw [List.length_take]; omega
        have HEQ := Lib.hid (fun W => eqlCoef (thr (l.take (min m l.length))) (thr l) (thr_len _) (thr_len _) W)
        have HL20 := Lib.hid h20
        have hsp : (m ≤ l.length ∧ min m l.length = m) ∨ (l.length < m ∧ min m l.length = l.length) := by omega
        generalize hqq : min m l.length = q at *
        generalize hnn : l.length = n at *
        have HN := Lib.hid hnn
        clear hnn hqq
        have hd1 : decide ((m : Int) < 1) = false := by simpa using h1
        have hd2 : decide (20 < (m : Int)) = false := by simpa using h2
        clear h1 h2
        rcases hsp with ⟨hmn, rfl⟩ | ⟨hmn, rfl⟩
        all_goals
          have hqc : (q : Int) ≤ (c : Int) := by omega
          go_enter Tryd.func41, Tryd.ntmps41
          go_wp2_with fail
          refine (goodShares_own _ l _ HV.out).mono ?_
          rintro e w1 ⟨rfl, k1⟩
          rw [HS.out]
          have z1 := k1.size
          go_wp2_with fail
          refine (through_own _ (l.take q) _ (HCU.out _ k1) HTL.out (HT.out.below k1.to_below h0) (by omega)).mono ?_
          rintro e w2 ⟨rfl, k2⟩
          have k3 := turn_trans k1 k2 (by omega)
          have z3 := k3.size
          go_wp2_with fail
          refine (through_own _ l _ (HV.out.below k3.to_below) (by rw [HN.out]; exact h20) (HT.out.below k3.to_below h0) (by omega)).mono ?_
          rintro e w4 ⟨rfl, k4⟩
          have k5 := turn_trans k3 k4 (by omega)
          go_wp2_with (refine wpList_eql_arr rfl _ _ _ _ rfl _ _ rfl rfl (eqgCoef _ _ _ _ _) (HEQ.out _) ?_)
          rw [HON.out]
          go_wp2_with fail
          go_ret2
          exact ⟨by rw [HR.out, HO.out]; rfl, k5⟩
  · have HS : Hid (shrOk l = false) := by show _ = _; simpa using hs
    have HO := Lib.hid (isSOk_no (k := k) HS.out)
    have HR := Lib.hid (isSR_no HO.out)
    clear hs
    generalize hnn : l.length = n at *
    clear hnn
    go_enter Tryd.func41, Tryd.ntmps41
    go_wp2_with fail
    refine (goodShares_own _ l _ HV.out).mono ?_
    rintro e w1 ⟨rfl, k1⟩
    rw [HS.out]
    go_wp2_with fail
    go_ret2
    exact ⟨by rw [HR.out, HO.out]; rfl, k1⟩

set_option maxRecDepth 100000 in
set_option maxHeartbeats 2000000 in
theorem sIsShared_own (v : Value) (l : List Sr) (k : Int) (w : World) (hv : SeenR w v l) :
    Calls Tryd.prog 60 #[v, .int .i64 k] w fun e w' => e = .returned (.tuple #[.bool (isSR l k), .bool (isSOk l k)]) ∧ TurnIn 0 0 w w' := by
  have HV := Lib.hid hv
  obtain ⟨A, c, rfl, hlc, hcm, hx⟩ := hv
  unfold maxLen at hcm
  have HX := Lib.hid hx
  clear hx
  by_cases hs : shrOk l = true
  · have HS := Lib.hid hs
    have h20 := shr_20 hs
    clear hs
    by_cases h1 : 1 ≤ k ∧ k ≤ 20
    · have HIN : Hid (inB k 1 20 = true) := by show decide _ = _; simpa using h1
      obtain ⟨m, rfl⟩ := Int.eq_ofNat_of_zero_le (show 0 ≤ k by omega)
      have HO := Lib.hid (isSOk_yes HS.out h1.1 h1.2)
      have HR : Hid (isSR l m = onAll l m) := isSR_yes HO.out
      have HON := Lib.hid (onAll_iff l m)
      have HLT := Lib.hid (lag_take l m)
      generalize hnn : l.length = n at *
      have HN := Lib.hid hnn
      clear hnn
      have hm1 : 1 ≤ m := by omega
      have hm2 : m ≤ 20 := by omega
      clear h1
      go_enter Tryd.func60, Tryd.ntmps60
      go_wp2_with fail
      refine (l7Shares_own _ l _ HV.out).mono ?_
      rintro e w1 ⟨rfl, k1⟩
      rw [HS.out]
      go_wp2_with fail
      refine (l1In_any _ 1 20 _).mono ?_
      rintro e w' ⟨rfl, rfl⟩
      rw [HIN.out]
      go_wp2_with fail
      go_loopw [18] (fun i wr => ∃ k : Nat, k ≤ n ∧ i = .int .i64 k ∧ Hid (∀ i, i < k → m ≤ i → lag (xF l) (yF l) (xF l i) m = yF l i) ∧ TurnIn 0 0 w wr)
        (fun i _ => n - (intOf i).toNat)
      case atStart => exact ⟨0, Nat.zero_le _, rfl, (fun _ h => by omega), k1⟩
      case round =>
        obtain ⟨k, hk, rfl, HE, k5⟩ := hrel
        clear k1
        by_cases hlt : k < n
        · have hki : (k : Int) < (n : Int) := by omega
          obtain ⟨b, off, rfl, hbl, hcell⟩ := HX.out (by omega)
          obtain ⟨⟨x, y⟩, hks⟩ := at_ltR HN.out hlt
          obtain ⟨e1, e2⟩ := at_xy hks
          have hb5 := k5.to_below
          have hc1 := (hb5.cell (p := ⟨b, off + k * 2, none⟩) hbl).trans (hcell k _ hks).1
          have hc2 := (hb5.cell (p := ⟨b, off + k * 2 + 1, none⟩) hbl).trans (hcell k _ hks).2
          simp only at hc1 hc2 e1 e2
          have ta := turn_alloc wr (.cells #[.int .u8 (x.toNat : Int), .int .u8 (y.toNat : Int)] 59)
          have hp0 : (wr.alloc (.cells #[.int .u8 (x.toNat : Int), .int .u8 (y.toNat : Int)] 59)).cell? ⟨wr.heap.size, 0, none⟩ = some (.int .u8 (x.toNat : Int)) := by simp
          have hp1 : (wr.alloc (.cells #[.int .u8 (x.toNat : Int), .int .u8 (y.toNat : Int)] 59)).cell? ⟨wr.heap.size, 1, none⟩ = some (.int .u8 (y.toNat : Int)) := by simp
          have zq := World.size_alloc wr (.cells #[.int .u8 (x.toNat : Int), .int .u8 (y.toNat : Int)] 59)
          have k6 := turn_trans k5 ta (by omega)
          have z5 := k5.size
          have HE1 := Lib.hid e1
          have HE2 := Lib.hid e2
          clear hcell hks hb5 ta k5 e1 e2
          by_cases hmk : m ≤ k
          · have hd : decide ((m : Int) ≤ (k : Int)) = true := by simpa using hmk
            have hmn : m ≤ n := by omega
            have HLK := Lib.hid (HLT.out hmn x)
            have HCU : Hid (∀ W, TurnIn 0 0 w W → SeenR W (.slice (some ⟨b, off, none⟩) m c) (l.take m)) := fun W hW => by
              have h := HV.out.below hW.to_below
              rw [← HN.out] at h hmn
              exact h.cut hmn
            have hmc : (m : Int) ≤ (c : Int) := by omega
            go_wp2_with fail
            generalize wr.alloc (.cells #[.int .u8 (x.toNat : Int), .int .u8 (y.toNat : Int)] 59) = Wa at *
            generalize hBp : wr.heap.size = Bp at *
            clear hBp hc1 hc2
            have HSC := Lib.hid (HCU.out Wa.drew (turn_drewA k6))
            obtain ⟨z, hz⟩ : ∃ z, z = lag (xF l) (yF l) x m := ⟨_, rfl⟩
            have HZ := Lib.hid hz
            rw [← hz] at HLK
            clear hz
            by_cases hzy : z = y
            · have hbb : ((z.toNat : Int) != (y.toNat : Int)) = false := by rw [hzy]; simp
              have HE3 : Hid (∀ i, i < k + 1 → m ≤ i → lag (xF l) (yF l) (xF l i) m = yF l i) := fun i hi hmi => by
                rcases Nat.lt_or_ge i k with h' | h'
                · exact HE.out i h' hmi
                · obtain rfl : i = k := by omega
                  rw [← HE1.out, ← HE2.out, ← hzy, HZ.out]
              clear hzy
              go_region_held3 (fun w' => w'.cell? ⟨Bp, 0, none⟩ = some (.int .u8 (x.toNat : Int)) ∧ w'.cell? ⟨Bp, 1, none⟩ = some (.int .u8 (y.toNat : Int)))
                (first | exact ⟨hp0, hp1⟩ | exact ⟨cell_turn ht hp0 (by simp; omega), cell_turn ht hp1 (by simp; omega)⟩)
                ((go_at_call 121; refine (l7Through_own _ (l.take m) x _ HSC.out).mono ?_; rintro e w' ⟨rfl, ht⟩; rw [HLK.out]))
              all_goals
                have k7 := turn_trans k6 (undrewA ht) (by omega)
                go_wp2_with fail
                go_roundw
                case rel => exact ⟨k + 1, by omega, by go_num, HE3, k7⟩
                case measure => simp [intOf]; omega
            · have hbb : ((z.toNat : Int) != (y.toNat : Int)) = true := by rw [bne_iff_ne]; intro e; exact hzy (UInt8.toNat_inj.1 (by omega))
              have HF : Hid (onAll l m = false) := by
                show _ = _
                cases e : onAll l m
                · rfl
                · exfalso
                  have := HON.out.1 e k (by omega) hmk
                  rw [← HE1.out, ← HE2.out, ← HZ.out] at this
                  exact hzy this
              clear hzy
              go_region_held3 (fun w' => w'.cell? ⟨Bp, 0, none⟩ = some (.int .u8 (x.toNat : Int)) ∧ w'.cell? ⟨Bp, 1, none⟩ = some (.int .u8 (y.toNat : Int)))
                (first | exact ⟨hp0, hp1⟩ | exact ⟨cell_turn ht hp0 (by simp; omega), cell_turn ht hp1 (by simp; omega)⟩)
                ((go_at_call 121; refine (l7Through_own _ (l.take m) x _ HSC.out).mono ?_; rintro e w' ⟨rfl, ht⟩; rw [HLK.out]))
              all_goals
                have k7 := turn_trans k6 (undrewA ht) (by omega)
                go_wp2_with fail
                go_ret2
                exact ⟨by rw [HR.out, HO.out, HF.out]; rfl, k7⟩
          · have hd : decide ((m : Int) ≤ (k : Int)) = false := by simpa using hmk
            have HE3 : Hid (∀ i, i < k + 1 → m ≤ i → lag (xF l) (yF l) (xF l i) m = yF l i) := fun i hi hmi => HE.out i (by omega) hmi
            have HK6 := Lib.hid k6
            clear k6
            go_wp2_with fail
            go_quiet (fail)
            go_wp2_with fail
            go_roundw
            case rel => exact ⟨k + 1, by omega, by go_num, HE3, ⟨HK6.out.os, HK6.out.tape, HK6.out.output, HK6.out.size, HK6.out.block⟩⟩
            case measure => simp [intOf]; omega
        · obtain rfl : k = n := by omega
          have hki : ¬ (k : Int) < (k : Int) := by omega
          have HF : Hid (onAll l m = true) := HON.out.2 HE.out
          go_wp2_with fail
          go_ret2
          exact ⟨by rw [HR.out, HO.out, HF.out]; rfl, k5⟩
    · have HIN : Hid (inB k 1 20 = false) := by show decide _ = _; simpa using h1
      have HO := Lib.hid (isSOk_bad (l := l) (k := k) h1)
      have HR := Lib.hid (isSR_no HO.out)
      generalize hnn : l.length = n at *
      clear hnn h1
      go_enter Tryd.func60, Tryd.ntmps60
      go_wp2_with fail
      refine (l7Shares_own _ l _ HV.out).mono ?_
      rintro e w1 ⟨rfl, k1⟩
      rw [HS.out]
      go_wp2_with fail
      refine (l1In_any _ 1 20 _).mono ?_
      rintro e w' ⟨rfl, rfl⟩
      rw [HIN.out]
      go_wp2_with fail
      go_ret2
      exact ⟨by rw [HR.out, HO.out]; rfl, k1⟩
  · have HS : Hid (shrOk l = false) := by show _ = _; simpa using hs
    have HO := Lib.hid (isSOk_no (k := k) HS.out)
    have HR := Lib.hid (isSR_no HO.out)
    clear hs
    generalize hnn : l.length = n at *
    clear hnn
    go_enter Tryd.func60, Tryd.ntmps60
    go_wp2_with fail
    refine (l7Shares_own _ l _ HV.out).mono ?_
    rintro e w1 ⟨rfl, k1⟩
    rw [HS.out]
    go_wp2_with fail
    go_ret2
    exact ⟨by rw [HR.out, HO.out]; rfl, k1⟩

end Go.Proofs.YtgbhcjfnkjhkiaaDoor
