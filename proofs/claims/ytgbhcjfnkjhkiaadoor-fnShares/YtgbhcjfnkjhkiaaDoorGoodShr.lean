/- Valid shares: the program's and the model's. -/
import Derived.Test.YtgbhcjfnkjhkiaaDoorShaDef
import Derived.Test.YtgbhcjfnkjhkiaaDoorShrMem
import Derived.Test.YtgbhcjfnkjhkiaaDoorFieldWalksB
import Derived.Test.YtgbhcjfnkjhkiaaDoorBytesOwn
import Derived.Test.YtgbhcjfnkjhkiaaDoorBoxes
import Derived.Test.YtgbhcjfnkjhkiaaDoorMatI
import Derived.BigQuiet
set_option linter.unusedSimpArgs false
set_option linter.unusedVariables false
namespace G294
open Go Go.RowKit
theorem shr_bad {l : List Sr} {k : Nat} (hk : k < l.length) (h : ¬ prX l k < xF l k) : shrOk l = false := by
  cases e : shrOk l
  · rfl
  · exact absurd (((shrOk_iff l).1 e).2 k hk) h
theorem shr_many {l : List Sr} (h : 20 < l.length) : shrOk l = false := by
  cases e : shrOk l
  · rfl
  · exact absurd (shr_20 e) (by omega)
theorem shr_good {l : List Sr} (h20 : l.length ≤ 20) (h : ∀ i, i < l.length → prX l i < xF l i) : shrOk l = true := (shrOk_iff l).2 ⟨h20, h⟩
theorem prX_succ (l : List Sr) (k : Nat) : prX l (k + 1) = xF l k := by simp [prX]
theorem prX_zero (l : List Sr) : prX l 0 = 0 := rfl
theorem le_byte {x y : UInt8} : x.toNat ≤ y.toNat ↔ ¬ y < x := by rw [UInt8.lt_iff_toNat_lt]; omega
end G294
namespace Go.Proofs.YtgbhcjfnkjhkiaaDoor
open Go.RowKit G294

set_option maxRecDepth 100000 in
set_option maxHeartbeats 1000000 in
theorem goodShares_own (v : Value) (l : List Sr) (w : World) (hv : SeenR w v l) : Calls Tryd.prog 116 #[v] w (RetBool w (shrOk l)) := by
  obtain ⟨A, c, rfl, hlc, hcm, hx⟩ := hv
  unfold maxLen at hcm
  by_cases h20 : l.length ≤ 20
  · have HG := Lib.hid (shr_good h20)
    have HB := Lib.hid (fun k => @shr_bad l k)
    generalize hnn : l.length = n at *
    have HN := Lib.hid hnn
    clear hnn
    have hd : decide (20 < (n : Int)) = false := by simp; omega
    go_enter Tryd.func116, Tryd.ntmps116
    go_wp2_with fail
    go_loopw [3, 11] (fun q i wr => ∃ k : Nat, k ≤ n ∧ i = .int .i64 k ∧ q = .int .u8 ((prX l k).toNat : Int) ∧ Hid (∀ i, i < k → prX l i < xF l i) ∧ Below w.heap.size w wr)
      (fun _ i _ => n - (intOf i).toNat)
    case atStart => exact ⟨0, Nat.zero_le _, rfl, rfl, (fun _ h => by omega), Below.refl _ _⟩
    case round =>
      obtain ⟨k, hk, rfl, rfl, HE, hb⟩ := hrel
      by_cases hlt : k < n
      · obtain ⟨b, off, rfl, hbl, hcell⟩ := hx (by omega)
        obtain ⟨⟨no, s⟩, hks⟩ := at_ltR HN.out hlt
        have HXY := Lib.hid (at_xy hks)
        have hc1 := (hb.cell (p := ⟨b, off + k * 2, none⟩) hbl).trans (hcell k _ hks).1
        have hc2 := (hb.cell (p := ⟨b, off + k * 2 + 1, none⟩) hbl).trans (hcell k _ hks).2
        simp only at hc1 hc2
        have hki : (k : Int) < (n : Int) := by omega
        have hbs := hb.size
        have hb2 := hb.alloc hbs (.cells #[.int .u8 (no.toNat : Int), .int .u8 (s.toNat : Int)] 59)
        clear hcell hx hks
        by_cases hok : prX l k < no
        · have hd2 : ¬ no.toNat ≤ (prX l k).toNat := by rw [le_byte]; simpa using hok
          have HE2 : Hid (∀ i, i < k + 1 → prX l i < xF l i) := fun i hi => by
            rcases Nat.lt_or_ge i k with h' | h'
            · exact HE.out i h'
            · obtain rfl : i = k := by omega
              rw [← HXY.out.1]; exact hok
          have HPS : Hid (((prX l (k + 1)).toNat : Int) = (no.toNat : Int)) := by show _ = _; rw [prX_succ, ← HXY.out.1]
          clear hok
          go_wp2_with fail
          go_roundw
          case rel => exact ⟨k + 1, by omega, by go_num, by rw [HPS.out], HE2, hb2⟩
          case measure => simp [intOf]; omega
        · have hd2 : no.toNat ≤ (prX l k).toNat := le_byte.2 hok
          have HF : Hid (shrOk l = false) := HB.out k hlt (by rw [← HXY.out.1]; exact hok)
          clear hok
          go_wp2_with fail
          go_ret
          exact ⟨by rw [HF.out]; rfl, TurnIn.of_below hb2⟩
      · obtain rfl : k = n := by omega
        have hki : ¬ (k : Int) < (k : Int) := by omega
        have HF : Hid (shrOk l = true) := HG.out HE.out
        go_wp2_with fail
        go_ret
        exact ⟨by rw [HF.out]; rfl, TurnIn.of_below hb⟩
  · have HF := Lib.hid (shr_many (l := l) (by omega))
    generalize l.length = n at *
    have hd : decide (20 < (n : Int)) = true := by simp; omega
    go_enter Tryd.func116, Tryd.ntmps116
    go_wp2_with fail
    go_ret
    exact ⟨by rw [HF.out]; rfl, TurnIn.refl _⟩

set_option maxRecDepth 100000 in
set_option maxHeartbeats 2000000 in
theorem l7Shares_own (v : Value) (l : List Sr) (w : World) (hv : SeenR w v l) : Calls Tryd.prog 120 #[v] w (RetBool w (shrOk l)) := by
  obtain ⟨A, c, rfl, hlc, hcm, hx⟩ := hv
  unfold maxLen at hcm
  have HG := Lib.hid (@shr_good l)
  have HM := Lib.hid (@shr_many l)
  have HB := Lib.hid (fun k => @shr_bad l k)
  generalize hnn : l.length = n at *
  have HN := Lib.hid hnn
  clear hnn
  go_enter Tryd.func120, Tryd.ntmps120
  go_wp2_with fail
  go_loopw [7] (fun i wr => ∃ k : Nat, k ≤ n ∧ i = .int .i64 k ∧ Hid (∀ i, i < k → prX l i < xF l i) ∧ Below w.heap.size w wr)
    (fun i _ => n - (intOf i).toNat)
  case atStart => exact ⟨0, Nat.zero_le _, rfl, (fun _ h => by omega), Below.refl _ _⟩
  case round =>
    obtain ⟨k, hk, rfl, HE, hb⟩ := hrel
    by_cases hlt : k < n
    · obtain ⟨b, off, rfl, hbl, hcell⟩ := hx (by omega)
      obtain ⟨⟨no, s⟩, hks⟩ := at_ltR HN.out hlt
      have HXY := Lib.hid (at_xy hks)
      have hc1 := (hb.cell (p := ⟨b, off + k * 2, none⟩) hbl).trans (hcell k _ hks).1
      have hc2 := (hb.cell (p := ⟨b, off + k * 2 + 1, none⟩) hbl).trans (hcell k _ hks).2
      simp only at hc1 hc2
      have hki : (k : Int) < (n : Int) := by omega
      have hbs := hb.size
      have hb2 := hb.alloc hbs (.cells #[.int .u8 (no.toNat : Int), .int .u8 (s.toNat : Int)] 59)
      have HE2 : Hid (prX l k < no → ∀ i, i < k + 1 → prX l i < xF l i) := fun hok i hi => by
        rcases Nat.lt_or_ge i k with h' | h'
        · exact HE.out i h'
        · obtain rfl : i = k := by omega
          rw [← HXY.out.1]; exact hok
      have HF : Hid (¬ prX l k < no → shrOk l = false) := fun hok => HB.out k hlt (by rw [← HXY.out.1]; exact hok)
      by_cases hz : no = 0
      · have hd0 : ((no.toNat : Int) == 0) = true := by rw [hz]; rfl
        have HF2 := Lib.hid (HF.out (by rw [hz, UInt8.lt_iff_toNat_lt]; simp))
        clear hz hks hcell hx
        go_wp2_with fail
        go_quiet (fail)
        go_wp2_with fail
        go_ret
        exact ⟨by rw [HF2.out]; rfl, TurnIn.of_below (below_drewN hb2 _)⟩
      · have hd0 : ((no.toNat : Int) == 0) = false := by
          rw [beq_eq_false_iff_ne]; intro e; exact hz (UInt8.toNat_inj.1 (by simpa using e))
        by_cases hk0 : k = 0
        · subst hk0
          have hd1 : decide ((0 : Int) < ((0 : Nat) : Int)) = false := by simp
          simp only [Nat.zero_mul, Nat.add_zero] at hc1 hc2
          have HE3 := Lib.hid (HE2.out (by rw [prX_zero, UInt8.lt_iff_toNat_lt]; have : no.toNat ≠ 0 := fun e => hz (UInt8.toNat_inj.1 e); simp; omega))
          clear hz hks hcell hx
          go_wp2_with fail
          go_quiet (fail)
          go_wp2_with fail
          go_roundw
          case rel => exact ⟨0 + 1, by omega, by go_num, HE3.out, below_drewN hb2 _⟩
          case measure => simp [intOf]; omega
        · obtain ⟨j, rfl⟩ : ∃ j, k = j + 1 := ⟨k - 1, by omega⟩
          have hd1 : decide ((0 : Int) < ((j + 1 : Nat) : Int)) = true := by simp
          obtain ⟨⟨no', s'⟩, hks'⟩ := at_ltR HN.out (show j < n by omega)
          have HP : Hid (prX l (j + 1) = no') := by show _ = _; rw [prX_succ, ← (at_xy hks').1]
          have hc3 := (hb.cell (p := ⟨b, off + j * 2, none⟩) hbl).trans (hcell j _ hks').1
          simp only at hc3
          have hc4 : (wr.alloc (.cells #[.int .u8 (no.toNat : Int), .int .u8 (s.toNat : Int)] 59)).cell? ⟨b, off + j * 2, none⟩ = some (.int .u8 (no'.toNat : Int)) := cell_turn (turn_alloc _ _) hc3 (by omega)
          have hjj : ((j + 1 : Nat) : Int) - 1 = (j : Int) := by omega
          have hji : (j : Int) < (n : Int) := by omega
          by_cases hok : no' < no
          · have hd2 : decide (no.toNat ≤ no'.toNat) = false := by rw [decide_eq_false_iff_not, le_byte]; simpa using hok
            have HE3 := Lib.hid (HE2.out (by rw [HP.out]; exact hok))
            clear hz hks hcell hx hks' hok
            go_wp2_with fail
            go_quiet (fail)
            go_wp2_with fail
            go_roundw
            case rel => exact ⟨j + 1 + 1, by omega, by go_num, HE3.out, below_drewN hb2 _⟩
            case measure => simp [intOf]; omega
          · have hd2 : decide (no.toNat ≤ no'.toNat) = true := by rw [decide_eq_true_iff, le_byte]; exact hok
            have HF2 := Lib.hid (HF.out (by rw [HP.out]; exact hok))
            clear hz hks hcell hx hks' hok
            go_wp2_with fail
            go_quiet (fail)
            go_wp2_with fail
            go_ret
            exact ⟨by rw [HF2.out]; rfl, TurnIn.of_below (below_drewN hb2 _)⟩
    · obtain rfl : k = n := by omega
      have hki : ¬ (k : Int) < (k : Int) := by omega
      by_cases h20 : k ≤ 20
      · have HF : Hid (shrOk l = true) := HG.out h20 HE.out
        have hd : decide ((k : Int) ≤ 20) = true := by simp; omega
        go_wp2_with fail
        go_ret
        exact ⟨by rw [HF.out]; rfl, TurnIn.of_below hb⟩
      · have HF : Hid (shrOk l = false) := HM.out (by omega)
        have hd : decide ((k : Int) ≤ 20) = false := by simp; omega
        go_wp2_with fail
        go_ret
        exact ⟨by rw [HF.out]; rfl, TurnIn.of_below hb⟩

set_option maxHeartbeats 400000 in
theorem goodRandom_any (v : Value) (l : List UInt8) (w : World) (hv : Seen w v (bys l)) :
    Calls Tryd.prog 112 #[v] w fun e w' => e = .returned (.bool (decide (l.length ≤ 8))) ∧ w = w' := by
  obtain ⟨A, c, rfl, hlc, hcm, hx⟩ := hv
  simp only [bys_length] at hlc ⊢
  unfold maxLen at hcm
  clear hx
  generalize l.length = n at *
  go_enter Tryd.func112, Tryd.ntmps112
  go_wp2_with fail
  go_ret
  exact ⟨by simp; omega, rfl⟩

end Go.Proofs.YtgbhcjfnkjhkiaaDoor
