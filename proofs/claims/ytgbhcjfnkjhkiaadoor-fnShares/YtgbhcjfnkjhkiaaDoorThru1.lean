/- Lagrange's interpolation: the model's. -/
import Derived.Test.YtgbhcjfnkjhkiaaDoorGoodShr
import Derived.Test.YtgbhcjfnkjhkiaaDoorFieldBytes
import Derived.BigQuiet
set_option linter.unusedSimpArgs false
set_option linter.unusedVariables false
namespace G294
theorem upK_at {X : Nat → UInt8} {i : Nat} {x : UInt8} : upK X i x (i + 1) = upK X i x i := by simp [upK]
theorem upK_step {X : Nat → UInt8} {i k : Nat} {x : UInt8} (h : k ≠ i) : upK X i x (k + 1) = gmul (upK X i x k) (x ^^^ X k) := by simp [upK, h]
theorem lagK_succ (X Y : Nat → UInt8) (x : UInt8) (n m : Nat) : lagK X Y x n (m + 1) = lagK X Y x n m ^^^ gmul (Y m) (gmul (upK X m x n) (ginv (upK X m (X m) n))) := rfl
end G294
namespace Go.Proofs.YtgbhcjfnkjhkiaaDoor
open Go.RowKit G294

theorem l1Inverse_u8 (a : UInt8) (w : World) :
    Calls Tryd.prog 149 #[.int .u8 (a.toNat : Int)] w fun e w' => e = .returned (.int .u8 ((ginv a).toNat : Int)) ∧ w = w' := by
  rw [ginv_toNat]; exact l1Inverse_any _ a.toNat_lt w

set_option maxRecDepth 100000 in
set_option maxHeartbeats 2000000 in
theorem l7Through_own (v : Value) (l : List Sr) (x : UInt8) (w : World) (hv : SeenR w v l) :
    Calls Tryd.prog 121 #[v, .int .u8 (x.toNat : Int)] w (RetByte w (lag (xF l) (yF l) x l.length)) := by
  obtain ⟨A, c, rfl, hlc, hcm, hx⟩ := hv
  unfold maxLen at hcm
  have HL : Hid (lag (xF l) (yF l) x l.length = lagK (xF l) (yF l) x l.length l.length) := rfl
  generalize hnn : l.length = n at *
  have HN := Lib.hid hnn
  clear hnn
  go_enter Tryd.func121, Tryd.ntmps121
  go_wp2_with fail
  go_loopw [5, 14] (fun o i wr => ∃ k : Nat, k ≤ n ∧ i = .int .i64 k ∧ o = .int .u8 ((lagK (xF l) (yF l) x n k).toNat : Int) ∧ Below w.heap.size w wr)
    (fun _ i _ => n - (intOf i).toNat)
  case atStart => exact ⟨0, Nat.zero_le _, rfl, rfl, Below.refl _ _⟩
  case round =>
    obtain ⟨i, hi, rfl, rfl, hb⟩ := hrel
    by_cases hlt : i < n
    · obtain ⟨b, off, rfl, hbl, hcell⟩ := hx (by omega)
      obtain ⟨⟨no, s⟩, hks⟩ := at_ltR HN.out hlt
      have HXY := Lib.hid (at_xy hks)
      have hc1 := (hb.cell (p := ⟨b, off + i * 2, none⟩) hbl).trans (hcell i _ hks).1
      have hc2 := (hb.cell (p := ⟨b, off + i * 2 + 1, none⟩) hbl).trans (hcell i _ hks).2
      simp only at hc1 hc2
      have hii : (i : Int) < (n : Int) := by omega
      have hbs := hb.size
      have hb2 := hb.alloc hbs (.cells #[.int .u8 (no.toNat : Int), .int .u8 (s.toNat : Int)] 59)
      have hp0 : (wr.alloc (.cells #[.int .u8 (no.toNat : Int), .int .u8 (s.toNat : Int)] 59)).cell? ⟨wr.heap.size, 0, none⟩ = some (.int .u8 (no.toNat : Int)) := by simp
      have hp1 : (wr.alloc (.cells #[.int .u8 (no.toNat : Int), .int .u8 (s.toNat : Int)] 59)).cell? ⟨wr.heap.size, 1, none⟩ = some (.int .u8 (s.toNat : Int)) := by simp
      have hz1 := World.size_alloc wr (.cells #[.int .u8 (no.toNat : Int), .int .u8 (s.toNat : Int)] 59)
      clear hks
      go_wp2_with fail
      generalize hW : wr.alloc (.cells #[.int .u8 (no.toNat : Int), .int .u8 (s.toNat : Int)] 59) = W1 at *
      clear hW hc1 hc2 hb
      obtain ⟨B1, hB1⟩ : ∃ B1, B1 = wr.heap.size := ⟨_, rfl⟩
      rw [← hB1] at hp0 hp1 hz1 hbs ⊢
      clear hB1
      go_loopw [8, 9, 21] (fun u d j wr => ∃ k : Nat, k ≤ n ∧ j = .int .i64 k ∧ u = .int .u8 ((upK (xF l) i x k).toNat : Int) ∧ d = .int .u8 ((upK (xF l) i no k).toNat : Int) ∧ Below w.heap.size w wr ∧ Below (B1 + 1) W1 wr)
        (fun _ _ j _ => n - (intOf j).toNat)
      case atStart => exact ⟨0, Nat.zero_le _, rfl, rfl, rfl, hb2, Below.refl _ _⟩
      case round =>
        obtain ⟨k, hk, rfl, rfl, rfl, hb3, hb4⟩ := hrel
        have hd0 := (hb4.cell (p := ⟨B1, 0, none⟩) (by simp)).trans hp0
        have hd1 := (hb4.cell (p := ⟨B1, 1, none⟩) (by simp)).trans hp1
        have hs4 := hb4.size
        by_cases hlt2 : k < n
        · obtain ⟨⟨no', s'⟩, hks'⟩ := at_ltR HN.out hlt2
          have HXY' := Lib.hid (at_xy hks')
          have hc3 := (hb3.cell (p := ⟨b, off + k * 2, none⟩) hbl).trans (hcell k _ hks').1
          have hc4 := (hb3.cell (p := ⟨b, off + k * 2 + 1, none⟩) hbl).trans (hcell k _ hks').2
          simp only at hc3 hc4
          have hki : (k : Int) < (n : Int) := by omega
          have hb5 := hb3.alloc (by omega) (.cells #[.int .u8 (no'.toNat : Int), .int .u8 (s'.toNat : Int)] 59)
          have hb6 := hb4.alloc (by omega) (.cells #[.int .u8 (no'.toNat : Int), .int .u8 (s'.toNat : Int)] 59)
          clear hks'
          by_cases hne : k = i
          · subst hne
            have hbn : ((k : Int) != (k : Int)) = false := by simp
            have HU := Lib.hid (upK_at (X := xF l) (i := k) (x := x))
            have HD := Lib.hid (upK_at (X := xF l) (i := k) (x := no))
            clear hcell hx
            go_wp2_with fail
            go_roundw
            case rel => exact ⟨k + 1, by omega, by go_num, by rw [HU.out], by rw [HD.out], hb5, hb6⟩
            case measure => simp [intOf]; omega
          · have hbn : ((k : Int) != (i : Int)) = true := by simp; omega
            have HU := Lib.hid (upK_step (X := xF l) (x := x) hne)
            have HD := Lib.hid (upK_step (X := xF l) (x := no) hne)
            have he0 : (wr.alloc (.cells #[.int .u8 (no'.toNat : Int), .int .u8 (s'.toNat : Int)] 59)).cell? ⟨B1, 0, none⟩ = some (.int .u8 (no.toNat : Int)) := cell_turn (turn_alloc _ _) hd0 (by omega)
            have hx1 := xor_u8 x no'
            have hx2 := xor_u8 no no'
            clear hcell hx hne
            go_wp2_with fail
            refine (l1Times_u8 (upK (xF l) i x k) (x ^^^ no') _).mono ?_
            rintro e w' ⟨rfl, rfl⟩
            go_wp2_with fail
            refine (l1Times_u8 (upK (xF l) i no k) (no ^^^ no') _).mono ?_
            rintro e w' ⟨rfl, rfl⟩
            go_wp2_with fail
            go_roundw
            case rel => exact ⟨k + 1, by omega, by go_num, by rw [HU.out, ← HXY'.out.1], by rw [HD.out, ← HXY'.out.1], hb5, hb6⟩
            case measure => simp [intOf]; omega
        · obtain rfl : k = n := by omega
          have hki : ¬ (k : Int) < (k : Int) := by omega
          have HX := Lib.hid (xor_u8 (lagK (xF l) (yF l) x k i) (gmul s (gmul (upK (xF l) i x k) (ginv (upK (xF l) i no k)))))
          have HS := Lib.hid (lagK_succ (xF l) (yF l) x k i)
          clear hcell hx
          go_wp2_with fail
          go_quiet ((first | (go_at_call 125; exact quietly (l1Times_u8 _ _ _)) | (go_at_call 149; exact quietly (l1Inverse_u8 _ _))))
          go_wp2_with fail
          go_roundw
          case rel => exact ⟨i + 1, by omega, by go_num, by rw [HX.out, HS.out, ← HXY.out.1, ← HXY.out.2], below_drewN hb3 _⟩
          case measure => simp [intOf]; omega
    · obtain rfl : i = n := by omega
      have hki : ¬ (i : Int) < (i : Int) := by omega
      go_wp2_with fail
      go_ret
      exact ⟨by rw [HL.out]; rfl, TurnIn.of_below hb⟩

end Go.Proofs.YtgbhcjfnkjhkiaaDoor
