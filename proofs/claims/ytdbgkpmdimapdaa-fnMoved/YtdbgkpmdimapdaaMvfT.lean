/- Chapter 12: MoveFront and MoveBack, the model's. -/
import Derived.Test.YtdbgkpmdimapdaaMvfS
set_option linter.unusedSimpArgs false
set_option linter.unusedVariables false
namespace G294
open Go Go.RowKit
/-- what holds at one byte of a text -/
theorem row_at {s : List UInt8} {k : Nat} (h : k < s.length) : (rowN s k).getD (ixOf (lastR .inc (s.take k)) (s.getD k 0)).toNat 0 = s.getD k 0 ∧ (∀ j, j < (ixOf (lastR .inc (s.take k)) (s.getD k 0)).toNat → (rowN s k).getD j 0 ≠ s.getD k 0) := by
  have ho := okR_last okR_inc (s.take k)
  have hr := rowN_ok s k (by omega)
  exact ⟨rowed_ix hr ho _, fun j hj => rowed_before hr ho hj⟩
theorem row_len (s : List UInt8) {k : Nat} (h : k ≤ s.length) : (rowN s k).length = 256 := (rowN_ok s k h).len
theorem rowN_next (s : List UInt8) (k : Nat) : rowN s (k + 1) = moveTo (rowN s k) (ixOf (lastR .inc (s.take k)) (s.getD k 0)).toNat := rfl
theorem RowK.none {w : World} {v : Value} {l : List UInt8} {lo hi : Nat} {E : TypeId} (h : OwnBytes E w lo hi v l) (hl : l.length = 256) : RowK w v l none := RowK.of_own h hl (fun g e => by cases e)
end G294
namespace Go.Proofs.Ytdbgkpmdimapdaa
open Go.RowKit G294

set_option maxRecDepth 100000 in
set_option maxHeartbeats 4000000 in
theorem l12Move_own (s : List UInt8) (w : World) (hs : s.length ≤ 200) : Calls Try.prog 75 #[.string (str s)] w (RetBytes 5 w (moved s)) := by
  have hsz : (str s).size = s.length := str_size s
  have HSG := Lib.hid (fun k h => str_get s k h)
  have HRA := Lib.hid (fun k (h : k < s.length) => row_at h)
  have HRL := Lib.hid (fun k (h : k ≤ s.length) => row_len s h)
  have HRN := Lib.hid (fun k => rowN_next s k)
  have HMT := Lib.hid (fun k (h : k < s.length) => (moved_take h).trans (by rw [← getD_at (d := (0 : UInt8)) h]))
  have HTA : Hid (moved (s.take s.length) = moved s) := by show _ = _; rw [List.take_length]
  have HMA : Hid ((moved s).length = s.length) := by show _ = _; simp [moved]
  have HR0 : Hid (rowN s 0 = row0) := Lib.hid rfl
  have HOW0 : Hid (∀ W : World, W.ownsRow w.heap.size 5 1 (.slice none 0 0) 0 (bys (moved (s.take 0)))) := by
    show ∀ W : World, World.ownsRow _ _ _ _ _ _ _
    intro W; exact World.ownsRow_nil _ _ _ _
  generalize s.length = n at *
  go_enter Try.func75, Try.ntmps75
  go_wp2_with fail
  refine (l12Row_own w).mono ?_
  rintro e w1 ⟨v1, rfl, hO1, k1⟩
  have HK1 := Lib.hid k1
  have HRK1 : Hid (RowK w1 v1 (rowN s 0) (Value.slice none 0 0).ownBlock) := by
    show RowK _ _ _ _
    rw [HR0.out]; exact RowK.none hO1 row0_len
  clear hO1 k1
  go_wp2_with fail
  go_loopw [3, 4, 5] (fun q v y wr => ∃ k : Nat, k ≤ n ∧ y = .int .i64 k ∧ Hid (wr.ownsRow w.heap.size 5 1 v k (bys (moved (s.take k)))) ∧ Hid (RowK wr q (rowN s k) v.ownBlock) ∧ Hid (TurnIn 0 0 w wr)) (fun _ _ y _ => n - (intOf y).toNat)
  case atStart => exact ⟨0, Nat.zero_le _, rfl, Lib.hid (HOW0.out _), HRK1, HK1⟩
  case round =>
    clear HOW0 HRK1 HK1
    obtain ⟨k, hk, rfl, HBr, HRK, HK⟩ := hrel
    by_cases hlt : k < n
    · have hki : (k : Int) < (n : Int) := by omega
      have hwr := HK.out.size
      have HR1 := Lib.hid (HRA.out k hlt)
      have HN1 := Lib.hid (HRN.out k)
      have HM1 := Lib.hid (HMT.out k hlt)
      have HL1 := Lib.hid (HRL.out k hk)
      have g1 := HSG.out k (by omega)
      generalize rowN s k = R at *
      generalize ixOf (lastR .inc (s.take k)) (s.getD k 0) = x at *
      generalize s.getD k 0 = c at *
      have hx := x.toNat_lt
      obtain ⟨b, off, cp, hq, hc1, hc2, hb, hav, hlen, hcell⟩ := HRK.out
      subst hq
      unfold maxLen at hc2
      have HC := Lib.hid hcell
      clear hcell hlen hav
      go_wp2_with fail
      go_loopw [6] (fun q W => ∃ j m : Nat, j ≤ x.toNat ∧ q = .int .i64 j ∧ W = wr.drewN m) (fun q _ => x.toNat - (intOf q).toNat)
      case atStart => exact ⟨0, 0, Nat.zero_le _, rfl, rfl⟩
      case round =>
        obtain ⟨j, m, hj, rfl, rfl⟩ := hrel
        have hji : (j : Int) < 256 := by omega
        have hcj : wr.cell? ⟨b, off + j, none⟩ = some (.int .u8 ((R.getD j 0).toNat : Int)) := HC.out j (by omega)
        by_cases hjx : j < x.toNat
        · have hbb : (((R.getD j 0).toNat : Int) != (c.toNat : Int)) = true := by rw [bne_iff_ne]; intro e; exact HR1.out.2 j hjx (UInt8.toNat_inj.1 (by omega))
          generalize (R.getD j 0).toNat = z at *
          go_wp2_with fail
          go_quiet (fail)
          go_wp2_with fail
          go_roundw
          case rel => exact ⟨j + 1, m + _, by omega, by go_num, by first | rfl | rw [World.drewN_drewN]⟩
          case measure => simp [intOf]; omega
        · obtain rfl : j = x.toNat := by omega
          have hbb : (((R.getD x.toNat 0).toNat : Int) != (c.toNat : Int)) = false := by rw [HR1.out.1]; exact bne_self_eq_false _
          generalize (R.getD x.toNat 0).toNat = z at *
          have HO2 := Lib.hid (fun m => World.ownsRow.alloc (w := wr.drewN m) HBr.out (.cells #[.int .u8 (x.toNat : Int)] 5))
          have KA := Lib.hid (fun m => turn_trans (TurnIn.of_below (below_drewN HK.out.to_below m)) (turn_alloc (wr.drewN m) (.cells #[.int .u8 (x.toNat : Int)] 5)) (by omega))
          have HRA2 := Lib.hid (fun m => (HRK.out.drewN m).alloc (.cells #[.int .u8 (x.toNat : Int)] 5))
          clear HBr HRK
          go_wp2_with fail
          go_quiet (fail)
          go_wp2_with (at_builtin; refine wpList_append1 rfl _ _ _ rfl w.heap.size 5 _ _ Try.underlying22 infoByte rfl _ k _ rfl (HO2.out _) _ (.int .u8 (x.toNat : Int)) rfl ?c1 rfl ?c2 ?c3 ?c4 ?_)
          case c1 => exact alloc_cell (World.drewN _ _) _ _
          case c2 => omega
          case c3 => omega
          case c4 => exact Nat.le_trans hwr (World.size_alloc _ _ ▸ Nat.le_succ _)
          intro v' w3 hown3 hg3 _
          have K3 := Lib.hid (growTy (KA.out _) hg3 (fun g e => ((HO2.out 0).lt g e).1))
          have HRK3 := Lib.hid ((HRA2.out _).grown hg3)
          have HO3 : Hid (w3.ownsRow w.heap.size 5 1 v' (k + 1) (bys (moved (s.take (k + 1))))) := by
            show World.ownsRow _ _ _ _ _ _ _
            rw [HM1.out, bys_append]; exact hown3
          clear hown3 hg3 HO2 KA HRA2
          go_wp2_with fail
          refine (l12Front_own _ R x.toNat w3 HRK3.out.seen HL1.out hx).mono ?_
          rintro e w4 ⟨v4, rfl, hO4, k4⟩
          have K4 := Lib.hid (turn_trans K3.out k4 (by omega))
          have HO4 := Lib.hid (owns_turn0 HO3.out k4)
          have HRK4 := Lib.hid (RowK.of_own hO4 (by rw [moveTo_length (by rw [HL1.out]; exact hx), HL1.out]) (fun g e => (HO3.out.lt g e).2))
          rw [← HN1.out] at HRK4
          clear hO4 k4 HO3 HRK3
          go_wp2_with fail
          go_roundw
          case rel => exact ⟨k + 1, by omega, by go_num, HO4, HRK4, K4⟩
          case measure => simp [intOf]; omega
    · obtain rfl : k = n := by omega
      have hki : ¬ (k : Int) < (k : Int) := by omega
      rw [HTA.out] at HBr
      go_wp2_with fail
      go_ret
      exact ⟨_, rfl, ⟨by rw [HMA.out]; exact HBr.out, Nat.le_refl _, fun g e => (HBr.out.lt g e).2⟩, HK.out⟩

set_option maxHeartbeats 1000000 in
theorem sMoveFront_own (s : List UInt8) (w : World) (hs : s.length ≤ 1000000000000) : Calls Try.prog 30 #[.string (str s)] w (RetBytesOk 5 w (mvfR s) (mvdOk s)) := by
  have hsz : (str s).size = s.length := str_size s
  by_cases h : s.length ≤ 200
  · have HO : Hid (mvdOk s = true) := by show _ = _; simp [mvdOk, mvdB, h]
    have HR := Lib.hid (mvfR_yes HO.out)
    have HT := Lib.hid (l12Move_own s w h)
    rw [HR.out, HO.out]
    generalize s.length = n at *
    go_enter Try.func30, Try.ntmps30
    go_wp2_with fail
    refine HT.out.mono ?_
    rintro e w1 ⟨v1, rfl, hO, k1⟩
    have K1 := Lib.hid k1
    have HO1 := Lib.hid hO
    clear k1 hO
    go_wp2_with fail
    go_ret2
    exact ⟨_, rfl, HO1.out, K1.out⟩
  · have HO : Hid (mvdOk s = false) := by show _ = _; simp [mvdOk, mvdB]; omega
    have HR := Lib.hid (mvfR_no HO.out)
    rw [HR.out, HO.out]
    generalize s.length = n at *
    go_enter Try.func30, Try.ntmps30
    go_wp2_with fail
    go_ret2
    exact ⟨_, rfl, OwnBytes.nil _ _ _, TurnIn.refl _⟩

end Go.Proofs.Ytdbgkpmdimapdaa
