/- Chapter 12: the cursor's texts and lists of bytes. -/
import Derived.Test.YtdbgkpmdimapdaaCurPr
import Derived.Test.YtdbgkpmdimapdaaCurVec
import Derived.Test.YtdbgkpmdimapdaaMatI
set_option linter.unusedSimpArgs false
set_option linter.unusedVariables false
namespace G294
open Go Go.RowKit
theorem zero_cells (n : Nat) : List.replicate n (Value.int .u8 0) = bys (List.replicate n 0) := by simp [bys]
end G294
namespace Go.Proofs.Ytdbgkpmdimapdaa
open Go.RowKit G294

/-- some text is drawn -/
def DrawsMv (w : World) (g : Nat) (cv : Value) (n : Nat) (e : Ending) (w' : World) : Prop := ∃ r : List UInt8, e = .returned (.string (str r)) ∧ r.length ≤ 400 ∧ CurAt w' g cv n ∧ TurnIn g (g + 1) w w'

set_option maxRecDepth 100000 in
set_option maxHeartbeats 2000000 in
theorem moved_any (g : Nat) (cv : Value) (m : Nat) (w : World) (hc : CurAt w g cv m) (hm : m ≤ 1000000) :
    Calls Try.prog 72 #[.pointer (some ⟨g, 0, none⟩)] w (DrawsMv w g cv (m + 140)) := by
  obtain ⟨i0, hi0, hz0, hz1, hz2⟩ := info_parts infoByte
  have hz2' : i0.bytes = 1 := hz2
  have hgw := hc.lt
  go_enter Try.func72, Try.ntmps72
  go_wp2_with fail
  refine (prose_any g cv m _ hc hm).mono ?_
  rintro e w1 ⟨r, rfl, hr, hc1, k1⟩
  have s1 := k1.size
  go_wp2_with fail
  refine (pick_any g cv _ 20 _ hc1 (by omega)).mono ?_
  rintro e w2 ⟨x, rfl, x0, x1, hc2, k2⟩
  have s2 := k2.size
  have HK2 := Lib.hid (turn_trans k1 k2 (by omega))
  have HC2 := Lib.hid hc2
  have HR := Lib.hid hr
  have hsr := str_size r
  clear x1 hc1 hc2 k1 k2 hc hr
  by_cases hx0 : x = 0
  · subst hx0
    go_wp2_with (at_make; refine wpList_make_full _ rfl _ _ _ rfl w2.heap.size _ i0 _ 1 Try.underlying22 hi0 hz0 hz1 _ _ _ _ 150 rfl rfl rfl rfl ?b2 ?b3 ?b4 ?_)
    case b2 => rw [hz2']; omega
    case b3 => unfold maxLen; omega
    case b4 => exact Nat.le_refl _
    intro w3 hown3 hg3
    have hb3 : Below w2.heap.size w2 w3 := below_of_grown hg3 (Nat.le_refl _) (by simp)
    rw [toList_madeCells_one, zero_cells] at hown3
    have hseen := Seen.of_own hown3
    have hconv := run_string_seen (P := Try.prog) 22 5 9 Try.underlying22 Try.underlying5 Try.underlying9 hseen
    have HK3 := Lib.hid (turn_trans HK2.out (TurnIn.of_below hb3) (by omega))
    have HC3 := Lib.hid (HC2.out.keep (TurnIn.of_below hb3) (Or.inr (Nat.le_refl 0)))
    have HAP : Hid (str r ++ str (List.replicate 150 0) = str (r ++ List.replicate 150 0)) := str_append _ _
    have hs2 := str_size (List.replicate 150 (0 : UInt8))
    generalize hzz : List.replicate 150 (0 : UInt8) = z at *
    have hzl : z.length = 150 := by rw [← hzz]; simp
    clear hzz hown3 hg3 hb3 hseen
    have hr' := HR.out
    have hno : ¬ 9223372036854775807 < r.length + 150 := by omega
    go_wp2_with fail
    go_ret
    exact ⟨r ++ z, by rw [← HAP.out]; rfl, by rw [List.length_append, hzl]; have := HR.out; omega, HC3.out.more (by omega), HK3.out⟩
  · have hx0b : (x == 0) = false := beq_eq_false_iff_ne.2 hx0
    by_cases hx1 : x = 1
    · subst hx1
      go_wp2_with fail
      refine (pick_any g cv _ 2 _ HC2.out (by omega)).mono ?_
      rintro e w3 ⟨y, rfl, y0, y1, hc3, k3⟩
      obtain ⟨y, rfl⟩ := Int.eq_ofNat_of_zero_le y0
      have hy : y ≤ 1 := by
        have : pickHi 2 = 1 := rfl
        omega
      have HK3 := Lib.hid (turn_trans HK2.out k3 (by omega))
      have HC3 := Lib.hid hc3
      clear y0 y1 hc3 k3 HK2 HC2
      have hy01 : y = 0 ∨ y = 1 := by omega
      clear hy
      rcases hy01 with rfl | rfl
      · skip
        go_wp2_with (at_make; refine wpList_make_full _ rfl _ _ _ rfl w3.heap.size _ i0 _ 1 Try.underlying22 hi0 hz0 hz1 _ _ _ _ 200 rfl rfl rfl rfl ?b2 ?b3 ?b4 ?_)
        case b2 => rw [hz2']; omega
        case b3 => unfold maxLen; omega
        case b4 => exact Nat.le_refl _
        intro w4 hown4 hg4
        have hb4 : Below w3.heap.size w3 w4 := below_of_grown hg4 (Nat.le_refl _) (by simp)
        rw [toList_madeCells_one, zero_cells] at hown4
        have hseen := Seen.of_own hown4
        have hconv := run_string_seen (P := Try.prog) 22 5 9 Try.underlying22 Try.underlying5 Try.underlying9 hseen
        have HK4 := Lib.hid (turn_trans HK3.out (TurnIn.of_below hb4) (by omega))
        have HC4 := Lib.hid (HC3.out.keep (TurnIn.of_below hb4) (Or.inr (Nat.le_refl 0)))
        generalize hzz : List.replicate 200 (0 : UInt8) = z at *
        have HZL : Hid (z.length ≤ 400) := by show _ ≤ _; rw [← hzz]; simp
        clear hzz hown4 hg4 hb4 hseen
        go_wp2_with fail
        go_ret
        exact ⟨z, rfl, HZL.out, HC4.out.more (by omega), HK4.out⟩
      · skip
        go_wp2_with (at_make; refine wpList_make_full _ rfl _ _ _ rfl w3.heap.size _ i0 _ 1 Try.underlying22 hi0 hz0 hz1 _ _ _ _ 201 rfl rfl rfl rfl ?b2 ?b3 ?b4 ?_)
        case b2 => rw [hz2']; omega
        case b3 => unfold maxLen; omega
        case b4 => exact Nat.le_refl _
        intro w4 hown4 hg4
        have hb4 : Below w3.heap.size w3 w4 := below_of_grown hg4 (Nat.le_refl _) (by simp)
        rw [toList_madeCells_one, zero_cells] at hown4
        have hseen := Seen.of_own hown4
        have hconv := run_string_seen (P := Try.prog) 22 5 9 Try.underlying22 Try.underlying5 Try.underlying9 hseen
        have HK4 := Lib.hid (turn_trans HK3.out (TurnIn.of_below hb4) (by omega))
        have HC4 := Lib.hid (HC3.out.keep (TurnIn.of_below hb4) (Or.inr (Nat.le_refl 0)))
        generalize hzz : List.replicate 201 (0 : UInt8) = z at *
        have HZL : Hid (z.length ≤ 400) := by show _ ≤ _; rw [← hzz]; simp
        clear hzz hown4 hg4 hb4 hseen
        go_wp2_with fail
        go_ret
        exact ⟨z, rfl, HZL.out, HC4.out.more (by omega), HK4.out⟩
    · have hx1b : (x == 1) = false := beq_eq_false_iff_ne.2 hx1
      go_wp2_with fail
      go_ret
      exact ⟨r, rfl, by have := HR.out; omega, HC2.out.more (by omega), HK2.out⟩

/-- some text, drawn from a new cursor -/
def RetTx (w : World) (e : Ending) (w' : World) : Prop := ∃ r : List UInt8, e = .returned (.string (str r)) ∧ r.length ≤ 400 ∧ TurnIn 0 0 w w'

set_option maxHeartbeats 1000000 in
theorem drawMoveFront_any (v : Value) (l : List UInt8) (w : World) (hv : Seen w v (bys l)) : Calls Try.prog 28 #[v] w (RetTx w) := by
  obtain ⟨A, c, hvv⟩ := hv.len
  rw [bys_length] at hvv
  subst hvv
  have hc := cur_new hv
  have k0 := turn_alloc w (.cells #[.slice A l.length c, .int .i64 0, .int .u64 0] 67)
  have HP := Lib.hid (moved_any w.heap.size _ 0 _ hc (by omega))
  have HK := Lib.hid k0
  clear hc k0
  go_enter Try.func28, Try.ntmps28
  go_wp2_with fail
  refine HP.out.mono ?_
  rintro e w1 ⟨r, rfl, hr, _, k1⟩
  have HF := Lib.hid (turn_trans HK.out k1 (by omega))
  have HR := Lib.hid hr
  clear k1 hr
  go_wp2_with fail
  go_ret
  exact ⟨r, rfl, HR.out, HF.out⟩

set_option maxHeartbeats 1000000 in
theorem drawRunsOf_any (v : Value) (l : List UInt8) (w : World) (hv : Seen w v (bys l)) : Calls Try.prog 36 #[v] w (RetTx w) := by
  have HP := Lib.hid (drawMoveFront_any v l w hv)
  obtain ⟨A, c, hvv⟩ := hv.len
  rw [bys_length] at hvv
  generalize l.length = n at hvv
  subst hvv
  clear hv
  go_enter Try.func36, Try.ntmps36
  go_wp2_with fail
  refine HP.out.mono ?_
  rintro e w1 ⟨r, rfl, hr, k1⟩
  have HF := Lib.hid (And.intro hr k1)
  clear k1 hr
  go_wp2_with fail
  go_ret
  exact ⟨r, rfl, HF.out.1, HF.out.2⟩

/-- some bytes, drawn from a new cursor -/
def RetBy (w : World) (e : Ending) (w' : World) : Prop := ∃ (v : Value) (l : List UInt8), e = .returned v ∧ Seen w' v (bys l) ∧ l.length ≤ 400 ∧ TurnIn 0 0 w w'

set_option maxHeartbeats 1000000 in
theorem drawMoveBack_any (v : Value) (l : List UInt8) (w : World) (hv : Seen w v (bys l)) : Calls Try.prog 34 #[v] w (RetBy w) := by
  obtain ⟨A, c, hvv⟩ := hv.len
  rw [bys_length] at hvv
  subst hvv
  have hc := cur_new hv
  have k0 := turn_alloc w (.cells #[.slice A l.length c, .int .i64 0, .int .u64 0] 67)
  have s0 := k0.size
  go_enter Try.func34, Try.ntmps34
  go_wp2_with fail
  refine (pick_any _ _ 0 12 _ hc (by omega)).mono ?_
  rintro e w1 ⟨n, rfl, n0, n1, hc1, k1⟩
  have hn : n ≤ 11 := by simpa [pickHi] using n1
  obtain ⟨n, rfl⟩ := Int.eq_ofNat_of_zero_le n0
  have s1 := k1.size
  go_wp2_with fail
  refine (one_any _ _ _ 20 _ hc1 (by omega)).mono ?_
  rintro e w2 ⟨b, rfl, hc2, k2⟩
  have s2 := k2.size
  have hgl := hc2.lt
  have KK := Lib.hid (turn_trans (turn_trans k0 k1 (by omega)) k2 (by omega))
  have HC2 := Lib.hid hc2
  clear n0 n1 k0 k1 k2 hc hc1 hc2
  cases b
  · go_wp2_with fail
    refine (vector_any _ _ _ n _ HC2.out (by omega)).mono ?_
    rintro e w3 ⟨v1, l1, rfl, hl1, ho1, hc3, k3⟩
    have HL1 := Lib.hid hl1
    have HS := Lib.hid (Seen.of_own ho1)
    have K3 := Lib.hid (turn_trans KK.out k3 (by omega))
    clear hl1 ho1 hc3 k3
    go_wp2_with fail
    go_ret
    exact ⟨v1, l1, rfl, HS.out, by rw [HL1.out]; omega, K3.out⟩
  · go_wp2_with fail
    refine (pick_any _ _ _ 2 _ HC2.out (by omega)).mono ?_
    rintro e w3 ⟨y, rfl, y0, y1, hc3, k3⟩
    obtain ⟨y, rfl⟩ := Int.eq_ofNat_of_zero_le y0
    have hy : y ≤ 1 := by
      have : pickHi 2 = 1 := rfl
      omega
    have s3 := k3.size
    have HE : Hid ((200 : Int) + (y : Int) = ((200 + y : Nat) : Int)) := by show _ = _; omega
    have K3 := Lib.hid (turn_trans KK.out k3 (by omega))
    have HC3 := Lib.hid hc3
    clear y0 y1 hc3 k3 KK HC2
    go_wp2_with fail
    rw [HE.out]
    refine (vector_any _ _ _ (200 + y) _ HC3.out (by omega)).mono ?_
    rintro e w4 ⟨v1, l1, rfl, hl1, ho1, hc4, k4⟩
    have HL1 := Lib.hid hl1
    have HS := Lib.hid (Seen.of_own ho1)
    have K4 := Lib.hid (turn_trans K3.out k4 (by omega))
    clear hl1 ho1 hc4 k4
    go_wp2_with fail
    go_ret
    exact ⟨v1, l1, rfl, HS.out, by rw [HL1.out]; omega, K4.out⟩

end Go.Proofs.Ytdbgkpmdimapdaa
