/- Chapter 12: MoveBack, the model's. -/
import Derived.Test.YtdbgkpmdimapdaaMvfT
set_option linter.unusedSimpArgs false
set_option linter.unusedVariables false
namespace G294
open Go Go.RowKit
theorem moved_getD {s : List UInt8} {k : Nat} (h : k < s.length) : (moved s).getD k 0 = ixOf (lastR .inc (s.take k)) (s.getD k 0) := by
  have e : moved s = moved (s.take k) ++ mfR (lastR .inc (s.take k)) (s.drop k) := by
    unfold moved
    rw [← mfR_append, List.take_append_drop]
  have el : (moved (s.take k)).length = k := by simp [moved]; omega
  rw [List.getD_eq_getElem?_getD, e, List.getElem?_append_right (by omega), el, Nat.sub_self, List.drop_eq_getElem_cons h, getD_at h]
  rfl
theorem moved_unmoved (l : List UInt8) : moved (unmoved l) = l := mf_mb okR_inc l
@[simp] theorem unmoved_length (l : List UInt8) : (unmoved l).length = l.length := mbR_length _ _
theorem take_at {s : List UInt8} {k : Nat} (h : k < s.length) : s.take (k + 1) = s.take k ++ [s.getD k 0] := by rw [List.take_succ_eq_append_getElem h, getD_at h]
end G294
namespace Go.Proofs.Ytdbgkpmdimapdaa
open Go.RowKit G294

set_option maxRecDepth 100000 in
set_option maxHeartbeats 4000000 in
theorem l12Back_own (v : Value) (U : List UInt8) (w : World) (hv : Seen w v (bys (moved U))) (hs : U.length ≤ 200) : Calls Try.prog 79 #[v] w (RetStr w U) := by
  obtain ⟨A, c, rfl, hx⟩ := seen_getD hv
  have HMA : (moved U).length = U.length := by simp [moved]
  rw [HMA] at hx ⊢
  have HRA := Lib.hid (fun k (h : k < U.length) => row_at h)
  have HRL := Lib.hid (fun k (h : k ≤ U.length) => row_len U h)
  have HRN := Lib.hid (fun k => rowN_next U k)
  have HMG := Lib.hid (fun k (h : k < U.length) => moved_getD h)
  have HMT := Lib.hid (fun k (h : k < U.length) => take_at h)
  have HTA : Hid (U.take U.length = U) := by show _ = _; rw [List.take_length]
  have HR0 : Hid (rowN U 0 = row0) := Lib.hid rfl
  have HOW0 : Hid (∀ W : World, W.ownsRow w.heap.size 5 1 (.slice none 0 0) 0 (bys (U.take 0))) := by
    show ∀ W : World, World.ownsRow _ _ _ _ _ _ _
    intro W; exact World.ownsRow_nil _ _ _ _
  generalize hnn : U.length = n at *
  have HNN := Lib.hid hnn
  clear hv HMA hnn
  go_enter Try.func79, Try.ntmps79
  go_wp2_with fail
  refine (l12Row_own w).mono ?_
  rintro e w1 ⟨v1, rfl, hO1, k1⟩
  have HK1 := Lib.hid k1
  have HRK1 : Hid (RowK w1 v1 (rowN U 0) (Value.slice none 0 0).ownBlock) := by
    show RowK _ _ _ _
    rw [HR0.out]; exact RowK.none hO1 row0_len
  clear hO1 k1
  go_wp2_with fail
  go_loopw [3, 4, 10] (fun q v y wr => ∃ k : Nat, k ≤ n ∧ y = .int .i64 k ∧ Hid (wr.ownsRow w.heap.size 5 1 v k (bys (U.take k))) ∧ Hid (RowK wr q (rowN U k) v.ownBlock) ∧ Hid (TurnIn 0 0 w wr)) (fun _ _ y _ => n - (intOf y).toNat)
  case atStart => exact ⟨0, Nat.zero_le _, rfl, Lib.hid (HOW0.out _), HRK1, HK1⟩
  case round =>
    clear HOW0 HRK1 HK1
    obtain ⟨k, hk, rfl, HBr, HRK, HK⟩ := hrel
    by_cases hlt : k < n
    · have hki : (k : Int) < (n : Int) := by omega
      have hwr := HK.out.size
      obtain ⟨bl, ol, rfl, hbl, hcl⟩ := hx (by omega)
      have hdl : wr.cell? ⟨bl, ol + k, none⟩ = some (.int .u8 (((moved U).getD k 0).toNat : Int)) := (HK.out.to_below.cell (p := ⟨bl, ol + k, none⟩) hbl).trans (hcl k hlt)
      have HR1 := Lib.hid (HRA.out k hlt)
      have HN1 := Lib.hid (HRN.out k)
      have HM1 := Lib.hid (HMT.out k hlt)
      have HL1 := Lib.hid (HRL.out k hk)
      rw [HMG.out k hlt] at hdl
      clear hx hcl
      generalize rowN U k = R at *
      generalize ixOf (lastR .inc (U.take k)) (U.getD k 0) = x at *
      generalize U.getD k 0 = c at *
      have hxl := x.toNat_lt
      obtain ⟨b, off, cp, hq, hc1, hc2, hb, hav, hlen, hcell⟩ := HRK.out
      subst hq
      unfold maxLen at hc2
      have hcr : wr.cell? ⟨b, off + x.toNat, none⟩ = some (.int .u8 (c.toNat : Int)) := by rw [hcell x.toNat hxl, HR1.out.1]
      clear hcell hlen hav
      have HO2 := Lib.hid (World.ownsRow.alloc (w := wr) HBr.out (.cells #[.int .u8 (c.toNat : Int)] 5))
      have KA := Lib.hid (turn_trans HK.out (turn_alloc wr (.cells #[.int .u8 (c.toNat : Int)] 5)) (by omega))
      have HRA2 := Lib.hid (HRK.out.alloc (.cells #[.int .u8 (c.toNat : Int)] 5))
      clear HBr HRK
      generalize hxn : x.toNat = xn at *
      have hxi : (xn : Int) < 256 := by omega
      go_wp2_with (at_builtin; refine wpList_append1 rfl _ _ _ rfl w.heap.size 5 _ _ Try.underlying22 infoByte rfl _ k _ rfl HO2.out _ (.int .u8 (c.toNat : Int)) rfl ?c1 rfl ?c2 ?c3 ?c4 ?_)
      case c1 => simp
      case c2 => omega
      case c3 => omega
      case c4 => exact Nat.le_trans hwr (World.size_alloc _ _ ▸ Nat.le_succ _)
      intro v' w3 hown3 hg3 _
      have K3 := Lib.hid (growTy KA.out hg3 (fun g e => (HO2.out.lt g e).1))
      have HRK3 := Lib.hid (HRA2.out.grown hg3)
      have HO3 : Hid (w3.ownsRow w.heap.size 5 1 v' (k + 1) (bys (U.take (k + 1)))) := by
        show World.ownsRow _ _ _ _ _ _ _
        rw [HM1.out, bys_append]; exact hown3
      have hd3 : w3.cell? ⟨bl, ol + k, none⟩ = some (.int .u8 (xn : Int)) := (K3.out.to_below.cell (p := ⟨bl, ol + k, none⟩) hbl).trans ((HK.out.to_below.cell (p := ⟨bl, ol + k, none⟩) hbl).symm.trans hdl)
      clear hown3 hg3 HO2 KA HRA2
      go_wp2_with fail
      refine (l12Front_own _ R xn w3 HRK3.out.seen HL1.out (by omega)).mono ?_
      rintro e w4 ⟨v4, rfl, hO4, k4⟩
      have K4 := Lib.hid (turn_trans K3.out k4 (by omega))
      have HO4 := Lib.hid (owns_turn0 HO3.out k4)
      have HRK4 := Lib.hid (RowK.of_own hO4 (by rw [moveTo_length (by rw [HL1.out]; omega), HL1.out]) (fun g e => (HO3.out.lt g e).2))
      rw [← HN1.out] at HRK4
      clear hO4 k4 HO3 HRK3
      go_wp2_with fail
      go_roundw
      case rel => exact ⟨k + 1, by omega, by go_num, HO4, HRK4, K4⟩
      case measure => simp [intOf]; omega
    · obtain rfl : k = n := by omega
      have hki : ¬ (k : Int) < (k : Int) := by omega
      rw [HTA.out] at HBr
      have hseen := Seen.of_own HBr.out
      obtain ⟨A4, c4, h4⟩ := hseen.len
      rw [bys_length, HNN.out] at h4
      subst h4
      have hconv := run_string_seen (P := Try.prog) 22 5 9 Try.underlying22 Try.underlying5 Try.underlying9 hseen
      clear HBr hseen hx
      go_wp2_with fail
      go_ret
      exact ⟨rfl, HK.out⟩

set_option maxHeartbeats 1000000 in
theorem sMoveBack_own (v : Value) (l : List UInt8) (w : World) (hv : Seen w v (bys l)) : Calls Try.prog 35 #[v] w (RetStrOk w (mvbR l) (mvdOk l)) := by
  obtain ⟨A, c, rfl, hx⟩ := seen_getD hv
  clear hx
  by_cases h : l.length ≤ 200
  · have HO : Hid (mvdOk l = true) := by show _ = _; simp [mvdOk, mvdB, h]
    have HR := Lib.hid (mvbR_yes HO.out)
    have HT := Lib.hid (l12Back_own (.slice A l.length c) (unmoved l) w (by rw [moved_unmoved]; exact hv) (by simpa using h))
    rw [HR.out, HO.out]
    clear hv
    generalize l.length = n at *
    go_enter Try.func35, Try.ntmps35
    go_wp2_with fail
    refine HT.out.mono ?_
    rintro e w1 ⟨rfl, k1⟩
    have K1 := Lib.hid k1
    clear k1
    go_wp2_with fail
    go_ret2
    exact ⟨rfl, K1.out⟩
  · have HO : Hid (mvdOk l = false) := by show _ = _; simp [mvdOk, mvdB]; omega
    have HR := Lib.hid (mvbR_no HO.out)
    rw [HR.out, HO.out]
    clear hv
    generalize l.length = n at *
    go_enter Try.func35, Try.ntmps35
    go_wp2_with fail
    go_ret2
    exact ⟨rfl, TurnIn.refl _⟩

end Go.Proofs.Ytdbgkpmdimapdaa
