/- Chapter 12: MoveBack, the program's. -/
import Derived.Test.YtdbgkpmdimapdaaMvfX
set_option linter.unusedSimpArgs false
set_option linter.unusedVariables false
namespace G294
open Go Go.RowKit
theorem unmoved_takeD {l : List UInt8} {k : Nat} (h : k < l.length) : unmoved (l.take (k + 1)) = unmoved (l.take k) ++ [atOf (lastR .inc (unmoved (l.take k))) (l.getD k 0)] := by rw [unmoved_take h, getD_at h]
theorem last_unmoved {l : List UInt8} {k : Nat} (h : k < l.length) : lastR .inc (unmoved (l.take (k + 1))) = frontR (atOf (lastR .inc (unmoved (l.take k))) (l.getD k 0)) (lastR .inc (unmoved (l.take k))) := by rw [unmoved_takeD h, lastR_snoc]
theorem unmoved_len {l : List UInt8} {k : Nat} (h : k ≤ l.length) : (unmoved (l.take k)).length = k := by rw [unmoved, mbR_length]; simp; omega
end G294
namespace Go.Proofs.Ytdbgkpmdimapdaa
open Go.RowKit G294

set_option maxRecDepth 100000 in
set_option maxHeartbeats 4000000 in
theorem moveBack_own (v : Value) (l : List UInt8) (w : World) (hv : Seen w v (bys l)) : Calls Try.prog 32 #[v] w (RetStrOk w (mvbR l) (mvdOk l)) := by
  obtain ⟨i0, hi0, hz0, hz1, hz2⟩ := info_parts infoByte
  have HG := Lib.hid (fun W => goodMoved_any l.length W)
  obtain ⟨A, c0, rfl, hx⟩ := seen_getD hv
  clear hv
  by_cases h : l.length ≤ 200
  · have HB : Hid (mvdB l.length = true) := by show _ = _; simp [mvdB, h]
    have HO : Hid (mvdOk l = true) := HB.out
    have HR := Lib.hid (mvbR_yes HO.out)
    rw [HR.out, HO.out]
    have HMT := Lib.hid (fun k (h : k < l.length) => unmoved_takeD h)
    have HLT := Lib.hid (fun k (h : k < l.length) => last_unmoved h)
    have HMN := Lib.hid (fun k (h : k ≤ l.length) => unmoved_len h)
    have HTA : Hid (unmoved (l.take l.length) = unmoved l) := by show _ = _; rw [List.take_length]
    have HMA : Hid ((unmoved l).length = l.length) := by show _ = _; simp [unmoved]
    generalize l.length = n at *
    go_enter Try.func32, Try.ntmps32
    go_wp2_with fail
    refine (HG.out _).mono ?_
    rintro e w' ⟨rfl, rfl⟩
    rw [HB.out]
    go_wp2_with (at_make; refine wpList_make_full _ rfl _ _ _ rfl w.heap.size _ i0 _ 1 Try.underlying22 hi0 hz0 hz1 _ _ _ _ n rfl rfl rfl rfl ?b2 ?b3 ?b4 ?_)
    case b2 => rw [hz2]; omega
    case b3 => unfold maxLen; omega
    case b4 => exact Nat.le_refl _
    intro w1 hown1 hg1
    have hb1 : Below w.heap.size w w1 := below_of_grown hg1 (Nat.le_refl _) (by simp)
    have HOW1 : Hid (w1.ownsRow w.heap.size 5 1 (.slice (some ⟨w.heap.size, 0, none⟩) n n) n (bys (mkd (unmoved (l.take 0)) n))) := by
      show World.ownsRow _ _ _ _ _ _ _
      rw [toList_madeCells_one] at hown1
      have e : unmoved (l.take 0) = [] := rfl
      rw [e, mkd_zero, bys_rep0]; exact hown1
    have HK1 := Lib.hid (TurnIn.of_below hb1)
    have HL0 : Hid (Value.iface 77 (.agg #[]) = .iface (tyR (lastR .inc (unmoved (l.take 0)))) (payR (lastR .inc (unmoved (l.take 0))))) := Lib.hid rfl
    clear hown1 hg1 hb1
    go_wp2_with fail
    go_loopw [5, 19] (fun q y wr => ∃ k : Nat, k ≤ n ∧ y = .int .i64 k ∧ q = .iface (tyR (lastR .inc (unmoved (l.take k)))) (payR (lastR .inc (unmoved (l.take k)))) ∧ Hid (wr.ownsRow w.heap.size 5 1 (.slice (some ⟨w.heap.size, 0, none⟩) n n) n (bys (mkd (unmoved (l.take k)) n))) ∧ Hid (TurnIn 0 0 w wr)) (fun _ y _ => n - (intOf y).toNat)
    case atStart => exact ⟨0, Nat.zero_le _, rfl, HL0.out, HOW1, HK1⟩
    case round =>
      clear HOW1 HK1 HL0
      obtain ⟨k, hk, rfl, rfl, HBr, HK⟩ := hrel
      by_cases hlt : k < n
      · have hki : (k : Int) < (n : Int) := by omega
        have hwr := HK.out.size
        have hgl := (HBr.out.lt w.heap.size rfl).2
        obtain ⟨bl, ol, rfl, hbl, hcl⟩ := hx (by omega)
        have hdl : wr.cell? ⟨bl, ol + k, none⟩ = some (.int .u8 ((l.getD k 0).toNat : Int)) := (HK.out.to_below.cell (p := ⟨bl, ol + k, none⟩) hbl).trans (hcl k hlt)
        have HML := Lib.hid (HMN.out k hk)
        have HM1 := Lib.hid (HMT.out k hlt)
        have HL1 := Lib.hid (HLT.out k hlt)
        have hcx : wr.cell? ⟨w.heap.size, k, none⟩ = some (.int .u8 0) := by rw [HBr.out.cellAt k (by omega), mkd_at HML.out hlt]
        have hfr := HBr.out.frozenAt k
        clear hx hcl
        generalize l.getD k 0 = x at *
        generalize lastR .inc (unmoved (l.take k)) = r at *
        have HC := Lib.hid (fun b w => at_own r b w)
        have HW := Lib.hid (fun b w => withFront_own b r w)
        have HXX : Hid (atOf r x = atOf r x) := Lib.hid rfl
        rcases recShape r with ⟨e1, e2, e3⟩ | ⟨e1, e2, e3⟩
        · rw [e1] at HW ⊢
          rw [e3] at HC
          have hm := methAtI
          generalize payR r = p at *
          clear e1 e2 e3
          go_wp2_with fail
          refine (HC.out _ _).mono ?_
          rintro e w7 ⟨rfl, k7⟩
          have HOW7 := Lib.hid (owns_turn0 HBr.out k7)
          have t0 := cell_turn k7 hcx (by omega)
          have t4 := frozen_turn k7 hfr (by omega)
          have s7 := k7.size
          have HX1 := Lib.hid (HXX.out)
          generalize atOf r x = c at *
          have K7 := Lib.hid (turn_setM (turn_trans HK.out k7 (by omega)) (g := w.heap.size) (i := k) (.int .u8 (c.toNat : Int)) (Nat.le_refl _))
          have HOW8 : Hid ((w7.setCell ⟨w.heap.size, k, none⟩ (.int .u8 (c.toNat : Int))).ownsRow w.heap.size 5 1 (.slice (some ⟨w.heap.size, 0, none⟩) n n) n (bys (mkd (unmoved (l.take (k + 1))) n))) := by
            show World.ownsRow _ _ _ _ _ _ _
            rw [HM1.out, ← mkd_next HML.out hlt]
            exact (HOW7.out.stored k (.int .u8 (c.toNat : Int))).1
          clear k7 HBr HOW7
          go_wp2_with fail
          refine (HW.out c _).mono ?_
          rintro e w8 ⟨rfl, k8⟩
          have HOW9 := Lib.hid (owns_turn0 HOW8.out k8)
          have K8 := Lib.hid (turn_trans K7.out k8 (by omega))
          clear HOW8 K7 k8
          go_wp2_with fail
          go_roundw
          case rel => exact ⟨k + 1, by omega, by go_num, by rw [HL1.out], HOW9, K8⟩
          case measure => simp [intOf]; omega
        · rw [e1] at HW ⊢
          rw [e3] at HC
          have hm := methAtM
          generalize payR r = p at *
          clear e1 e2 e3
          go_wp2_with fail
          refine (HC.out _ _).mono ?_
          rintro e w7 ⟨rfl, k7⟩
          have HOW7 := Lib.hid (owns_turn0 HBr.out k7)
          have t0 := cell_turn k7 hcx (by omega)
          have t4 := frozen_turn k7 hfr (by omega)
          have s7 := k7.size
          have HX1 := Lib.hid (HXX.out)
          generalize atOf r x = c at *
          have K7 := Lib.hid (turn_setM (turn_trans HK.out k7 (by omega)) (g := w.heap.size) (i := k) (.int .u8 (c.toNat : Int)) (Nat.le_refl _))
          have HOW8 : Hid ((w7.setCell ⟨w.heap.size, k, none⟩ (.int .u8 (c.toNat : Int))).ownsRow w.heap.size 5 1 (.slice (some ⟨w.heap.size, 0, none⟩) n n) n (bys (mkd (unmoved (l.take (k + 1))) n))) := by
            show World.ownsRow _ _ _ _ _ _ _
            rw [HM1.out, ← mkd_next HML.out hlt]
            exact (HOW7.out.stored k (.int .u8 (c.toNat : Int))).1
          clear k7 HBr HOW7
          go_wp2_with fail
          refine (HW.out c _).mono ?_
          rintro e w8 ⟨rfl, k8⟩
          have HOW9 := Lib.hid (owns_turn0 HOW8.out k8)
          have K8 := Lib.hid (turn_trans K7.out k8 (by omega))
          clear HOW8 K7 k8
          go_wp2_with fail
          go_roundw
          case rel => exact ⟨k + 1, by omega, by go_num, by rw [HL1.out], HOW9, K8⟩
          case measure => simp [intOf]; omega
      · obtain rfl : k = n := by omega
        have hki : ¬ (k : Int) < (k : Int) := by omega
        rw [HTA.out, mkd_full HMA.out] at HBr
        have hseen := Seen.of_own HBr.out
        have hconv := run_string_seen (P := Try.prog) 22 5 9 Try.underlying22 Try.underlying5 Try.underlying9 hseen
        clear HBr hseen hx
        go_wp2_with fail
        go_ret2
        exact ⟨rfl, HK.out⟩
  · have HB : Hid (mvdB l.length = false) := by show _ = _; simp [mvdB]; omega
    have HO : Hid (mvdOk l = false) := HB.out
    have HR := Lib.hid (mvbR_no HO.out)
    rw [HR.out, HO.out]
    clear hx
    generalize l.length = n at *
    go_enter Try.func32, Try.ntmps32
    go_wp2_with fail
    refine (HG.out _).mono ?_
    rintro e w' ⟨rfl, rfl⟩
    rw [HB.out]
    go_wp2_with fail
    go_ret2
    exact ⟨rfl, TurnIn.refl _⟩

end Go.Proofs.Ytdbgkpmdimapdaa
