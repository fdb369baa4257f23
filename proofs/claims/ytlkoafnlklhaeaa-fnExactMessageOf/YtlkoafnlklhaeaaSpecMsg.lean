/- MessageOf, the model's. -/
import Derived.BigRegion
import Derived.Test.YtlkoafnlklhaeaaSymRows
import Derived.Test.YtlkoafnlklhaeaaSpecBlank
import Derived.Test.YtlkoafnlklhaeaaFill2
import Derived.IntWalk
set_option linter.unusedSimpArgs false
set_option linter.unusedVariables false
namespace Go.Proofs.Ytlkoafnlklhaeaa
open Go.RowKit G294

set_option maxRecDepth 100000 in
set_option maxHeartbeats 4000000 in
theorem l5Message_own (n : Int) (a : Nat) (v : Value) (l : List UInt8) (w : World) (hv : Seen w v (bys l)) (h1 : 1 ≤ a) (h2 : a ≤ 3) (hl : l.length = 2 * off a a) :
    Calls Try.prog 20 #[msrV n ((a : Int) + 1), v] w (RetMat 5 30 w (msgM a l)) := by
  obtain ⟨A, cv, rfl, hlc, hcm, hx⟩ := hv
  rw [bys_length] at hlc hx
  simp only [bys_length]
  unfold maxLen at hcm
  have hoff := off_half h1 h2
  obtain ⟨b, o, rfl, hbl, hcell⟩ := hx (by omega)
  have HL := Lib.hid hl
  rw [hl] at hlc ⊢
  have HX := Lib.hid hcell
  clear hx hcell hl
  generalize hd : off a a = d at *
  have HDD := Lib.hid hd
  obtain ⟨s, hs⟩ : ∃ s, s = 2 * d := ⟨_, rfl⟩
  rw [← hs] at hlc HL ⊢
  have hsd1 : s ≤ d + d := by omega
  have hsd2 : d + d ≤ s := by omega
  clear hd hs
  have c1 := alloc_duo1 w (.int .i64 n) (.int .i64 ((a : Int) + 1)) 25
  have hb0 : Below w.heap.size w ((w.alloc (.cells #[.int .i64 n, .int .i64 ((a : Int) + 1)] 25)).alloc (.cells #[.slice none 0 0] 33)) := ((Below.refl _ _).alloc (Nat.le_refl _) _).alloc (by simp) _
  have hz0 : ((w.alloc (.cells #[.int .i64 n, .int .i64 ((a : Int) + 1)] 25)).alloc (.cells #[.slice none 0 0] 33)).heap.size = w.heap.size + 2 := by simp
  have c0 : ((w.alloc (.cells #[.int .i64 n, .int .i64 ((a : Int) + 1)] 25)).alloc (.cells #[.slice none 0 0] 33)).cell? ⟨w.heap.size + 1, 0, none⟩ = some (.slice none 0 0) := by simp
  have f0 : ((w.alloc (.cells #[.int .i64 n, .int .i64 ((a : Int) + 1)] 25)).alloc (.cells #[.slice none 0 0] 33)).frozen? ⟨w.heap.size + 1, 0, none⟩ = false := by simp
  have HBL : Hid (∀ W : World, Calls Try.prog 25 #[.int .i64 (2 * (a : Int)), .int .i64 (a : Int)] W (RetMat 5 30 W (mkM (a + a) a fun _ _ => 0))) := fun W => by
    have e : (2 : Int) * (a : Int) = ((a + a : Nat) : Int) := by omega
    rw [e]; exact l2Blank_own (a + a) a W (by omega) (by omega)
  have ha2 : (2 : Int) * (a : Int) ≤ 6 := by omega
  go_enter Try.func20, Try.ntmps20
  go_wp2_with fail
  refine (HBL.out _).mono ?_
  rintro e w1 ⟨u, vs, rfl, hM, k1⟩
  obtain ⟨g, cp, rfl, hg1, hg2, hg3, hg4⟩ := hM.sliceF (by omega)
  have hs1 := k1.size
  have hb1 := k1.base hb0 (by omega) (by omega)
  replace c0 := cell_turn k1 c0 (by omega)
  replace f0 := frozen_turn k1 f0 (by omega)
  have HF0 := Lib.hid ((Fill2.late (w := w) (t := 33) (R := w.heap.size + 1) rfl hM (by omega) (by omega) c0 f0 hb1 (by omega)).congr (L' := mkM (a + a) a (msgP a l 0 0 0)) (mkM_congr fun i j _ _ => (msgP_zero _ _ _ _).symm))
  have hcB := alloc_cell w1 (.slice (some ⟨g, 0, none⟩) (a + a) cp) 33
  clear hM k1 hb0 hb1 c0 f0 c1 hz0 hg1 hg2
  unfold maxLen at hg4
  go_wp2_with fail
  generalize w1.alloc (.cells #[.slice (some ⟨g, 0, none⟩) (a + a) cp] 33) = w2 at *
  generalize w1.heap.size = B at *
  clear hcB
  go_loopw [7, 8] (fun t i wr => ∃ h : Nat, h ≤ 2 ∧ i = .int .i64 h ∧ t = .int .i64 (h * d : Nat) ∧ Hid (Fill2 5 30 w wr (w.heap.size + 1) B (.slice (some ⟨g, 0, none⟩) (a + a) cp) (mkM (a + a) a (msgP a l h 0 0)) vs))
    (fun _ i _ => 2 - (intOf i).toNat)
  case atStart => exact ⟨0, by omega, rfl, by simp, HF0.out⟩
  case round =>
    clear HF0
    obtain ⟨h, hh, rfl, rfl, HF⟩ := hrel
    by_cases hlt : h < 2
    · have hhi : (h : Int) < 2 := by omega
      have HFP := Lib.hid HF.out
      go_wp2_with fail
      go_loopw [7, 9] (fun t i wr => ∃ p : Nat, p ≤ a ∧ i = .int .i64 p ∧ t = .int .i64 (h * d + tix a p p : Nat) ∧ Hid (Fill2 5 30 w wr (w.heap.size + 1) B (.slice (some ⟨g, 0, none⟩) (a + a) cp) (mkM (a + a) a (msgP a l h p p)) vs))
        (fun _ i _ => a - (intOf i).toNat)
      case atStart => exact ⟨0, by omega, rfl, rfl, HFP.out⟩
      case round =>
        clear HFP HF
        obtain ⟨p, hp, rfl, rfl, HF⟩ := hrel
        by_cases hltp : p < a
        · have hpi : (p : Int) < (a : Int) := by omega
          have HFP := Lib.hid HF.out
          go_wp2_with fail
          go_loopw [7, 10] (fun t i wr => ∃ q : Nat, p ≤ q ∧ q ≤ a ∧ i = .int .i64 q ∧ t = .int .i64 (h * d + tix a p q : Nat) ∧ Hid (Fill2 5 30 w wr (w.heap.size + 1) B (.slice (some ⟨g, 0, none⟩) (a + a) cp) (mkM (a + a) a (msgP a l h p q)) vs))
            (fun _ i _ => a - (intOf i).toNat)
          case atStart => exact ⟨p, Nat.le_refl _, hp, rfl, rfl, HFP.out⟩
          case round =>
            clear HFP HF
            obtain ⟨q, hpq, hq, rfl, rfl, HF⟩ := hrel
            by_cases hltq : q < a
            · have hqi : (q : Int) < (a : Int) := by omega
              have hxq : tix a p q < off a a := tix_lt hpq hltq
              rw [HDD.out] at hxq
              have HST0 := Lib.hid (msgP_step a l h p q hpq hltq)
              rw [HDD.out] at HST0
              have HT := Lib.hid (tix_next (a := a) hpq)
              obtain ⟨R, hR⟩ : ∃ R, R = h * a := ⟨_, rfl⟩
              have hRa : R ≤ a := by
                have : h = 0 ∨ h = 1 := by omega
                rcases this with rfl | rfl <;> omega
              obtain ⟨t, ht⟩ : ∃ t, t = h * d + tix a p q := ⟨_, rfl⟩
              have hts : t < s := by
                have : h = 0 ∨ h = 1 := by omega
                rcases this with rfl | rfl <;> omega
              have HT2 : Hid (h * d + tix a p (q + 1) = t + 1) := by show _ = _; rw [HT.out]; omega
              rw [← ht] at HST0 ⊢
              rw [← hR] at HST0
              have hmu : (h : Int) * (a : Int) = (R : Int) := by rw [hR]; simp
              have hw0 : IntKind.i64.wrap (R : Int) = (R : Int) := IntWalk.i64_in _ (by omega)
              have hw1 : IntKind.i64.wrap ((R : Int) + (p : Int)) = ((R + p : Nat) : Int) := by rw [IntWalk.i64_in _ (by omega)]; omega
              have hw2 : IntKind.i64.wrap ((R : Int) + (q : Int)) = ((R + q : Nat) : Int) := by rw [IntWalk.i64_in _ (by omega)]; omega
              have HMU := Lib.hid hR
              clear HT hR ht
              have hkl : t < l.length := by rw [HL.out]; exact hts
              have hcx := HX.out t _ (bys_get l t hkl)
              have HLX : Hid (l.getD t 0 = l[t]) := by show _ = _; simp [List.getD, hkl]
              generalize hxx : l[t] = x at *
              clear hxx
              have hcxr : wr.cell? ⟨b, o + t, none⟩ = some (.int .u8 (x.toNat : Int)) := (HF.out.old.cell (p := ⟨b, o + t, none⟩) hbl).trans hcx
              obtain ⟨b1, cp1, hu1, e1, e2, e3, e4, e6, e7, e8, hfz1, hcell1⟩ := HF.out.rowF (R + p) (by omega) (by omega)
              have hco1 := HF.out.cellAt hu1
              have hc1 := hcell1 q hltq
              have hfr1 := hfz1 q
              have hvar := HF.out.var
              have hob := HF.out.old.size
              have hvb := HF.out.vblock
              have n1 : g ≠ b1 := fun e => e6 (by rw [e]; rfl)
              have n1' : b1 ≠ g := fun e => n1 e.symm
              have m1 : b ≠ b1 := by omega
              have m1' : b1 ≠ b := by omega
              have l1 : B ≠ b1 := fun e => e4 e.symm
              have hp0 : (0 : Int) ≤ (p : Int) := Int.natCast_nonneg _
              have hq0 : (0 : Int) ≤ (q : Int) := Int.natCast_nonneg _
              have ht0 : (0 : Int) ≤ (t : Int) := Int.natCast_nonneg _
              have hti : (t : Int) < (s : Int) := by omega
              have hRp0 : (0 : Int) ≤ ((R + p : Nat) : Int) := Int.natCast_nonneg _
              have hRq0 : (0 : Int) ≤ ((R + q : Nat) : Int) := Int.natCast_nonneg _
              have hRpi : ((R + p : Nat) : Int) < ((a + a : Nat) : Int) := by omega
              have hRqi : ((R + q : Nat) : Int) < ((a + a : Nat) : Int) := by omega
              have HS1 : Hid (Fill2 5 30 w (wr.setCell ⟨b1, q, none⟩ (.int .u8 (x.toNat : Int))).drew (w.heap.size + 1) B (.slice (some ⟨g, 0, none⟩) (a + a) cp) _ vs) := (HF.out.storeF (j := q) (x := x) (by omega) hu1).drewN 1
              unfold maxLen at e8
              clear hfz1 hcell1 e6 hu1 HF
              generalize hrp : R + p = rp at *
              generalize hrq : R + q = rq at *
              have HRP := Lib.hid hrp
              have HRQ := Lib.hid hrq
              clear hrp hrq
              go_wp2_with fail
              go_region
              generalize (wr.setCell ⟨b1, q, none⟩ (.int .u8 (x.toNat : Int))).drew = wr2 at HS1 ⊢
              clear hcxr hco1 hc1 hfr1 hvar hob hvb n1 n1' m1 m1' l1 e1 e2 e3 e4 e7 e8
              have hcxr : wr2.cell? ⟨b, o + t, none⟩ = some (.int .u8 (x.toNat : Int)) := (HS1.out.old.cell (p := ⟨b, o + t, none⟩) hbl).trans hcx
              obtain ⟨b2, cp2, hu1, e1, e2, e3, e4, e6, e7, e8, hfz1, hcell1⟩ := HS1.out.rowF rq (by have := HRQ.out; omega) (by omega)
              have hco1 := HS1.out.cellAt hu1
              have hc1 := hcell1 p hltp
              have hfr1 := hfz1 p
              have hvar := HS1.out.var
              have hob := HS1.out.old.size
              have hvb := HS1.out.vblock
              have n1 : g ≠ b2 := fun e => e6 (by rw [e]; rfl)
              have n1' : b2 ≠ g := fun e => n1 e.symm
              have m1 : b ≠ b2 := by omega
              have m1' : b2 ≠ b := by omega
              have l1 : B ≠ b2 := fun e => e4 e.symm
              have HS2 := Lib.hid (((HS1.out.storeF (j := p) (x := x) (by have := HRQ.out; omega) hu1).drewN 1).congr (L' := mkM (a + a) a (msgP a l h p (q + 1))) (mkM_congr fun i j _ _ => by
                rw [← HST0.out i j, HLX.out]))
              unfold maxLen at e8
              clear hfz1 hcell1 e6 hu1 HS1
              go_wp2_with fail
              go_region
              go_wp2_with fail
              go_roundw
              case rel => exact ⟨q + 1, by omega, by omega, by go_num, by rw [HT2.out]; go_num, HS2.out⟩
              case measure => simp [intOf]; omega
            · obtain rfl : q = a := by omega
              have hqi : ¬ (q : Int) < (q : Int) := by omega
              have HT := Lib.hid (tix_row hltp)
              go_wp2_with fail
              go_roundw
              case rel => exact ⟨p + 1, by omega, by go_num, by rw [HT.out], HF.out.congr (mkM_congr fun i j hi hj => msgP_row hj)⟩
              case measure => simp [intOf]; omega
        · obtain rfl : p = a := by omega
          have hpi : ¬ (p : Int) < (p : Int) := by omega
          have HT : Hid (h * d + tix p p p = (h + 1) * d) := by
            show _ = _
            have e : tix p p p = off p p := by unfold tix; omega
            rw [e, HDD.out, Nat.succ_mul]
          go_wp2_with fail
          go_roundw
          case rel => exact ⟨h + 1, by omega, by go_num, by rw [HT.out], HF.out.congr (mkM_congr fun i j hi hj => msgP_half (by omega) hj)⟩
          case measure => simp [intOf]; omega
    · obtain rfl : h = 2 := by omega
      have hhi : ¬ ((2 : Nat) : Int) < 2 := by omega
      have hvar := HF.out.var
      have hc0 := HF.out.res
      have hf0 := HF.out.resf
      go_wp2_with fail
      refine bodyPost_ret (v := .agg #[.slice (some ⟨g, 0, none⟩) (a + a) cp]) (by simp [results, Try.results20, go_sem, hc0]) rfl ?_
      exact (HF.out.congr (L' := msgM a l) (mkM_congr fun i j hi _ => msgP_all hi)).finish

set_option maxRecDepth 100000 in
set_option maxHeartbeats 2000000 in
theorem sMessageOf_own (n k : Int) (v : Value) (l : List UInt8) (w : World) (hv : Seen w v (bys l)) :
    Calls Try.prog 11 #[msrV n k, v] w (RetMatOk 5 30 w (msgR n k l) (msgOk n k l)) := by
  have HV := Lib.hid hv
  obtain ⟨A, c, hvv⟩ := hv.len
  rw [bys_length] at hvv
  subst hvv
  clear hv
  have hb0 : Below w.heap.size w ((w.alloc (.cells #[.int .i64 n, .int .i64 k] 25)).alloc (.cells #[.slice none 0 0] 33)) := ((Below.refl _ _).alloc (Nat.le_refl _) _).alloc (by simp) _
  have hz0 : ((w.alloc (.cells #[.int .i64 n, .int .i64 k] 25)).alloc (.cells #[.slice none 0 0] 33)).heap.size = w.heap.size + 2 := by simp
  have c0 : ((w.alloc (.cells #[.int .i64 n, .int .i64 k] 25)).alloc (.cells #[.slice none 0 0] 33)).cell? ⟨w.heap.size + 1, 0, none⟩ = some (.slice none 0 0) := by simp
  have f0 : ((w.alloc (.cells #[.int .i64 n, .int .i64 k] 25)).alloc (.cells #[.slice none 0 0] 33)).frozen? ⟨w.heap.size + 1, 0, none⟩ = false := by simp
  have cn : ((w.alloc (.cells #[.int .i64 n, .int .i64 k] 25)).alloc (.cells #[.slice none 0 0] 33)).cell? ⟨w.heap.size, 0, none⟩ = some (.int .i64 n) := cell_turn (turn_alloc _ _) (alloc_duo0 w (.int .i64 n) (.int .i64 k) 25) (alloc_lt _ _)
  have ck : ((w.alloc (.cells #[.int .i64 n, .int .i64 k] 25)).alloc (.cells #[.slice none 0 0] 33)).cell? ⟨w.heap.size, 1, none⟩ = some (.int .i64 k) := cell_turn (turn_alloc _ _) (alloc_duo1 w (.int .i64 n) (.int .i64 k) 25) (alloc_lt _ _)
  by_cases h : msrOk n k = true
  · have HO := Lib.hid h
    obtain ⟨a, rfl, h1, h2, -, -, -, -, -, eK⟩ := msr_alpha h
    have hoff := off_half h1 h2
    clear h
    have HE : Hid (((a : Int) + 1) * (a : Int) = ((2 * off a a : Nat) : Int)) := by show _ = _; rw [← eK]; congr 1; omega
    have hmb : ((a : Int) + 1) * (a : Int) ≤ 12 := by rw [HE.out]; omega
    have hmb0 : 0 ≤ ((a : Int) + 1) * (a : Int) := by rw [HE.out]; omega
    by_cases hl : l.length = 2 * off a a
    · have HK : Hid (msgOk n ((a : Int) + 1) l = true) := by show msgOk _ _ _ = true; simp only [msgOk, HO.out, eK, hl]; simp
      have HR := Lib.hid (msgR_yes HK.out)
      have HL := Lib.hid hl
      have hne : (((l.length : Nat) : Int) != ((a : Int) + 1) * (a : Int)) = false := by rw [HE.out, hl]; simp
      clear eK hl
      generalize hz : l.length = z at *
      have HZZ := Lib.hid hz
      clear hz
      go_enter Try.func11, Try.ntmps11
      go_wp2_with fail
      refine (sGoodMsr_any n ((a : Int) + 1) _).mono ?_
      rintro e w1 ⟨rfl, k1⟩
      rw [HO.out]
      have hs1 := k1.size
      have hb1 := k1.base hb0 (by omega) (by omega)
      replace c0 := cell_turn k1 c0 (by omega)
      replace f0 := frozen_turn k1 f0 (by omega)
      replace cn := cell_turn k1 cn (by omega)
      replace ck := cell_turn k1 ck (by omega)
      go_wp2_with fail
      refine (l5Message_own n a _ l _ (HV.out.below hb1) h1 h2 (HZZ.out.trans HL.out)).mono ?_
      rintro e w2 ⟨v', vs', rfl, hM, k2⟩
      obtain ⟨A', n', c', rfl⟩ := hM.isSlice
      have hs2 := k2.size
      replace c0 := cell_turn k2 c0 (by omega)
      replace f0 := frozen_turn k2 f0 (by omega)
      have HF := Lib.hid (ret_store hb1 hM k2 (w.heap.size + 1) 0 (by omega) (by omega) (.slice A' n' c'))
      clear hM k2 hb0 hb1
      go_wp2_with fail
      refine bodyPost_ret (v := .tuple #[.agg #[.slice A' n' c'], .bool true]) (by simp [results, Try.results11, go_sem, c0]) rfl ?_
      exact ⟨.slice A' n' c', vs', by rw [HK.out], by rw [HR.out]; exact HF.out.1, HF.out.2⟩
    · have HK : Hid (msgOk n ((a : Int) + 1) l = false) := by
        show msgOk _ _ _ = false
        simp only [msgOk, HO.out, eK, Bool.true_and, decide_eq_false_iff_not]; omega
      have HR := Lib.hid (msgR_no HK.out)
      have hne : (((l.length : Nat) : Int) != ((a : Int) + 1) * (a : Int)) = true := by rw [HE.out]; simp; omega
      clear eK hl
      generalize l.length = z at *
      go_enter Try.func11, Try.ntmps11
      go_wp2_with fail
      refine (sGoodMsr_any n ((a : Int) + 1) _).mono ?_
      rintro e w1 ⟨rfl, k1⟩
      rw [HO.out]
      have hs1 := k1.size
      have hb1 := k1.base hb0 (by omega) (by omega)
      replace c0 := cell_turn k1 c0 (by omega)
      replace f0 := frozen_turn k1 f0 (by omega)
      replace cn := cell_turn k1 cn (by omega)
      replace ck := cell_turn k1 ck (by omega)
      go_wp2_with fail
      refine bodyPost_ret (v := .tuple #[.agg #[.slice none 0 0], .bool false]) (by simp [results, Try.results11, go_sem, c0]) rfl ?_
      exact ⟨_, [], by rw [HK.out], by rw [HR.out]; exact OwnM.nil _ _ _ _, TurnIn.of_below (hb1.setCell (show w.heap.size ≤ w.heap.size + 1 by omega) _)⟩
  · have HO : Hid (msrOk n k = false) := by show msrOk n k = false; simpa using h
    have HK : Hid (msgOk n k l = false) := by show msgOk _ _ _ = false; simp only [msgOk, HO.out, Bool.false_and]
    have HR := Lib.hid (msgR_no HK.out)
    clear h
    go_enter Try.func11, Try.ntmps11
    go_wp2_with fail
    refine (sGoodMsr_any n k _).mono ?_
    rintro e w1 ⟨rfl, k1⟩
    rw [HO.out]
    have hs1 := k1.size
    have hb1 := k1.base hb0 (by omega) (by omega)
    replace c0 := cell_turn k1 c0 (by omega)
    replace f0 := frozen_turn k1 f0 (by omega)
    go_wp2_with fail
    refine bodyPost_ret (v := .tuple #[.agg #[.slice none 0 0], .bool false]) (by simp [results, Try.results11, go_sem, c0]) rfl ?_
    exact ⟨_, [], by rw [HK.out], by rw [HR.out]; exact OwnM.nil _ _ _ _, TurnIn.of_below (hb1.setCell (show w.heap.size ≤ w.heap.size + 1 by omega) _)⟩

end Go.Proofs.Ytlkoafnlklhaeaa
