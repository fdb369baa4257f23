/- HelpFor, the model's. -/
import Derived.Test.YtlkoafnlklhaeaaDoorHelpI
import Derived.Test.YtlkoafnlklhaeaaDoorTailHeld
set_option linter.unusedSimpArgs false
set_option linter.unusedVariables false
namespace Go.Proofs.YtlkoafnlklhaeaaDoor
open Go.RowKit G294

set_option maxRecDepth 100000 in
set_option maxHeartbeats 4000000 in
theorem sHelpFor_own (n k p : Int) (v : Value) (l : List UInt8) (i : Int) (w : World) (hv : Seen w v (bys l)) :
    Calls Tryd.prog 19 #[msrV n k, pieV p v, .int .i64 i] w (RetHelp w (helpN n k p l i) (helpB n k p l i) (helpOk n k p l i)) := by
  have HV := Lib.hid hv
  obtain ⟨A, c, hvv⟩ := hv.len
  rw [bys_length] at hvv
  subst hvv
  clear hv
  have kb : TurnIn 0 0 w (((w.alloc (.cells #[.int .i64 n, .int .i64 k] 27)).alloc (.cells #[.int .i64 p, .slice A l.length c] 39)).alloc (.cells #[.int .i64 0, .int .u8 0] 36)) := turn_trans (turn_trans (turn_alloc _ _) (turn_alloc _ _) (by omega)) (turn_alloc _ _) (by omega)
  have z0 : (((w.alloc (.cells #[.int .i64 n, .int .i64 k] 27)).alloc (.cells #[.int .i64 p, .slice A l.length c] 39)).alloc (.cells #[.int .i64 0, .int .u8 0] 36)).heap.size = w.heap.size + 3 := by simp
  have kc := turn_alloc ((w.alloc (.cells #[.int .i64 n, .int .i64 k] 27)).alloc (.cells #[.int .i64 p, .slice A l.length c] 39)) (.cells #[.int .i64 0, .int .u8 0] 36)
  have kc2 := turn_trans (turn_alloc (w.alloc (.cells #[.int .i64 n, .int .i64 k] 27)) (.cells #[.int .i64 p, .slice A l.length c] 39)) kc (by omega)
  have cn := cell_turn kc2 (alloc_duo0 w (.int .i64 n) (.int .i64 k) 27) (alloc_lt _ _)
  have ck := cell_turn kc2 (alloc_duo1 w (.int .i64 n) (.int .i64 k) 27) (alloc_lt _ _)
  have cp := cell_turn kc (alloc_duo0 (w.alloc (.cells #[.int .i64 n, .int .i64 k] 27)) (.int .i64 p) (.slice A l.length c) 39) (alloc_lt _ _)
  have cv := cell_turn kc (alloc_duo1 (w.alloc (.cells #[.int .i64 n, .int .i64 k] 27)) (.int .i64 p) (.slice A l.length c) 39) (alloc_lt _ _)
  have h0c := alloc_duo0 ((w.alloc (.cells #[.int .i64 n, .int .i64 k] 27)).alloc (.cells #[.int .i64 p, .slice A l.length c] 39)) (.int .i64 0) (.int .u8 0) 36
  have h1c := alloc_duo1 ((w.alloc (.cells #[.int .i64 n, .int .i64 k] 27)).alloc (.cells #[.int .i64 p, .slice A l.length c] 39)) (.int .i64 0) (.int .u8 0) 36
  rw [World.size_alloc] at cp cv
  rw [World.size_alloc, World.size_alloc] at h0c h1c
  have f0c := alloc_frz ((w.alloc (.cells #[.int .i64 n, .int .i64 k] 27)).alloc (.cells #[.int .i64 p, .slice A l.length c] 39)) #[.int .i64 0, .int .u8 0] 36 0
  have f1c := alloc_frz ((w.alloc (.cells #[.int .i64 n, .int .i64 k] 27)).alloc (.cells #[.int .i64 p, .slice A l.length c] 39)) #[.int .i64 0, .int .u8 0] 36 1
  rw [World.size_alloc, World.size_alloc] at f0c f1c
  clear kc kc2
  have HVB := Lib.hid (HV.out.below kb.to_below)
  by_cases hm : msrOk n k = true
  · have HM := Lib.hid hm
    have hmb := msrOk_b hm
    by_cases hpi : piOk n k p l = true
    · have HPI := Lib.hid hpi
      by_cases hni : nodeOk n k i = true
      · have HI : Hid (inB i 0 (n - 1) = true) := by have := nodeOk_b hni; show inB _ _ _ = true; simp only [inB, decide_eq_true_eq]; omega
        by_cases hpe : i = p
        · have hpb : (i == p) = true := by simpa using hpe
          have HO : Hid (helpOk n k p l i = false) := by show helpOk _ _ _ _ _ = _; simp [helpOk, hpe]
          have HN := Lib.hid (helpN_no HO.out)
          have HB := Lib.hid (helpB_no HO.out)
          clear hpi hni hpe hm
          go_enter Tryd.func19, Tryd.ntmps19
          go_wp2_with fail
          refine (sGoodMsr_any n k _).mono ?_
          rintro e w2 ⟨rfl, k2⟩
          rw [HM.out]
          have s2 := k2.size
          replace cn := cell_turn k2 cn (by omega)
          replace ck := cell_turn k2 ck (by omega)
          replace cp := cell_turn k2 cp (by omega)
          replace cv := cell_turn k2 cv (by omega)
          replace h0c := cell_turn k2 h0c (by omega)
          replace h1c := cell_turn k2 h1c (by omega)
          replace f0c := frozen_turn k2 f0c (by omega)
          replace f1c := frozen_turn k2 f1c (by omega)
          go_wp2_with fail
          refine (l5Piece_any n k p _ l _ (HVB.out.touch k2) HM.out).mono ?_
          rintro e w3 ⟨rfl, k3⟩
          rw [HPI.out]
          have s3 := k3.size
          replace cn := cell_turn k3 cn (by omega)
          replace ck := cell_turn k3 ck (by omega)
          replace cp := cell_turn k3 cp (by omega)
          replace cv := cell_turn k3 cv (by omega)
          replace h0c := cell_turn k3 h0c (by omega)
          replace h1c := cell_turn k3 h1c (by omega)
          replace f0c := frozen_turn k3 f0c (by omega)
          replace f1c := frozen_turn k3 f1c (by omega)
          have k03 := turn_trans (turn_trans kb k2 (by omega)) k3 (by omega)
          go_wp2_with fail
          refine (l1In_any _ _ _ _).mono ?_
          rintro e w' ⟨rfl, rfl⟩
          rw [HI.out]
          go_wp2_with fail
          refine bodyPost_ret (v := .tuple #[.agg #[.int .i64 0, .int .u8 0], .bool false]) (by simp [results, Tryd.results19, go_sem, h0c, h1c, f0c, f1c]) rfl ?_
          refine ⟨by rw [HN.out, HB.out, HO.out]; rfl, ?_⟩
          exact TurnIn.of_below (((k03).to_below.setCell (p := ⟨w.heap.size + 1 + 1, 0, none⟩) (show w.heap.size ≤ w.heap.size + 1 + 1 by omega) _).setCell (p := ⟨w.heap.size + 1 + 1, 1, none⟩) (show w.heap.size ≤ w.heap.size + 1 + 1 by omega) _)
        · have hpb : (i == p) = false := by simpa using hpe
          have HO : Hid (helpOk n k p l i = true) := by
            show helpOk _ _ _ _ _ = _
            have hpe2 : ¬ p = i := fun e => hpe e.symm
            simp [helpOk, hpi, hni, hpe2]
          obtain ⟨_, hi0, hin⟩ := nodeOk_b hni
          obtain ⟨a, rfl, h1, h2, hn1, hn2, -, -, -, -⟩ := msr_alpha hm
          obtain ⟨j, rfl⟩ := Int.eq_ofNat_of_zero_le hi0
          have hla : l.length = a := by
            simp only [piOk, Bool.and_eq_true, decide_eq_true_eq] at hpi
            omega
          have HN := Lib.hid (helpN_yes HO.out)
          have HB := Lib.hid (helpB_yes HO.out)
          have HLA := Lib.hid hla
          clear hpi hni hpe hm hla
          go_enter Tryd.func19, Tryd.ntmps19
          go_wp2_with fail
          refine (sGoodMsr_any n ((a : Int) + 1) _).mono ?_
          rintro e w2 ⟨rfl, k2⟩
          rw [HM.out]
          have s2 := k2.size
          replace cn := cell_turn k2 cn (by omega)
          replace ck := cell_turn k2 ck (by omega)
          replace cp := cell_turn k2 cp (by omega)
          replace cv := cell_turn k2 cv (by omega)
          replace h0c := cell_turn k2 h0c (by omega)
          replace h1c := cell_turn k2 h1c (by omega)
          replace f0c := frozen_turn k2 f0c (by omega)
          replace f1c := frozen_turn k2 f1c (by omega)
          go_wp2_with fail
          refine (l5Piece_any n ((a : Int) + 1) p _ l _ (HVB.out.touch k2) HM.out).mono ?_
          rintro e w3 ⟨rfl, k3⟩
          rw [HPI.out]
          have s3 := k3.size
          replace cn := cell_turn k3 cn (by omega)
          replace ck := cell_turn k3 ck (by omega)
          replace cp := cell_turn k3 cp (by omega)
          replace cv := cell_turn k3 cv (by omega)
          replace h0c := cell_turn k3 h0c (by omega)
          replace h1c := cell_turn k3 h1c (by omega)
          replace f0c := frozen_turn k3 f0c (by omega)
          replace f1c := frozen_turn k3 f1c (by omega)
          have k03 := turn_trans (turn_trans kb k2 (by omega)) k3 (by omega)
          go_wp2_with fail
          refine (l1In_any _ _ _ _).mono ?_
          rintro e w' ⟨rfl, rfl⟩
          rw [HI.out]
          go_wp2_with fail
          have hS : (fun W : World => W.cell? ⟨w.heap.size, 0, none⟩ = some (.int .i64 n) ∧ W.cell? ⟨w.heap.size, 1, none⟩ = some (.int .i64 ((a : Int) + 1)) ∧ W.cell? ⟨w.heap.size + 1, 0, none⟩ = some (.int .i64 p) ∧ W.cell? ⟨w.heap.size + 1, 1, none⟩ = some (.slice A l.length c)) w3.drew := ⟨cn, ck, cp, cv⟩
          refine wp_region_tail (fun W : World => W.cell? ⟨w.heap.size, 0, none⟩ = some (.int .i64 n) ∧ W.cell? ⟨w.heap.size, 1, none⟩ = some (.int .i64 ((a : Int) + 1)) ∧ W.cell? ⟨w.heap.size + 1, 0, none⟩ = some (.int .i64 p) ∧ W.cell? ⟨w.heap.size + 1, 1, none⟩ = some (.slice A l.length c)) 10 (by kernel_rfl) ?_
          refine wpAnyT_take (i := 0) (oi := _) (v := ?v0) rfl (by kernel_rfl) (by kernel_rfl) (by kernel_rfl) (by kernel_rfl) (fun _ _ _ h => h) (Or.inl ⟨by rfl, ?hy0⟩) hS ?rest0
          case hy0 => (intro W hW; obtain ⟨e1, e2, e3, e4⟩ := hW; go_simp; try with_reducible rfl)
          simp only [Act.put, List.setIfInBounds_toArray, List.set_cons_zero, List.set_cons_succ]
          refine wpAnyT_take (i := 1) (oi := _) (v := ?v1) rfl (by kernel_rfl) (by kernel_rfl) (by kernel_rfl) (by kernel_rfl) (fun _ _ _ h => h) (Or.inl ⟨by rfl, ?hy1⟩) hS ?rest1
          case hy1 => (intro W hW; obtain ⟨e1, e2, e3, e4⟩ := hW; go_simp; try with_reducible rfl)
          simp only [Act.put, List.setIfInBounds_toArray, List.set_cons_zero, List.set_cons_succ]
          refine wpAnyT_take (i := 2) (oi := _) (v := ?v2) rfl (by kernel_rfl) (by kernel_rfl) (by kernel_rfl) (by kernel_rfl) (fun _ _ _ h => h) (Or.inl ⟨by rfl, ?hy2⟩) hS ?rest2
          case hy2 => (intro W hW; obtain ⟨e1, e2, e3, e4⟩ := hW; go_simp; try with_reducible rfl)
          simp only [Act.put, List.setIfInBounds_toArray, List.set_cons_zero, List.set_cons_succ]
          refine wpAnyT_take (i := 3) (oi := _) (v := ?v3) rfl (by kernel_rfl) (by kernel_rfl) (by kernel_rfl) (by kernel_rfl) (fun _ _ _ h => h) (Or.inl ⟨by rfl, ?hy3⟩) hS ?rest3
          case hy3 => (intro W hW; obtain ⟨e1, e2, e3, e4⟩ := hW; go_simp; try with_reducible rfl)
          simp only [Act.put, List.setIfInBounds_toArray, List.set_cons_zero, List.set_cons_succ]
          refine wpAnyT_take (i := 4) (oi := _) (v := ?v4) rfl (by kernel_rfl) (by kernel_rfl) (by kernel_rfl) (by kernel_rfl) (fun _ _ _ h => h) (Or.inl ⟨by rfl, ?hy4⟩) hS ?rest4
          case hy4 => (intro W hW; obtain ⟨e1, e2, e3, e4⟩ := hW; go_simp; try with_reducible rfl)
          simp only [Act.put, List.setIfInBounds_toArray, List.set_cons_zero, List.set_cons_succ]
          refine wpAnyT_take (i := 5) (oi := _) (v := ?v5) rfl (by kernel_rfl) (by kernel_rfl) (by kernel_rfl) (by kernel_rfl) (fun _ _ _ h => h) (Or.inl ⟨by rfl, ?hy5⟩) hS ?rest5
          case hy5 => (intro W hW; obtain ⟨e1, e2, e3, e4⟩ := hW; go_simp; try with_reducible rfl)
          simp only [Act.put, List.setIfInBounds_toArray, List.set_cons_zero, List.set_cons_succ]
          refine wpAnyT_one (i := 6) (o := _) rfl (by kernel_rfl) (fun K hK => ?_)
          go_simp
          refine (l5Short_own n a j _ (by omega) (by omega)).mono ?_
          rintro e w4 ⟨v4, rfl, hO4, k4⟩
          replace k4 := undrew k4
          have s4 := k4.size
          obtain ⟨A4, n4, c4, rfl⟩ := own_isSlice hO4.1
          refine hK.out _ _ (fun _ => ⟨cell_turn k4 cn (by omega), cell_turn k4 ck (by omega), cell_turn k4 cp (by omega), cell_turn k4 cv (by omega)⟩) ?_
          clear hK K hS
          try simp only [Act.put, List.setIfInBounds_toArray, List.set_cons_zero, List.set_cons_succ]
          refine wpAnyT_one (i := 7) (o := _) rfl (by kernel_rfl) (fun K hK => ?_)
          go_simp
          refine (l1Dot_own _ _ l (shortL a j) _ ((((HVB.out.touch k2).touch k3).touch k4)) hO4.seen (by rw [shortL_length, HLA.out])).mono ?_
          rintro e w5 ⟨rfl, k5⟩
          have s5 := k5.size
          have k5' := turn_trans k4 k5 (by omega)
          have e0c := cell_turn k5' h0c (by omega)
          have e1c := cell_turn k5' h1c (by omega)
          have g0c := frozen_turn k5' f0c (by omega)
          have g1c := frozen_turn k5' f1c (by omega)
          have d0 := cell_turn k5' cn (by omega)
          have d1 := cell_turn k5' ck (by omega)
          have d2 := cell_turn k5' cp (by omega)
          have d3 := cell_turn k5' cv (by omega)
          refine hK.out _ _ (fun _ => ⟨d0, d1, d2, d3⟩) ?_
          clear hK K hO4
          try simp only [Act.put, List.setIfInBounds_toArray, List.set_cons_zero, List.set_cons_succ]
          refine wpAnyT_one (i := 8) (o := _) rfl (by kernel_rfl) (fun K hK => ?_)
          go_simp
          refine hK.out _ _ (fun _ => ⟨d0, d1, d2, d3⟩) ?_
          clear hK K
          try simp only [Act.put, List.setIfInBounds_toArray, List.set_cons_zero, List.set_cons_succ]
          refine wpAnyT_one (i := 9) (o := _) rfl (by kernel_rfl) (fun K hK => ?_)
          go_simp
          refine hK.out _ _ (fun _ => ⟨(cell_set_other _ _ _ _ (by omega)).trans ((cell_set_other _ _ _ _ (by omega)).trans d0), (cell_set_other _ _ _ _ (by omega)).trans ((cell_set_other _ _ _ _ (by omega)).trans d1), (cell_set_other _ _ _ _ (by omega)).trans ((cell_set_other _ _ _ _ (by omega)).trans d2), (cell_set_other _ _ _ _ (by omega)).trans ((cell_set_other _ _ _ _ (by omega)).trans d3)⟩) ?_
          clear hK K
          try simp only [Act.put, List.setIfInBounds_toArray, List.set_cons_zero, List.set_cons_succ]
          refine wpAnyT_one (i := 10) (o := _) rfl (by kernel_rfl) (fun K hK => ?_)
          go_simp
          refine hK.out _ _ (fun h => absurd rfl h) ?_
          clear hK K
          refine wpAnyT_done (by kernel_rfl) ?_ _
          simp only [Exit.inBlock, Exit.then]
          replace h0c := e0c
          replace h1c := e1c
          replace f0c := g0c
          replace f1c := g1c
          go_wp2_with fail
          refine bodyPost_ret (v := .tuple #[.agg #[.int .i64 p, .int .u8 ((dotL l (shortL a j)).toNat : Int)], .bool true]) (by simp [results, Tryd.results19, go_sem, h0c, h1c, f0c, f1c]) rfl ?_
          refine ⟨by rw [HN.out, HB.out, HO.out], ?_⟩
          exact TurnIn.of_below (((turn_trans k03 k5' (by omega)).to_below.setCell (p := ⟨w.heap.size + 1 + 1, 0, none⟩) (show w.heap.size ≤ w.heap.size + 1 + 1 by omega) _).setCell (p := ⟨w.heap.size + 1 + 1, 1, none⟩) (show w.heap.size ≤ w.heap.size + 1 + 1 by omega) _)
      · have HI : Hid (inB i 0 (n - 1) = false) := by
          show inB _ _ _ = false
          have hp2 : nodeOk n k i = false := by simpa using hni
          simp only [nodeOk, HM.out, Bool.true_and, decide_eq_false_iff_not] at hp2
          simp only [inB, decide_eq_false_iff_not]; omega
        have HO : Hid (helpOk n k p l i = false) := by
          show helpOk _ _ _ _ _ = _
          have hp2 : nodeOk n k i = false := by simpa using hni
          simp [helpOk, hp2]
        have HN := Lib.hid (helpN_no HO.out)
        have HB := Lib.hid (helpB_no HO.out)
        clear hpi hni hm
        go_enter Tryd.func19, Tryd.ntmps19
        go_wp2_with fail
        refine (sGoodMsr_any n k _).mono ?_
        rintro e w2 ⟨rfl, k2⟩
        rw [HM.out]
        have s2 := k2.size
        replace cn := cell_turn k2 cn (by omega)
        replace ck := cell_turn k2 ck (by omega)
        replace cp := cell_turn k2 cp (by omega)
        replace cv := cell_turn k2 cv (by omega)
        replace h0c := cell_turn k2 h0c (by omega)
        replace h1c := cell_turn k2 h1c (by omega)
        replace f0c := frozen_turn k2 f0c (by omega)
        replace f1c := frozen_turn k2 f1c (by omega)
        go_wp2_with fail
        refine (l5Piece_any n k p _ l _ (HVB.out.touch k2) HM.out).mono ?_
        rintro e w3 ⟨rfl, k3⟩
        rw [HPI.out]
        have s3 := k3.size
        replace cn := cell_turn k3 cn (by omega)
        replace ck := cell_turn k3 ck (by omega)
        replace cp := cell_turn k3 cp (by omega)
        replace cv := cell_turn k3 cv (by omega)
        replace h0c := cell_turn k3 h0c (by omega)
        replace h1c := cell_turn k3 h1c (by omega)
        replace f0c := frozen_turn k3 f0c (by omega)
        replace f1c := frozen_turn k3 f1c (by omega)
        have k03 := turn_trans (turn_trans kb k2 (by omega)) k3 (by omega)
        go_wp2_with fail
        refine (l1In_any _ _ _ _).mono ?_
        rintro e w' ⟨rfl, rfl⟩
        rw [HI.out]
        go_wp2_with fail
        refine bodyPost_ret (v := .tuple #[.agg #[.int .i64 0, .int .u8 0], .bool false]) (by simp [results, Tryd.results19, go_sem, h0c, h1c, f0c, f1c]) rfl ?_
        refine ⟨by rw [HN.out, HB.out, HO.out]; rfl, ?_⟩
        exact TurnIn.of_below (((k03).to_below.setCell (p := ⟨w.heap.size + 1 + 1, 0, none⟩) (show w.heap.size ≤ w.heap.size + 1 + 1 by omega) _).setCell (p := ⟨w.heap.size + 1 + 1, 1, none⟩) (show w.heap.size ≤ w.heap.size + 1 + 1 by omega) _)
    · have HPI : Hid (piOk n k p l = false) := by show piOk n k p l = false; simpa using hpi
      have HO : Hid (helpOk n k p l i = false) := by show helpOk _ _ _ _ _ = _; simp [helpOk, HPI.out]
      have HN := Lib.hid (helpN_no HO.out)
      have HB := Lib.hid (helpB_no HO.out)
      clear hpi hm
      go_enter Tryd.func19, Tryd.ntmps19
      go_wp2_with fail
      refine (sGoodMsr_any n k _).mono ?_
      rintro e w2 ⟨rfl, k2⟩
      rw [HM.out]
      have s2 := k2.size
      replace cn := cell_turn k2 cn (by omega)
      replace ck := cell_turn k2 ck (by omega)
      replace cp := cell_turn k2 cp (by omega)
      replace cv := cell_turn k2 cv (by omega)
      replace h0c := cell_turn k2 h0c (by omega)
      replace h1c := cell_turn k2 h1c (by omega)
      replace f0c := frozen_turn k2 f0c (by omega)
      replace f1c := frozen_turn k2 f1c (by omega)
      go_wp2_with fail
      refine (l5Piece_any n k p _ l _ (HVB.out.touch k2) HM.out).mono ?_
      rintro e w3 ⟨rfl, k3⟩
      rw [HPI.out]
      have s3 := k3.size
      replace cn := cell_turn k3 cn (by omega)
      replace ck := cell_turn k3 ck (by omega)
      replace cp := cell_turn k3 cp (by omega)
      replace cv := cell_turn k3 cv (by omega)
      replace h0c := cell_turn k3 h0c (by omega)
      replace h1c := cell_turn k3 h1c (by omega)
      replace f0c := frozen_turn k3 f0c (by omega)
      replace f1c := frozen_turn k3 f1c (by omega)
      have k03 := turn_trans (turn_trans kb k2 (by omega)) k3 (by omega)
      go_wp2_with fail
      refine bodyPost_ret (v := .tuple #[.agg #[.int .i64 0, .int .u8 0], .bool false]) (by simp [results, Tryd.results19, go_sem, h0c, h1c, f0c, f1c]) rfl ?_
      refine ⟨by rw [HN.out, HB.out, HO.out]; rfl, ?_⟩
      exact TurnIn.of_below (((k03).to_below.setCell (p := ⟨w.heap.size + 1 + 1, 0, none⟩) (show w.heap.size ≤ w.heap.size + 1 + 1 by omega) _).setCell (p := ⟨w.heap.size + 1 + 1, 1, none⟩) (show w.heap.size ≤ w.heap.size + 1 + 1 by omega) _)
  · have HM : Hid (msrOk n k = false) := by show msrOk n k = false; simpa using hm
    have HO : Hid (helpOk n k p l i = false) := by show helpOk _ _ _ _ _ = _; simp [helpOk, piOk, nodeOk, HM.out]
    have HN := Lib.hid (helpN_no HO.out)
    have HB := Lib.hid (helpB_no HO.out)
    clear hm
    go_enter Tryd.func19, Tryd.ntmps19
    go_wp2_with fail
    refine (sGoodMsr_any n k _).mono ?_
    rintro e w2 ⟨rfl, k2⟩
    rw [HM.out]
    have s2 := k2.size
    replace cn := cell_turn k2 cn (by omega)
    replace ck := cell_turn k2 ck (by omega)
    replace cp := cell_turn k2 cp (by omega)
    replace cv := cell_turn k2 cv (by omega)
    replace h0c := cell_turn k2 h0c (by omega)
    replace h1c := cell_turn k2 h1c (by omega)
    replace f0c := frozen_turn k2 f0c (by omega)
    replace f1c := frozen_turn k2 f1c (by omega)
    go_wp2_with fail
    refine bodyPost_ret (v := .tuple #[.agg #[.int .i64 0, .int .u8 0], .bool false]) (by simp [results, Tryd.results19, go_sem, h0c, h1c, f0c, f1c]) rfl ?_
    refine ⟨by rw [HN.out, HB.out, HO.out]; rfl, ?_⟩
    exact TurnIn.of_below (((turn_trans kb k2 (by omega)).to_below.setCell (p := ⟨w.heap.size + 1 + 1, 0, none⟩) (show w.heap.size ≤ w.heap.size + 1 + 1 by omega) _).setCell (p := ⟨w.heap.size + 1 + 1, 1, none⟩) (show w.heap.size ≤ w.heap.size + 1 + 1 by omega) _)

end Go.Proofs.YtlkoafnlklhaeaaDoor
