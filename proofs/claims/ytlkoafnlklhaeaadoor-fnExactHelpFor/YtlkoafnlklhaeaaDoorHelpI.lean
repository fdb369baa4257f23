/- HelpFor, the program's. -/
import Derived.Test.YtlkoafnlklhaeaaDoorHelpW
set_option linter.unusedSimpArgs false
set_option linter.unusedVariables false
namespace G294
open Go Go.RowKit
theorem alloc_frz (w : World) (cs : Array Value) (T : TypeId) (o : Nat) : (w.alloc (.cells cs T)).frozen? ⟨w.heap.size, o, none⟩ = false := by simp
end G294
namespace Go.Proofs.YtlkoafnlklhaeaaDoor
open Go.RowKit G294

set_option maxRecDepth 100000 in
set_option maxHeartbeats 4000000 in
theorem helpFor_own (n k p : Int) (v : Value) (l : List UInt8) (i : Int) (w : World) (hv : Seen w v (bys l)) (ht : Tab w) (h0 : 1 < w.heap.size) :
    Calls Tryd.prog 21 #[msrV n k, pieV p v, .int .i64 i] w (RetHelp w (helpN n k p l i) (helpB n k p l i) (helpOk n k p l i)) := by
  have HV := Lib.hid hv
  obtain ⟨A, c, hvv⟩ := hv.len
  rw [bys_length] at hvv
  subst hvv
  clear hv
  have kb : TurnIn 0 0 w (((w.alloc (.cells #[.int .i64 n, .int .i64 k] 27)).alloc (.cells #[.int .i64 p, .slice A l.length c] 39)).alloc (.cells #[.int .i64 0, .int .u8 0] 36)) := turn_trans (turn_trans (turn_alloc _ _) (turn_alloc _ _) (by omega)) (turn_alloc _ _) (by omega)
  have z0 : (((w.alloc (.cells #[.int .i64 n, .int .i64 k] 27)).alloc (.cells #[.int .i64 p, .slice A l.length c] 39)).alloc (.cells #[.int .i64 0, .int .u8 0] 36)).heap.size = w.heap.size + 3 := by simp
  have kc := turn_alloc ((w.alloc (.cells #[.int .i64 n, .int .i64 k] 27)).alloc (.cells #[.int .i64 p, .slice A l.length c] 39)) (.cells #[.int .i64 0, .int .u8 0] 36)
  have kc2 := turn_trans (turn_alloc (w.alloc (.cells #[.int .i64 n, .int .i64 k] 27)) (.cells #[.int .i64 p, .slice A l.length c] 39)) kc (by omega)
  have cn := cell_turn kc2 (alloc_duo0 w (.int .i64 n) (.int .i64 k) 27) (alloc_lt _ _)
  have ck := cell_turn kc2 (alloc_duo1 w (.int .i64 n) (.int .i64 k) 27) (alloc_lt _ _)
  have cp := cell_turn kc (alloc_duo0 (w.alloc (.cells #[.int .i64 n, .int .i64 k] 27)) (.int .i64 p) (.slice A l.length c) 39) (alloc_lt _ _)
  have cv := cell_turn kc (alloc_duo1 (w.alloc (.cells #[.int .i64 n, .int .i64 k] 27)) (.int .i64 p) (.slice A l.length c) 39) (alloc_lt _ _)
  have h0c := alloc_duo0 ((w.alloc (.cells #[.int .i64 n, .int .i64 k] 27)).alloc (.cells #[.int .i64 p, .slice A l.length c] 39)) (.int .i64 0) (.int .u8 0) 36
  have h1c := alloc_duo1 ((w.alloc (.cells #[.int .i64 n, .int .i64 k] 27)).alloc (.cells #[.int .i64 p, .slice A l.length c] 39)) (.int .i64 0) (.int .u8 0) 36
  rw [World.size_alloc] at cp cv
  rw [World.size_alloc, World.size_alloc] at h0c h1c
  have f0c := alloc_frz ((w.alloc (.cells #[.int .i64 n, .int .i64 k] 27)).alloc (.cells #[.int .i64 p, .slice A l.length c] 39)) #[.int .i64 0, .int .u8 0] 36 0
  have f1c := alloc_frz ((w.alloc (.cells #[.int .i64 n, .int .i64 k] 27)).alloc (.cells #[.int .i64 p, .slice A l.length c] 39)) #[.int .i64 0, .int .u8 0] 36 1
  rw [World.size_alloc, World.size_alloc] at f0c f1c
  clear kc kc2
  have HVB := Lib.hid (HV.out.below kb.to_below)
  by_cases hpi : piOk n k p l = true
  · have HPI := Lib.hid hpi
    by_cases hni : nodeOk n k i = true
    · have HNI := Lib.hid hni
      by_cases hpe : p = i
      · have hpb : (p == i) = true := by simpa using hpe
        have HO : Hid (helpOk n k p l i = false) := by show helpOk _ _ _ _ _ = _; simp [helpOk, hpb]
        have HN := Lib.hid (helpN_no HO.out)
        have HB := Lib.hid (helpB_no HO.out)
        clear hpi hni hpe
        go_enter Tryd.func21, Tryd.ntmps21
        go_wp2_with fail
        refine (goodPiece_any n k p _ l _ HVB.out).mono ?_
        rintro e w2 ⟨rfl, k2⟩
        rw [HPI.out]
        have s2 := k2.size
        replace cn := cell_turn k2 cn (by omega)
        replace ck := cell_turn k2 ck (by omega)
        replace cp := cell_turn k2 cp (by omega)
        replace cv := cell_turn k2 cv (by omega)
        replace h0c := cell_turn k2 h0c (by omega)
        replace h1c := cell_turn k2 h1c (by omega)
        replace f0c := frozen_turn k2 f0c (by omega)
        replace f1c := frozen_turn k2 f1c (by omega)
        go_wp2_with fail
        refine (hasNode_any n k i _).mono ?_
        rintro e w3 ⟨rfl, k3⟩
        rw [HNI.out]
        have s3 := k3.size
        replace cn := cell_turn k3 cn (by omega)
        replace ck := cell_turn k3 ck (by omega)
        replace cp := cell_turn k3 cp (by omega)
        replace cv := cell_turn k3 cv (by omega)
        replace h0c := cell_turn k3 h0c (by omega)
        replace h1c := cell_turn k3 h1c (by omega)
        replace f0c := frozen_turn k3 f0c (by omega)
        replace f1c := frozen_turn k3 f1c (by omega)
        go_wp2_with fail
        refine bodyPost_ret (v := .tuple #[.agg #[.int .i64 0, .int .u8 0], .bool false]) (by simp [results, Tryd.results21, go_sem, h0c, h1c, f0c, f1c]) rfl ?_
        refine ⟨by rw [HN.out, HB.out, HO.out]; rfl, ?_⟩
        exact TurnIn.of_below (((turn_trans (turn_trans kb k2 (by omega)) k3 (by omega)).to_below.setCell (p := ⟨w.heap.size + 1 + 1, 0, none⟩) (show w.heap.size ≤ w.heap.size + 1 + 1 by omega) _).setCell (p := ⟨w.heap.size + 1 + 1, 1, none⟩) (show w.heap.size ≤ w.heap.size + 1 + 1 by omega) _)
      · have hpb : (p == i) = false := by simpa using hpe
        have HO : Hid (helpOk n k p l i = true) := by show helpOk _ _ _ _ _ = _; simp [helpOk, hpb, hpi, hni]
        obtain ⟨hm, hi0, hin⟩ := nodeOk_b hni
        obtain ⟨a, rfl, h1, h2, hn1, hn2, -, -, -, -⟩ := msr_alpha hm
        obtain ⟨j, rfl⟩ := Int.eq_ofNat_of_zero_le hi0
        have hla : l.length = a := by
          simp only [piOk, Bool.and_eq_true, decide_eq_true_eq] at hpi
          omega
        have HN := Lib.hid (helpN_yes HO.out)
        have HB := Lib.hid (helpB_yes HO.out)
        have HLA := Lib.hid hla
        have HDR : Hid (dotR l (shortL a j) = dotL l (shortL a j)) := if_pos ⟨by omega, by rw [shortL_length, hla]⟩
        have HPO : Hid (pairOk l (shortL a j) = true) := by show pairOk _ _ = true; simp only [pairOk, decide_eq_true_eq]; exact ⟨by omega, by rw [shortL_length, hla]⟩
        have HP1 := Lib.hid (pRows_one a j)
        clear hpi hni hpe hm
        rw [hla] at cv HVB kb z0 cn ck cp h0c h1c f0c f1c ⊢
        clear hla
        go_enter Tryd.func21, Tryd.ntmps21
        go_wp2_with fail
        refine (goodPiece_any n ((a : Int) + 1) p _ l _ HVB.out).mono ?_
        rintro e w2 ⟨rfl, k2⟩
        rw [HPI.out]
        have s2 := k2.size
        replace cn := cell_turn k2 cn (by omega)
        replace ck := cell_turn k2 ck (by omega)
        replace cp := cell_turn k2 cp (by omega)
        replace cv := cell_turn k2 cv (by omega)
        replace h0c := cell_turn k2 h0c (by omega)
        replace h1c := cell_turn k2 h1c (by omega)
        replace f0c := frozen_turn k2 f0c (by omega)
        replace f1c := frozen_turn k2 f1c (by omega)
        go_wp2_with fail
        refine (hasNode_any n ((a : Int) + 1) j _).mono ?_
        rintro e w3 ⟨rfl, k3⟩
        rw [HNI.out]
        have s3 := k3.size
        replace cn := cell_turn k3 cn (by omega)
        replace ck := cell_turn k3 ck (by omega)
        replace cp := cell_turn k3 cp (by omega)
        replace cv := cell_turn k3 cv (by omega)
        replace h0c := cell_turn k3 h0c (by omega)
        replace h1c := cell_turn k3 h1c (by omega)
        replace f0c := frozen_turn k3 f0c (by omega)
        replace f1c := frozen_turn k3 f1c (by omega)
        have k03 := turn_trans (turn_trans kb k2 (by omega)) k3 (by omega)
        have HV3 := Lib.hid ((HVB.out.touch k2).touch k3)
        have HT3 := Lib.hid (ht.below k03.to_below h0)
        have hsz3 : w.heap.size + 3 ≤ w3.heap.size := by omega
        have l1 : (⟨w.heap.size + 1, 1, none⟩ : Addr).block < w3.heap.size := by show w.heap.size + 1 < w3.heap.size; omega
        have HSN : Hid (Seen (w3.alloc (.cells #[.int .u8 1] 5)).drew (.slice (some ⟨w3.heap.size, 0, none⟩) 1 1) (bys [1])) := seen_one w3 1 5
        have hS0 : Below w3.heap.size w3 w3.drew ∧ w3.drew.cell? ⟨w.heap.size + 1, 1, none⟩ = some (.slice A a c) := ⟨(Below.refl _ _).drew, cv⟩
        go_wp2_with fail
        go_region_held3 (fun w' => Below w3.heap.size w3 w' ∧ w'.cell? ⟨w.heap.size + 1, 1, none⟩ = some (.slice A a c))
          (first | exact hS0 | exact hAlloc (by assumption) l1 _ | exact hAlloc hS0 l1 _ | exact hTurn (by assumption) l1 (by assumption) | assumption)
          (first
            | (go_at_call 72; refine (nodeNumber_any j _ (by omega) (HT3.out.below (And.left (by assumption)) (by omega))).mono ?_; rintro e w' ⟨rfl, rfl⟩)
            | (go_at_call 71; refine (powerRow_own (nodX j) a _ [1] _ HSN.out (by omega) (by simp) (HT3.out.below (And.left (by assumption)) (by omega)) (by have := (And.left (by assumption) : Below w3.heap.size w3 _).size; omega)).mono ?_; rintro e w7 ⟨v7, rfl, hO7, k7⟩; rw [HP1.out] at hO7)
            | (go_at_call 79; refine (dot_own _ _ l (shortL a j) _ (HV3.out.below (And.left (by assumption))) hO7.seen (HT3.out.below (And.left (by assumption)) (by omega))).mono ?_; rintro e w8 ⟨rfl, k8⟩; rw [HDR.out, HPO.out]))
        all_goals
          have k38 : TurnIn 0 0 w3 w8 := TurnIn.of_below (And.left (by assumption))
          have s8 := k38.size
          replace cn := cell_turn k38 cn (by omega)
          replace ck := cell_turn k38 ck (by omega)
          replace cp := cell_turn k38 cp (by omega)
          replace cv := cell_turn k38 cv (by omega)
          replace h0c := cell_turn k38 h0c (by omega)
          replace h1c := cell_turn k38 h1c (by omega)
          replace f0c := frozen_turn k38 f0c (by omega)
          replace f1c := frozen_turn k38 f1c (by omega)
          clear hO7 k7 k8
          go_wp2_with fail
          refine bodyPost_ret (v := .tuple #[.agg #[.int .i64 p, .int .u8 ((dotL l (shortL a j)).toNat : Int)], .bool true]) (by simp [results, Tryd.results21, go_sem, h0c, h1c, f0c, f1c]) rfl ?_
          refine ⟨by rw [HN.out, HB.out, HO.out], ?_⟩
          exact TurnIn.of_below (((turn_trans k03 k38 (by omega)).to_below.setCell (p := ⟨w.heap.size + 1 + 1, 0, none⟩) (show w.heap.size ≤ w.heap.size + 1 + 1 by omega) _).setCell (p := ⟨w.heap.size + 1 + 1, 1, none⟩) (show w.heap.size ≤ w.heap.size + 1 + 1 by omega) _)
    · have HNI : Hid (nodeOk n k i = false) := by show nodeOk n k i = false; simpa using hni
      have HO : Hid (helpOk n k p l i = false) := by show helpOk _ _ _ _ _ = _; simp [helpOk, HNI.out]
      have HN := Lib.hid (helpN_no HO.out)
      have HB := Lib.hid (helpB_no HO.out)
      clear hpi hni
      go_enter Tryd.func21, Tryd.ntmps21
      go_wp2_with fail
      refine (goodPiece_any n k p _ l _ HVB.out).mono ?_
      rintro e w2 ⟨rfl, k2⟩
      rw [HPI.out]
      have s2 := k2.size
      replace cn := cell_turn k2 cn (by omega)
      replace ck := cell_turn k2 ck (by omega)
      replace cp := cell_turn k2 cp (by omega)
      replace cv := cell_turn k2 cv (by omega)
      replace h0c := cell_turn k2 h0c (by omega)
      replace h1c := cell_turn k2 h1c (by omega)
      replace f0c := frozen_turn k2 f0c (by omega)
      replace f1c := frozen_turn k2 f1c (by omega)
      go_wp2_with fail
      refine (hasNode_any n k i _).mono ?_
      rintro e w3 ⟨rfl, k3⟩
      rw [HNI.out]
      have s3 := k3.size
      replace cn := cell_turn k3 cn (by omega)
      replace ck := cell_turn k3 ck (by omega)
      replace cp := cell_turn k3 cp (by omega)
      replace cv := cell_turn k3 cv (by omega)
      replace h0c := cell_turn k3 h0c (by omega)
      replace h1c := cell_turn k3 h1c (by omega)
      replace f0c := frozen_turn k3 f0c (by omega)
      replace f1c := frozen_turn k3 f1c (by omega)
      go_wp2_with fail
      refine bodyPost_ret (v := .tuple #[.agg #[.int .i64 0, .int .u8 0], .bool false]) (by simp [results, Tryd.results21, go_sem, h0c, h1c, f0c, f1c]) rfl ?_
      refine ⟨by rw [HN.out, HB.out, HO.out]; rfl, ?_⟩
      exact TurnIn.of_below (((turn_trans (turn_trans kb k2 (by omega)) k3 (by omega)).to_below.setCell (p := ⟨w.heap.size + 1 + 1, 0, none⟩) (show w.heap.size ≤ w.heap.size + 1 + 1 by omega) _).setCell (p := ⟨w.heap.size + 1 + 1, 1, none⟩) (show w.heap.size ≤ w.heap.size + 1 + 1 by omega) _)
  · have HPI : Hid (piOk n k p l = false) := by show piOk n k p l = false; simpa using hpi
    have HO : Hid (helpOk n k p l i = false) := by show helpOk _ _ _ _ _ = _; simp [helpOk, HPI.out]
    have HN := Lib.hid (helpN_no HO.out)
    have HB := Lib.hid (helpB_no HO.out)
    clear hpi
    go_enter Tryd.func21, Tryd.ntmps21
    go_wp2_with fail
    refine (goodPiece_any n k p _ l _ HVB.out).mono ?_
    rintro e w2 ⟨rfl, k2⟩
    rw [HPI.out]
    have s2 := k2.size
    replace cn := cell_turn k2 cn (by omega)
    replace ck := cell_turn k2 ck (by omega)
    replace cp := cell_turn k2 cp (by omega)
    replace cv := cell_turn k2 cv (by omega)
    replace h0c := cell_turn k2 h0c (by omega)
    replace h1c := cell_turn k2 h1c (by omega)
    replace f0c := frozen_turn k2 f0c (by omega)
    replace f1c := frozen_turn k2 f1c (by omega)
    go_wp2_with fail
    refine bodyPost_ret (v := .tuple #[.agg #[.int .i64 0, .int .u8 0], .bool false]) (by simp [results, Tryd.results21, go_sem, h0c, h1c, f0c, f1c]) rfl ?_
    refine ⟨by rw [HN.out, HB.out, HO.out]; rfl, ?_⟩
    exact TurnIn.of_below (((turn_trans kb k2 (by omega)).to_below.setCell (p := ⟨w.heap.size + 1 + 1, 0, none⟩) (show w.heap.size ≤ w.heap.size + 1 + 1 by omega) _).setCell (p := ⟨w.heap.size + 1 + 1, 1, none⟩) (show w.heap.size ≤ w.heap.size + 1 + 1 by omega) _)

end Go.Proofs.YtlkoafnlklhaeaaDoor
