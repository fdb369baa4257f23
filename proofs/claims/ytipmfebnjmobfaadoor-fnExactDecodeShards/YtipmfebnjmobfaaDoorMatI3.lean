/- The program's InverseOf and Product. -/
import Derived.Test.YtipmfebnjmobfaaDoorMatI2
set_option linter.unusedSimpArgs false
set_option linter.unusedVariables false
namespace G294
open Go Go.RowKit
theorem inv_sol {L : Mat} (h : squareM L = true) : invOk L = solB (ent L) L.length := by
  unfold invOk solB rankN
  simp only [squareM, Bool.and_eq_true, decide_eq_true_eq] at h
  rw [show squareM L = true by simp [squareM, h.1, h.2.symm], ← h.2]; rfl
theorem TurnIn.undrew' {w w1 w' : World} (h : TurnIn 0 0 w w1) (t : TurnIn 0 0 w1.drew w') : TurnIn 0 0 w w' := TurnIn.of_below (TurnIn.base (⟨t.os, t.tape, t.output, t.size, t.block⟩ : TurnIn 0 0 w1 w') h.to_below h.size (by omega))
end G294
namespace Go.Proofs.YtipmfebnjmobfaaDoor
open Go.RowKit G294

set_option maxRecDepth 100000 in
set_option maxHeartbeats 4000000 in
theorem inverseOf_own (v : Value) (L : Mat) (w : World) (hs : SeenM w v L) (htab : Tab w) (h0 : 1 < w.heap.size) : Calls Tryd.prog 116 #[.agg #[v]] w (RetMatOk 5 42 w (invR L) (invOk L)) := by
  have kB : TurnIn 0 0 w ((w.alloc (.cells #[v] 60)).alloc (.cells #[.slice none 0 0] 60)) := turn_trans (turn_alloc _ _) (turn_alloc _ _) (by omega)
  have zB : ((w.alloc (.cells #[v] 60)).alloc (.cells #[.slice none 0 0] 60)).heap.size = w.heap.size + 2 := by simp
  have q0 : ((w.alloc (.cells #[v] 60)).alloc (.cells #[.slice none 0 0] 60)).cell? ⟨w.heap.size, 0, none⟩ = some v := by simp
  have q1 : ((w.alloc (.cells #[v] 60)).alloc (.cells #[.slice none 0 0] 60)).cell? ⟨w.heap.size + 1, 0, none⟩ = some (.slice none 0 0) := by simp
  have q1f : ((w.alloc (.cells #[v] 60)).alloc (.cells #[.slice none 0 0] 60)).frozen? ⟨w.heap.size + 1, 0, none⟩ = false := by simp
  have HS := Lib.hid (hs.touch kB)
  have HTAB := Lib.hid htab
  obtain ⟨A, cp, rfl, hlc, hcm⟩ := hs.len
  unfold maxLen at hcm
  have KB := Lib.hid kB
  clear hs htab kB
  go_enter Tryd.func116, Tryd.ntmps116
  go_wp2_with fail
  generalize ((w.alloc (.cells #[.slice A L.length cp] 60)).alloc (.cells #[.slice none 0 0] 60)) = w2 at *
  refine (squareMatrix_any _ L _ HS.out).mono ?_
  rintro e w3 ⟨rfl, k3⟩
  have cB := cell_turn k3 q0 (by omega)
  have cR := cell_turn k3 q1 (by omega)
  have cRf := frozen_turn k3 q1f (by omega)
  have hsz : w.heap.size + 2 ≤ w3.heap.size := by have := k3.size; omega
  have HS3 := Lib.hid (HS.out.touch k3)
  have KK3 := Lib.hid (turn_trans KB.out k3 (by omega))
  have HFAIL : Hid (invOk L = false → invR L = []) := fun h => if_neg (by rw [h]; simp)
  clear k3 q0 q1 q1f zB
  by_cases hg : squareM L = true
  · have HIS := Lib.hid (inv_sol hg)
    have hgg : goodM L = true ∧ L.length = wid L := by simpa [squareM] using hg
    obtain ⟨g1, g2, g3, g4, _⟩ := (goodM_iff L).1 hgg.1
    have HLE : Hid (L = mkM L.length L.length (ent L)) := by
      show L = mkM L.length L.length (ent L)
      have e := good_eq hgg.1
      rw [← hgg.2] at e
      exact e
    have HS4 : Hid (SeenM w3 (.slice A L.length cp) (mkM L.length L.length (ent L))) := by
      show SeenM w3 (.slice A L.length cp) (mkM L.length L.length (ent L))
      have e := HS3.out
      generalize hn : L.length = n at *
      have hL := HLE.out
      rw [hL] at e
      exact e
    rw [hg]
    clear hg hgg
    have HINV : Hid (invOk L = true → invR L = mkM L.length L.length (bst (ent L) idF L.length L.length)) := fun h => if_pos h
    generalize L.length = n at *
    go_wp2_with fail
    go_region_held3 (fun w' => w'.cell? ⟨w.heap.size, 0, none⟩ = some (.slice A n cp))
      (first | exact cB)
      (first
        | (go_at_call 145; refine (fieldGrid_own n n (ent L) _ w3.drew HS4.out g1 (by omega) (by omega)).mono ?_; rintro e wF ⟨vF, vsF, rfl, oF, kF⟩; have kk := KK3.out.undrew' kF; replace cB := cell_turn kF (show w3.drew.cell? _ = _ from cB) (show _ < w3.heap.size by omega); replace cR := cell_turn kF (show w3.drew.cell? _ = _ from cR) (show _ < w3.heap.size by omega); replace cRf := frozen_turn kF (show w3.drew.frozen? _ = _ from cRf) (show _ < w3.heap.size by omega); replace hsz : w.heap.size + 2 ≤ wF.heap.size := Nat.le_trans hsz kF.size)
        | (go_at_call 148; refine (identityGridF n wF (by omega)).mono ?_; rintro e wI ⟨vI, vsI, rfl, oI, kI⟩; replace oF := oF.keep kI (by omega); replace kk := turn_trans kk kI (by omega); replace cB := cell_turn kI cB (by omega); replace cR := cell_turn kI cR (by omega); replace cRf := frozen_turn kI cRf (by omega); replace hsz : w.heap.size + 2 ≤ wI.heap.size := Nat.le_trans hsz kI.size)
        | (go_at_call 148; refine (identityGridF n w3.drew (by omega)).mono ?_; rintro e wI ⟨vI, vsI, rfl, oI, kI⟩; have kk := KK3.out.undrew' kI; have HSI := Lib.hid ((show SeenM w3.drew (.slice A n cp) (mkM n n (ent L)) from HS4.out).touch kI); replace cB := cell_turn kI (show w3.drew.cell? _ = _ from cB) (show _ < w3.heap.size by omega); replace cR := cell_turn kI (show w3.drew.cell? _ = _ from cR) (show _ < w3.heap.size by omega); replace cRf := frozen_turn kI (show w3.drew.frozen? _ = _ from cRf) (show _ < w3.heap.size by omega); replace hsz : w.heap.size + 2 ≤ wI.heap.size := Nat.le_trans hsz kI.size)
        | (go_at_call 145; refine (fieldGrid_own n n (ent L) _ wI HSI.out g1 (by omega) (by omega)).mono ?_; rintro e wF ⟨vF, vsF, rfl, oF, kF⟩; replace oI := oI.keep kF (by omega); replace kk := turn_trans kk kF (by omega); replace cB := cell_turn kF cB (by omega); replace cR := cell_turn kF cR (by omega); replace cRf := frozen_turn kF cRf (by omega); replace hsz : w.heap.size + 2 ≤ wF.heap.size := Nat.le_trans hsz kF.size)
        | (go_at_call 147; refine (solved_own n n (ent L) idF _ _ _ oF.seen oI.seen g1 (by omega) (by omega) (HTAB.out.below kk.to_below h0) (by have := kk.size; omega)).mono ?_; rintro e w5 ⟨v5, vs5, rfl, o5, k5⟩; replace kk := turn_trans kk k5 (by omega); replace cB := cell_turn k5 cB (by omega); replace cR := cell_turn k5 cR (by omega); replace cRf := frozen_turn k5 cRf (by omega); replace hsz : w.heap.size + 2 ≤ w5.heap.size := Nat.le_trans hsz k5.size))
    all_goals
      have KK := Lib.hid kk
      have HO5 := Lib.hid o5
      clear kk o5 oF oI k5 kF kI
      by_cases hok : solB (ent L) n = true
      · have HOK := Lib.hid hok
        have HIV : Hid (invOk L = true) := by show invOk L = true; rw [HIS.out]; exact hok
        have e5 : solL (ent L) idF n n = mkM n n (bst (ent L) idF n n) := if_pos hok
        have HS5 : Hid (SeenM w5 v5 (mkM n n (bst (ent L) idF n n))) := by
          show SeenM w5 v5 _
          rw [← e5]; exact HO5.out.seen
        rw [show solOk (ent L) n = true from hok]
        clear hok e5
        go_wp2_with fail
        refine (matrixOf_own n n (bst (ent L) idF n n) _ _ HS5.out g1 (by omega) (by omega)).mono ?_
        rintro e w6 ⟨v6, vs6, rfl, hM6, ht6⟩
        obtain ⟨A', n', c', rfl⟩ := hM6.isSlice
        have hq := cell_turn ht6 cR (by omega)
        have hqf := frozen_turn ht6 cRf (by omega)
        have HF := Lib.hid (ret_store KK.out.to_below hM6 ht6 (w.heap.size + 1) 0 (by omega) (by omega) (.slice A' n' c'))
        clear hM6 ht6
        go_wp2_with fail
        refine bodyPost_ret (v := .tuple #[.agg #[.slice A' n' c'], .bool true]) (by simp [results, Tryd.results116, go_sem, hq]) rfl ?_
        exact ⟨.slice A' n' c', vs6, by rw [HIV.out], by rw [HINV.out HIV.out]; exact HF.out.1, HF.out.2⟩
      · have hok' : solB (ent L) n = false := by simpa using hok
        have HIV : Hid (invOk L = false) := by show invOk L = false; rw [HIS.out]; exact hok'
        rw [show solOk (ent L) n = false from hok']
        clear hok hok'
        go_wp2_with fail
        refine bodyPost_ret (v := .tuple #[.agg #[.slice none 0 0], .bool false]) (by simp [results, Tryd.results116, go_sem, cR]) rfl ?_
        exact ⟨_, [], by rw [HIV.out], by rw [HFAIL.out HIV.out]; exact OwnM.nil _ _ _ _, TurnIn.of_below (KK.out.to_below.setCell (Nat.le_succ _) _)⟩
  · have hg' : squareM L = false := by simpa using hg
    have HIV : Hid (invOk L = false) := by show invOk L = false; unfold invOk; rw [hg']; rfl
    rw [hg']
    clear hg hg'
    go_wp2_with fail
    refine bodyPost_ret (v := .tuple #[.agg #[.slice none 0 0], .bool false]) (by simp [results, Tryd.results116, go_sem, cR]) rfl ?_
    exact ⟨_, [], by rw [HIV.out], by rw [HFAIL.out HIV.out]; exact OwnM.nil _ _ _ _, TurnIn.of_below (KK3.out.to_below.setCell (Nat.le_succ _) _)⟩
end Go.Proofs.YtipmfebnjmobfaaDoor
