/- The model's l2Blank. -/
import Derived.Test.YtfglkgeeelapgaaDoorNewGrid
import Derived.Test.YtfglkgeeelapgaaDoorMatI
import Derived.Test.YtfglkgeeelapgaaDoorBytesWalks
import Derived.Deep.OwnRows
import Derived.Deep.RegionLaw
set_option linter.unusedSimpArgs false
set_option linter.unusedVariables false
namespace Go.Proofs.YtfglkgeeelapgaaDoor
open Go.RowKit G294

set_option maxRecDepth 100000 in
set_option maxHeartbeats 2000000 in
theorem l2Blank_own (r c : Nat) (w : World) (hr : r ≤ 1000) (hc : c ≤ 1000) : Calls Tryd.prog 106 #[.int .i64 r, .int .i64 c] w (RetMat 5 22 w (mkM r c fun _ _ => 0)) := by
  have hmk := run_make_row' (P := Tryd.prog) 22 5 (.int .u8 0) 1 Tryd.underlying22 infoElemB rfl .i64 .i64 c (by omega) (by omega)
  have hb0 : Below w.heap.size w (w.alloc (.cells #[.slice none 0 0] 39)) := (Below.refl _ _).alloc (Nat.le_refl _) _
  have hb2 : Below w.heap.size w ((w.alloc (.cells #[.slice none 0 0] 39)).alloc (.cells #[.slice none 0 0] 39)) := hb0.alloc (by simp) _
  have hsz : ((w.alloc (.cells #[.slice none 0 0] 39)).alloc (.cells #[.slice none 0 0] 39)).heap.size = w.heap.size + 2 := by simp
  have hM0 : OwnM 5 22 ((w.alloc (.cells #[.slice none 0 0] 39)).alloc (.cells #[.slice none 0 0] 39)) (w.heap.size + 2) (w.heap.size + 2) (.slice none 0 0) (mkM 0 c fun _ _ => 0) [] := hsz ▸ OwnM.nil _ _ _ _
  have HSZ := Lib.hid hsz
  clear hsz
  go_enter Tryd.func106, Tryd.ntmps106
  go_wp2_with fail
  go_loopw [6] (fun i wr => ∃ (k : Nat) (o : Value) (vs : List Value), k ≤ r ∧ i = .int .i64 k ∧ OwnM 5 22 wr (w.heap.size + 2) wr.heap.size o (mkM k c fun _ _ => 0) vs ∧
      wr.cell? ⟨w.heap.size + 1, 0, none⟩ = some o ∧ wr.frozen? ⟨w.heap.size + 1, 0, none⟩ = false ∧ wr.cell? ⟨w.heap.size, 0, none⟩ = some (.slice none 0 0) ∧ wr.frozen? ⟨w.heap.size, 0, none⟩ = false ∧ Below w.heap.size w wr ∧ w.heap.size + 2 ≤ wr.heap.size)
    (fun i _ => r - (intOf i).toNat)
  case atStart => exact ⟨0, .slice none 0 0, [], Nat.zero_le _, rfl, hM0.wider (Nat.le_refl _) (by rw [HSZ.out]; exact Nat.le_refl _) (Nat.le_refl _), by simp, by simp, by simp, by simp, hb2, by rw [HSZ.out]; exact Nat.le_refl _⟩
  case round =>
    obtain ⟨k, o, vs, hk, rfl, hM, hc1, hf1, hc0, hf0, hb, hsz⟩ := hrel
    clear hM0 hb2 hb0
    by_cases hlt : k < r
    · have hki : (k : Int) < (r : Int) := by omega
      have hrow : wr.ownsRow (w.heap.size + 2) 22 1 o k vs := by simpa using hM.row
      obtain ⟨A, n, cp, rfl⟩ := hM.isSlice
      have kW : TurnIn 0 0 wr ((wr.alloc (.cells (madeCells #[.int .u8 0] c) 5)).alloc (.cells #[.slice (some ⟨wr.heap.size, 0, none⟩) c c] 22)).drew := TurnIn.of_below (((Below.refl _ _).alloc (Nat.le_refl _) _).alloc (by simp) _).drew
      have hob : ∀ g, (Value.slice A n cp).ownBlock = some g → w.heap.size + 2 ≤ g := fun g e => (hrow.lt g e).1
      have hne1 : (Value.slice A n cp).ownBlock ≠ some (w.heap.size + 1) := fun e => by have := hob _ e; omega
      have hne0 : (Value.slice A n cp).ownBlock ≠ some w.heap.size := fun e => by have := hob _ e; omega
      have HK := Lib.hid kW
      have hcA : (wr.alloc (.cells (madeCells #[.int .u8 0] c) 5)).cell? ⟨w.heap.size + 1, 0, none⟩ = some (.slice A n cp) := cell_turn (TurnIn.of_below ((Below.refl _ _).alloc (Nat.le_refl _) _)) hc1 (by omega)
      have hcB : ((wr.alloc (.cells (madeCells #[.int .u8 0] c) 5)).alloc (.cells #[.slice (some ⟨wr.heap.size, 0, none⟩) c c] 22)).cell? ⟨w.heap.size + 1, 0, none⟩ = some (.slice A n cp) := cell_turn kW hc1 (by omega)
      clear kW
      go_wp2_with fail
      go_region_law ((refine step_append1 (by rfl) _ _ _ (by rfl) (w.heap.size + 2) 22 _ _ Tryd.underlying37 infoRowB rfl _ k vs (by rfl) (((hrow.alloc _).alloc _).drew) (wr.heap.size + 1) (.slice (some ⟨wr.heap.size, 0, none⟩) c c) (by rfl) (by simp) (by rfl) (by omega) (by omega) (by simp; omega) ?_; intro v' w1 hown1 hg1 hv1; obtain ⟨A', n', cp', rfl⟩ := own_isSlice hown1; have hc1' := (cell_past HK.out hg1 hne1 (by omega) 0).trans hc1; have hf1' := (frozen_past HK.out hg1 hne1 (by omega) 0).trans hf1))
      all_goals
        have hR : OwnBytes 5 ((wr.alloc (.cells (madeCells #[.int .u8 0] c) 5)).alloc (.cells #[.slice (some ⟨wr.heap.size, 0, none⟩) c c] 22)).drew wr.heap.size (wr.heap.size + 1) (.slice (some ⟨wr.heap.size, 0, none⟩) c c) (mkRow c fun _ => 0) := by
          refine ⟨?_, by simp, fun g e => by simp [Value.ownBlock] at e; omega⟩
          rw [bys_zero c _ (fun _ _ => rfl), mkRow_length, ← toList_madeCells_one]
          exact ((World.ownsRow_lit wr (madeCells #[.int .u8 0] c) c (Nat.le_refl _) (by unfold maxLen; omega) (by simp [madeCells])).alloc _).drew
        have hM5 := (((hM.push HK.out hR (Nat.le_refl _) (by omega) (by simpa using hown1) hg1 hv1).keep (turn_setCell w1 (w.heap.size + 1) 0 (.slice A' n' cp')) (by omega)).congr (mkM_succ k c fun _ _ => 0).symm)
        have hw1 : wr.heap.size ≤ w1.heap.size := by have := hg1.size; have := HK.out.size; omega
        have hb5 : Below w.heap.size w (w1.setCell ⟨w.heap.size + 1, 0, none⟩ (.slice A' n' cp')) := Below.setCell (TurnIn.base (TurnIn.of_grown (lo := w.heap.size) (hi := w1.heap.size) hg1 (fun g e => ⟨by have := hob g e; omega, by have := (hM.out g e); omega⟩)) (HK.out.base hb (by omega) (by omega)) (by have := HK.out.size; omega) (by omega)) (Nat.le_succ _) _
        have hq0 := ((cell_past HK.out hg1 hne0 (by omega) 0).trans hc0)
        have hq0f := ((frozen_past HK.out hg1 hne0 (by omega) 0).trans hf0)
        clear hR hown1 hg1 hv1 hM hrow hob hcA hcB hb hc0 hf0
        go_wp2_with fail
        go_roundw
        case rel => exact ⟨k + 1, .slice A' n' cp', vs ++ [.slice (some ⟨wr.heap.size, 0, none⟩) c c], by omega, by go_num, by simpa using hM5, World.cell?_setCell_same _ _ _ hc1', by simp [hf1'], (cell_set_other w1 _ _ _ (by omega)).trans hq0, (frozen_set_other w1 _ _ _ (by omega)).trans hq0f, hb5, by simp; omega⟩
        case measure => simp [intOf]; omega
    · obtain rfl : k = r := by omega
      have hki : ¬ (k : Int) < (k : Int) := by omega
      obtain ⟨A, n, cp, rfl⟩ := hM.isSlice
      go_wp2_with fail
      refine bodyPost_ret (v := .agg #[.slice A n cp]) (by simp [results, Tryd.results106, go_sem, hc0]) rfl ?_
      have kk := turn_setCell wr w.heap.size 0 (.slice A n cp)
      refine ⟨_, vs, rfl, (hM.keep kk (by omega)).wider (by omega) (by simp) (by simp), TurnIn.of_below (hb.setCell (Nat.le_refl _) _)⟩
end Go.Proofs.YtfglkgeeelapgaaDoor
