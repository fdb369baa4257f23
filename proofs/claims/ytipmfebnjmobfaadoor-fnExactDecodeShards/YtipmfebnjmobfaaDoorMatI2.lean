/- The program's RankOf and InverseOf. -/
import Derived.Test.YtipmfebnjmobfaaDoorSolved
import Derived.Test.YtipmfebnjmobfaaDoorGood
import Derived.Test.YtipmfebnjmobfaaDoorGrew
set_option linter.unusedSimpArgs false
set_option linter.unusedVariables false
namespace G294
theorem int_beq (a b : Nat) : ((a : Int) == (b : Int)) = decide (a = b) := by
  by_cases h : a = b
  · subst h; simp
  · rw [decide_eq_false h, beq_eq_false_iff_ne]; omega
end G294
namespace Go.Proofs.YtipmfebnjmobfaaDoor
open Go.RowKit G294

set_option maxRecDepth 100000 in
set_option maxHeartbeats 1000000 in
theorem squareMatrix_any (v : Value) (L : Mat) (w : World) (hs : SeenM w v L) : Calls Tryd.prog 146 #[.agg #[v]] w (RetBool w (squareM L)) := by
  have k1 : TurnIn 0 0 w (w.alloc (.cells #[v] 60)) := turn_alloc _ _
  have q1 : (w.alloc (.cells #[v] 60)).cell? ⟨w.heap.size, 0, none⟩ = some v := by simp
  have z1 : (w.alloc (.cells #[v] 60)).heap.size = w.heap.size + 1 := by simp
  have HS := Lib.hid (hs.touch k1)
  obtain ⟨A, cp, rfl, hlc, hcm⟩ := hs.len
  unfold maxLen at hcm
  have K1 := Lib.hid k1
  have Z1 := Lib.hid z1
  by_cases hg : goodM L = true
  · have HG := Lib.hid hg
    obtain ⟨g1, g2, g3, g4, _⟩ := (goodM_iff L).1 hg
    obtain ⟨bb, off, c9, A0, c0, hvv, _, hbb, hrow0, hl2, _⟩ := (show SeenM w (.slice A L.length cp) (mkM L.length (wid L) (ent L)) from (good_eq hg) ▸ hs).rowF 0 (by omega)
    simp only [Value.slice.injEq] at hvv
    obtain ⟨rfl, z9, rfl⟩ := hvv
    clear z9
    rw [Nat.add_zero] at hrow0
    have q2 := cell_turn k1 hrow0 hbb
    have hpos : 0 < L.length := g1
    have HSQ : Hid (squareM L = decide (L.length = wid L)) := by show squareM L = _; unfold squareM; rw [hg]; rfl
    unfold maxLen at hl2
    clear hg hs k1 hrow0 z1
    go_enter Tryd.func146, Tryd.ntmps146
    go_wp2_with fail
    generalize (w.alloc (.cells #[.slice (some ⟨bb, off, none⟩) L.length cp] 60)) = w1 at *
    go_region_held3 (fun w' => w'.cell? ⟨w.heap.size, 0, none⟩ = some (.slice (some ⟨bb, off, none⟩) L.length cp) ∧ w'.cell? ⟨bb, off, none⟩ = some (.slice A0 (wid L) c0))
      (first | exact ⟨q1, q2⟩ | exact ⟨y1, y2⟩)
      ((go_at_call 143; refine (igood_any _ L w1.drew HS.out).mono ?_; rintro e w2 ⟨rfl, ht⟩; rw [HG.out]; have z1 := Z1.out; have y1 := cell_turn ht (show w1.drew.cell? _ = _ from q1) (show _ < w1.heap.size by omega); have y2 := cell_turn ht (show w1.drew.cell? _ = _ from q2) (show _ < w1.heap.size by omega); clear z1))
    all_goals
      go_wp2_with fail
      go_ret
      exact ⟨by rw [HSQ.out, ← int_beq]; rfl, turn_of_below K1.out.to_below.drew ht⟩
  · have HG : Hid (goodM L = false) := by show goodM L = false; simpa using hg
    have HSQ : Hid (squareM L = false) := by show squareM L = false; unfold squareM; rw [HG.out]; rfl
    clear hg hs k1 z1
    go_enter Tryd.func146, Tryd.ntmps146
    go_wp2_with fail
    generalize (w.alloc (.cells #[.slice A L.length cp] 60)) = w1 at *
    have hz1 := Z1.out
    have hcc := grew_cell q1 (by omega)
    have HGG := Lib.hid (fun p : Grew w1 => HG.out ▸ grew_bool (igood_any _ L p.at_ (HS.out.below p.old)))
    clear q1 hz1
    refine wp_region_grew (by kernel_rfl) (by kernel_rfl) ?_
    repeat (first | go_big_quiet_skip | quiet_step ((go_at_call 143; exact HGG.out _)))
    refine wpQuiet_nil ?_
    rintro _ ⟨p, rfl⟩
    go_wp2_with fail
    go_ret
    exact ⟨by rw [HSQ.out]; rfl, turn_of_below K1.out.to_below (TurnIn.of_below p.old)⟩

set_option maxRecDepth 100000 in
set_option maxHeartbeats 1000000 in
theorem rankOf_own (v : Value) (L : Mat) (w : World) (hs : SeenM w v L) (htab : Tab w) (h0 : 1 < w.heap.size) : Calls Tryd.prog 112 #[.agg #[v]] w (RetIntOk w (rankR L) (goodM L)) := by
  have k1 : TurnIn 0 0 w (w.alloc (.cells #[v] 60)) := turn_alloc _ _
  have q1 : (w.alloc (.cells #[v] 60)).cell? ⟨w.heap.size, 0, none⟩ = some v := by simp
  have z1 : (w.alloc (.cells #[v] 60)).heap.size = w.heap.size + 1 := by simp
  have HS := Lib.hid (hs.touch k1)
  obtain ⟨A, cp, rfl, hlc, hcm⟩ := hs.len
  unfold maxLen at hcm
  have K1 := Lib.hid k1
  have Z1 := Lib.hid z1
  have HT := Lib.hid (htab.below k1.to_below h0)
  by_cases hg : goodM L = true
  · have HG := Lib.hid hg
    have HLE := Lib.hid (good_eq hg)
    obtain ⟨g1, g2, g3, g4, _⟩ := (goodM_iff L).1 hg
    obtain ⟨bb, off, c9, A0, c0, hvv, _, hbb, hrow0, hl2, _⟩ := (show SeenM w (.slice A L.length cp) (mkM L.length (wid L) (ent L)) from (good_eq hg) ▸ hs).rowF 0 (by omega)
    simp only [Value.slice.injEq] at hvv
    obtain ⟨rfl, z9, rfl⟩ := hvv
    clear z9
    rw [Nat.add_zero] at hrow0
    have q2 := cell_turn k1 hrow0 hbb
    have hpos : 0 < L.length := g1
    have HR : Hid (rankR L = (est (ent L) L.length (wid L)).2) := if_pos hg
    unfold maxLen at hl2
    clear hg hs k1 hrow0 htab
    go_enter Tryd.func112, Tryd.ntmps112
    go_wp2_with fail
    generalize (w.alloc (.cells #[.slice (some ⟨bb, off, none⟩) L.length cp] 60)) = w1 at *
    refine (igood_any _ L w1 HS.out).mono ?_
    rintro e w2 ⟨rfl, ht⟩
    rw [HG.out]
    have y1 := cell_turn ht q1 (by omega)
    have y2 := cell_turn ht q2 (by omega)
    have s2 := ht.size
    have HS2 := Lib.hid (HS.out.touch ht)
    have K2 := Lib.hid (turn_trans K1.out ht (by omega))
    have HT2 := Lib.hid (HT.out.below ht.to_below (by omega))
    have hz2 : w.heap.size + 1 ≤ w2.heap.size := by omega
    clear ht q1 q2 z1
    go_wp2_with fail
    go_region_held3 (fun w' => w'.cell? ⟨w.heap.size, 0, none⟩ = some (.slice (some ⟨bb, off, none⟩) L.length cp) ∧ w'.cell? ⟨bb, off, none⟩ = some (.slice A0 (wid L) c0))
      (first | exact ⟨y1, y2⟩ | exact ⟨x1, x2⟩ | exact ⟨u1, u2⟩)
      (first
        | (go_at_call 145; refine (fieldGrid_own L.length (wid L) (ent L) _ w2.drew (HLE.out ▸ HS2.out) g1 (by omega) (by omega)).mono ?_; rintro e w3 ⟨v3, vs3, rfl, hM3, ht3⟩; have x1 := cell_turn ht3 (show w2.drew.cell? _ = _ from y1) (show _ < w2.heap.size by omega); have x2 := cell_turn ht3 (show w2.drew.cell? _ = _ from y2) (show _ < w2.heap.size by omega); have s3 : w2.heap.size ≤ w3.heap.size := ht3.size)
        | (go_at_call 144; refine (eliminate_any L.length (wid L) (wid L) _ _ (ent L) v3 vs3 w3 hM3 g1 (Nat.le_refl _) (by omega) (by omega) (HT2.out.below (show Below w2.heap.size w2 w3 from ⟨ht3.os, ht3.tape, ht3.output, ht3.size, fun k hk => ht3.block k hk (by omega)⟩) (by omega)) (show _ < w2.heap.size by omega)).mono ?_; rintro e w4 ⟨vs4, rfl, hM4, hK4⟩; have u1 := (World.cell?_of_block (hK4.block w.heap.size (by omega) (Or.inl (show _ < w2.heap.size by omega)))).trans x1; have u2 := (World.cell?_of_block (hK4.block bb (by omega) (Or.inl (show _ < w2.heap.size by omega)))).trans x2))
    go_wp2_with fail
    go_ret2
    have t3 : TurnIn 0 0 w w3 := turn_trans K2.out (⟨ht3.os, ht3.tape, ht3.output, ht3.size, ht3.block⟩ : TurnIn 0 0 w2 w3) (by omega)
    exact ⟨by rw [HR.out, HG.out]; rfl, turn_trans t3 hK4 (Or.inr (Or.inl (show w.heap.size ≤ w2.heap.size by omega)))⟩
  · have HG : Hid (goodM L = false) := by show goodM L = false; simpa using hg
    have HR : Hid (rankR L = 0) := if_neg hg
    clear hg hs k1 htab z1
    go_enter Tryd.func112, Tryd.ntmps112
    go_wp2_with fail
    refine (igood_any _ L _ HS.out).mono ?_
    rintro e w2 ⟨rfl, ht⟩
    rw [HG.out]
    go_wp2_with fail
    go_ret2
    exact ⟨by rw [HR.out, HG.out]; rfl, turn_of_below K1.out.to_below ht⟩
end Go.Proofs.YtipmfebnjmobfaaDoor
