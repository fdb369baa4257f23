/- Joined texts: Grew, MatI2, MatI3, DecBy, Decode, Remade, RebMath. -/
import Derived.Test.YtjgmegfbfjmnfaaDoorBd00
import Derived.Test.YtjgmegfbfjmnfaaDoorBd02
import Derived.Deep.QuietTactic
import Derived.Test.YtjgmegfbfjmnfaaDoorBd10
import Derived.Test.YtjgmegfbfjmnfaaDoorBd03
import Derived.Test.YtjgmegfbfjmnfaaDoorBd08
import Derived.Deep.CutRange
import Derived.Maps.AppendAt
import Derived.Test.YtjgmegfbfjmnfaaDoorBd07
set_option linter.unusedSimpArgs false
set_option linter.unusedVariables false
/- Regions that draw their order, whose operations read and whose callees lay new memory alone and answer the same in all such worlds. -/
namespace G294
open Go Go.RowKit
structure Grew (w : World) where
  at_ : World
  old : Below w.heap.size w at_
instance (w : World) : Inhabited (Grew w) := ⟨⟨w, Below.refl _ _⟩⟩
instance (w : World) : Nonempty (Grew w) := ⟨default⟩
theorem wp_region_grew {P : Program} {id : Nat} {Q : Exit → Act → World → Prop} {a : Act} {w : World} {l : List Oper} (hm : P.follows .mixedOrders = true) (hB : Region.lexB .any l.toArray = true)
    (h : wpQuiet P l.toArray (fun w' => ∃ p : Grew w, w' = p.at_) (fun a' => ∀ w', (∃ p : Grew w, w' = p.at_) → Q .normal a' w') l a) : (Code.region id l.toArray true).wp P Q a w :=
  wp_region_quiet (C := fun w' => ∃ p : Grew w, w' = p.at_) hm hB ⟨⟨w.drew, (Below.refl _ _).drew⟩, rfl⟩ (by simpa using h)
theorem grew_bool {P : Program} {f : FuncId} {args : Array Value} {w : World} {p : Grew w} {b : Bool} (h : Calls P f args p.at_ (RetBool p.at_ b)) :
    Calls P f args p.at_ fun e w'' => e = .returned (.bool b) ∧ ∃ q : Grew w, w'' = q.at_ :=
  h.mono fun _ w'' ⟨he, ht⟩ => ⟨he, ⟨w'', ht.base p.old p.old.size (by omega)⟩, rfl⟩
theorem grew_cell {w : World} {B o : Nat} {x : Value} (h : w.cell? ⟨B, o, none⟩ = some x) (hB : B < w.heap.size) (p : Grew w) : p.at_.cell? ⟨B, o, none⟩ = some x := (p.old.cell (p := ⟨B, o, none⟩) hB).trans h
end G294

/- The program's RankOf and InverseOf. -/
namespace G294
theorem int_beq (a b : Nat) : ((a : Int) == (b : Int)) = decide (a = b) := by
  by_cases h : a = b
  · subst h; simp
  · rw [decide_eq_false h, beq_eq_false_iff_ne]; omega
end G294
namespace Go.Proofs.YtjgmegfbfjmnfaaDoor
open Go.RowKit G294

set_option maxRecDepth 100000 in
set_option maxHeartbeats 1000000 in
theorem squareMatrix_any (v : Value) (L : Mat) (w : World) (hs : SeenM w v L) : Calls Tryd.prog 110 #[.agg #[v]] w (RetBool w (squareM L)) := by
  have k1 : TurnIn 0 0 w (w.alloc (.cells #[v] 39)) := turn_alloc _ _
  have q1 : (w.alloc (.cells #[v] 39)).cell? ⟨w.heap.size, 0, none⟩ = some v := by simp
  have z1 : (w.alloc (.cells #[v] 39)).heap.size = w.heap.size + 1 := by simp
  have HS := Lib.hid (hs.touch k1)
  obtain ⟨A, cp, rfl, hlc, hcm⟩ := hs.len
  unfold maxLen at hcm
  have K1 := Lib.hid k1
  have Z1 := Lib.hid z1
  by_cases hg : goodM L = true
  · have HG := Lib.hid hg
    obtain ⟨g1, g2, g3, g4, _⟩ := (goodM_iff L).1 hg
    obtain ⟨bb, off, c9, A0, c0, hvv, _, hbb, hrow0, hl2, _⟩ := (show SeenM w (.slice A L.length cp) (mkM L.length (wid L) (ent L)) from (good_eq hg) ▸ hs).rowF 0 (by omega)
    simp only [Value.slice.injEq] at hvv
    obtain ⟨rfl, z9, rfl⟩ := hvv
    clear z9
    rw [Nat.add_zero] at hrow0
    have q2 := cell_turn k1 hrow0 hbb
    have hpos : 0 < L.length := g1
    have HSQ : Hid (squareM L = decide (L.length = wid L)) := by show squareM L = _; unfold squareM; rw [hg]; rfl
    unfold maxLen at hl2
    clear hg hs k1 hrow0 z1
    go_enter Tryd.func110, Tryd.ntmps110
    go_wp2_with fail
    generalize (w.alloc (.cells #[.slice (some ⟨bb, off, none⟩) L.length cp] 39)) = w1 at *
    go_region_held3 (fun w' => w'.cell? ⟨w.heap.size, 0, none⟩ = some (.slice (some ⟨bb, off, none⟩) L.length cp) ∧ w'.cell? ⟨bb, off, none⟩ = some (.slice A0 (wid L) c0))
      (first | exact ⟨q1, q2⟩ | exact ⟨y1, y2⟩)
      ((go_at_call 119; refine (igood_any _ L w1.drew HS.out).mono ?_; rintro e w2 ⟨rfl, ht⟩; rw [HG.out]; have z1 := Z1.out; have y1 := cell_turn ht (show w1.drew.cell? _ = _ from q1) (show _ < w1.heap.size by omega); have y2 := cell_turn ht (show w1.drew.cell? _ = _ from q2) (show _ < w1.heap.size by omega); clear z1))
    all_goals
      go_wp2_with fail
      go_ret
      exact ⟨by rw [HSQ.out, ← int_beq]; rfl, turn_of_below K1.out.to_below.drew ht⟩
  · have HG : Hid (goodM L = false) := by show goodM L = false; simpa using hg
    have HSQ : Hid (squareM L = false) := by show squareM L = false; unfold squareM; rw [HG.out]; rfl
    clear hg hs k1 z1
    go_enter Tryd.func110, Tryd.ntmps110
    go_wp2_with fail
    generalize (w.alloc (.cells #[.slice A L.length cp] 39)) = w1 at *
    have hz1 := Z1.out
    have hcc := grew_cell q1 (by omega)
    have HGG := Lib.hid (fun p : Grew w1 => HG.out ▸ grew_bool (igood_any _ L p.at_ (HS.out.below p.old)))
    clear q1 hz1
    refine wp_region_grew (by kernel_rfl) (by kernel_rfl) ?_
    repeat (first | go_big_quiet_skip | quiet_step ((go_at_call 119; exact HGG.out _)))
    refine wpQuiet_nil ?_
    rintro _ ⟨p, rfl⟩
    go_wp2_with fail
    go_ret
    exact ⟨by rw [HSQ.out]; rfl, turn_of_below K1.out.to_below (TurnIn.of_below p.old)⟩

set_option maxRecDepth 100000 in
set_option maxHeartbeats 1000000 in
theorem rankOf_own (v : Value) (L : Mat) (w : World) (hs : SeenM w v L) (htab : Tab w) (h0 : 0 < w.heap.size) : Calls Tryd.prog 116 #[.agg #[v]] w (RetIntOk w (rankR L) (goodM L)) := by
  have k1 : TurnIn 0 0 w (w.alloc (.cells #[v] 39)) := turn_alloc _ _
  have q1 : (w.alloc (.cells #[v] 39)).cell? ⟨w.heap.size, 0, none⟩ = some v := by simp
  have z1 : (w.alloc (.cells #[v] 39)).heap.size = w.heap.size + 1 := by simp
  have HS := Lib.hid (hs.touch k1)
  obtain ⟨A, cp, rfl, hlc, hcm⟩ := hs.len
  unfold maxLen at hcm
  have K1 := Lib.hid k1
  have Z1 := Lib.hid z1
  have HT := Lib.hid (htab.below k1.to_below h0)
  by_cases hg : goodM L = true
  · have HG := Lib.hid hg
    have HLE := Lib.hid (good_eq hg)
    obtain ⟨g1, g2, g3, g4, _⟩ := (goodM_iff L).1 hg
    obtain ⟨bb, off, c9, A0, c0, hvv, _, hbb, hrow0, hl2, _⟩ := (show SeenM w (.slice A L.length cp) (mkM L.length (wid L) (ent L)) from (good_eq hg) ▸ hs).rowF 0 (by omega)
    simp only [Value.slice.injEq] at hvv
    obtain ⟨rfl, z9, rfl⟩ := hvv
    clear z9
    rw [Nat.add_zero] at hrow0
    have q2 := cell_turn k1 hrow0 hbb
    have hpos : 0 < L.length := g1
    have HR : Hid (rankR L = (est (ent L) L.length (wid L)).2) := if_pos hg
    unfold maxLen at hl2
    clear hg hs k1 hrow0 htab
    go_enter Tryd.func116, Tryd.ntmps116
    go_wp2_with fail
    generalize (w.alloc (.cells #[.slice (some ⟨bb, off, none⟩) L.length cp] 39)) = w1 at *
    refine (igood_any _ L w1 HS.out).mono ?_
    rintro e w2 ⟨rfl, ht⟩
    rw [HG.out]
    have y1 := cell_turn ht q1 (by omega)
    have y2 := cell_turn ht q2 (by omega)
    have s2 := ht.size
    have HS2 := Lib.hid (HS.out.touch ht)
    have K2 := Lib.hid (turn_trans K1.out ht (by omega))
    have HT2 := Lib.hid (HT.out.below ht.to_below (by omega))
    have hz2 : w.heap.size + 1 ≤ w2.heap.size := by omega
    clear ht q1 q2 z1
    go_wp2_with fail
    go_region_held3 (fun w' => w'.cell? ⟨w.heap.size, 0, none⟩ = some (.slice (some ⟨bb, off, none⟩) L.length cp) ∧ w'.cell? ⟨bb, off, none⟩ = some (.slice A0 (wid L) c0))
      (first | exact ⟨y1, y2⟩ | exact ⟨x1, x2⟩ | exact ⟨u1, u2⟩)
      (first
        | (go_at_call 112; refine (fieldGrid_own L.length (wid L) (ent L) _ w2.drew (HLE.out ▸ HS2.out) g1 (by omega) (by omega)).mono ?_; rintro e w3 ⟨v3, vs3, rfl, hM3, ht3⟩; have x1 := cell_turn ht3 (show w2.drew.cell? _ = _ from y1) (show _ < w2.heap.size by omega); have x2 := cell_turn ht3 (show w2.drew.cell? _ = _ from y2) (show _ < w2.heap.size by omega); have s3 : w2.heap.size ≤ w3.heap.size := ht3.size)
        | (go_at_call 121; refine (eliminate_any L.length (wid L) (wid L) _ _ (ent L) v3 vs3 w3 hM3 g1 (Nat.le_refl _) (by omega) (by omega) (HT2.out.below (show Below w2.heap.size w2 w3 from ⟨ht3.os, ht3.tape, ht3.output, ht3.size, fun k hk => ht3.block k hk (by omega)⟩) (by omega)) (show _ < w2.heap.size by omega)).mono ?_; rintro e w4 ⟨vs4, rfl, hM4, hK4⟩; have u1 := (World.cell?_of_block (hK4.block w.heap.size (by omega) (Or.inl (show _ < w2.heap.size by omega)))).trans x1; have u2 := (World.cell?_of_block (hK4.block bb (by omega) (Or.inl (show _ < w2.heap.size by omega)))).trans x2))
    go_wp2_with fail
    go_ret2
    have t3 : TurnIn 0 0 w w3 := turn_trans K2.out (⟨ht3.os, ht3.tape, ht3.output, ht3.size, ht3.block⟩ : TurnIn 0 0 w2 w3) (by omega)
    exact ⟨by rw [HR.out, HG.out]; rfl, turn_trans t3 hK4 (Or.inr (Or.inl (show w.heap.size ≤ w2.heap.size by omega)))⟩
  · have HG : Hid (goodM L = false) := by show goodM L = false; simpa using hg
    have HR : Hid (rankR L = 0) := if_neg hg
    clear hg hs k1 htab z1
    go_enter Tryd.func116, Tryd.ntmps116
    go_wp2_with fail
    refine (igood_any _ L _ HS.out).mono ?_
    rintro e w2 ⟨rfl, ht⟩
    rw [HG.out]
    go_wp2_with fail
    go_ret2
    exact ⟨by rw [HR.out, HG.out]; rfl, turn_of_below K1.out.to_below ht⟩
end Go.Proofs.YtjgmegfbfjmnfaaDoor

/- The program's InverseOf and Product. -/
namespace G294
open Go Go.RowKit
theorem inv_sol {L : Mat} (h : squareM L = true) : invOk L = solB (ent L) L.length := by
  unfold invOk solB rankN
  simp only [squareM, Bool.and_eq_true, decide_eq_true_eq] at h
  rw [show squareM L = true by simp [squareM, h.1, h.2.symm], ← h.2]; rfl
theorem TurnIn.undrew' {w w1 w' : World} (h : TurnIn 0 0 w w1) (t : TurnIn 0 0 w1.drew w') : TurnIn 0 0 w w' := TurnIn.of_below (TurnIn.base (⟨t.os, t.tape, t.output, t.size, t.block⟩ : TurnIn 0 0 w1 w') h.to_below h.size (by omega))
end G294
namespace Go.Proofs.YtjgmegfbfjmnfaaDoor
open Go.RowKit G294

set_option maxRecDepth 100000 in
set_option maxHeartbeats 4000000 in
theorem inverseOf_own (v : Value) (L : Mat) (w : World) (hs : SeenM w v L) (htab : Tab w) (h0 : 0 < w.heap.size) : Calls Tryd.prog 100 #[.agg #[v]] w (RetMatOk 5 22 w (invR L) (invOk L)) := by
  have kB : TurnIn 0 0 w ((w.alloc (.cells #[v] 39)).alloc (.cells #[.slice none 0 0] 39)) := turn_trans (turn_alloc _ _) (turn_alloc _ _) (by omega)
  have zB : ((w.alloc (.cells #[v] 39)).alloc (.cells #[.slice none 0 0] 39)).heap.size = w.heap.size + 2 := by simp
  have q0 : ((w.alloc (.cells #[v] 39)).alloc (.cells #[.slice none 0 0] 39)).cell? ⟨w.heap.size, 0, none⟩ = some v := by simp
  have q1 : ((w.alloc (.cells #[v] 39)).alloc (.cells #[.slice none 0 0] 39)).cell? ⟨w.heap.size + 1, 0, none⟩ = some (.slice none 0 0) := by simp
  have q1f : ((w.alloc (.cells #[v] 39)).alloc (.cells #[.slice none 0 0] 39)).frozen? ⟨w.heap.size + 1, 0, none⟩ = false := by simp
  have HS := Lib.hid (hs.touch kB)
  have HTAB := Lib.hid htab
  obtain ⟨A, cp, rfl, hlc, hcm⟩ := hs.len
  unfold maxLen at hcm
  have KB := Lib.hid kB
  clear hs htab kB
  go_enter Tryd.func100, Tryd.ntmps100
  go_wp2_with fail
  generalize ((w.alloc (.cells #[.slice A L.length cp] 39)).alloc (.cells #[.slice none 0 0] 39)) = w2 at *
  refine (squareMatrix_any _ L _ HS.out).mono ?_
  rintro e w3 ⟨rfl, k3⟩
  have cB := cell_turn k3 q0 (by omega)
  have cR := cell_turn k3 q1 (by omega)
  have cRf := frozen_turn k3 q1f (by omega)
  have hsz : w.heap.size + 2 ≤ w3.heap.size := by have := k3.size; omega
  have HS3 := Lib.hid (HS.out.touch k3)
  have KK3 := Lib.hid (turn_trans KB.out k3 (by omega))
  have HFAIL : Hid (invOk L = false → invR L = []) := fun h => if_neg (by rw [h]; simp)
  clear k3 q0 q1 q1f zB
  by_cases hg : squareM L = true
  · have HIS := Lib.hid (inv_sol hg)
    have hgg : goodM L = true ∧ L.length = wid L := by simpa [squareM] using hg
    obtain ⟨g1, g2, g3, g4, _⟩ := (goodM_iff L).1 hgg.1
    have HLE : Hid (L = mkM L.length L.length (ent L)) := by
      show L = mkM L.length L.length (ent L)
      have e := good_eq hgg.1
      rw [← hgg.2] at e
      exact e
    have HS4 : Hid (SeenM w3 (.slice A L.length cp) (mkM L.length L.length (ent L))) := by
      show SeenM w3 (.slice A L.length cp) (mkM L.length L.length (ent L))
      have e := HS3.out
      generalize hn : L.length = n at *
      have hL := HLE.out
      rw [hL] at e
      exact e
    rw [hg]
    clear hg hgg
    have HINV : Hid (invOk L = true → invR L = mkM L.length L.length (bst (ent L) idF L.length L.length)) := fun h => if_pos h
    generalize L.length = n at *
    go_wp2_with fail
    go_region_held3 (fun w' => w'.cell? ⟨w.heap.size, 0, none⟩ = some (.slice A n cp))
      (first | exact cB)
      (first
        | (go_at_call 112; refine (fieldGrid_own n n (ent L) _ w3.drew HS4.out g1 (by omega) (by omega)).mono ?_; rintro e wF ⟨vF, vsF, rfl, oF, kF⟩; have kk := KK3.out.undrew' kF; replace cB := cell_turn kF (show w3.drew.cell? _ = _ from cB) (show _ < w3.heap.size by omega); replace cR := cell_turn kF (show w3.drew.cell? _ = _ from cR) (show _ < w3.heap.size by omega); replace cRf := frozen_turn kF (show w3.drew.frozen? _ = _ from cRf) (show _ < w3.heap.size by omega); replace hsz : w.heap.size + 2 ≤ wF.heap.size := Nat.le_trans hsz kF.size)
        | (go_at_call 113; refine (identityGridF n wF (by omega)).mono ?_; rintro e wI ⟨vI, vsI, rfl, oI, kI⟩; replace oF := oF.keep kI (by omega); replace kk := turn_trans kk kI (by omega); replace cB := cell_turn kI cB (by omega); replace cR := cell_turn kI cR (by omega); replace cRf := frozen_turn kI cRf (by omega); replace hsz : w.heap.size + 2 ≤ wI.heap.size := Nat.le_trans hsz kI.size)
        | (go_at_call 113; refine (identityGridF n w3.drew (by omega)).mono ?_; rintro e wI ⟨vI, vsI, rfl, oI, kI⟩; have kk := KK3.out.undrew' kI; have HSI := Lib.hid ((show SeenM w3.drew (.slice A n cp) (mkM n n (ent L)) from HS4.out).touch kI); replace cB := cell_turn kI (show w3.drew.cell? _ = _ from cB) (show _ < w3.heap.size by omega); replace cR := cell_turn kI (show w3.drew.cell? _ = _ from cR) (show _ < w3.heap.size by omega); replace cRf := frozen_turn kI (show w3.drew.frozen? _ = _ from cRf) (show _ < w3.heap.size by omega); replace hsz : w.heap.size + 2 ≤ wI.heap.size := Nat.le_trans hsz kI.size)
        | (go_at_call 112; refine (fieldGrid_own n n (ent L) _ wI HSI.out g1 (by omega) (by omega)).mono ?_; rintro e wF ⟨vF, vsF, rfl, oF, kF⟩; replace oI := oI.keep kF (by omega); replace kk := turn_trans kk kF (by omega); replace cB := cell_turn kF cB (by omega); replace cR := cell_turn kF cR (by omega); replace cRf := frozen_turn kF cRf (by omega); replace hsz : w.heap.size + 2 ≤ wF.heap.size := Nat.le_trans hsz kF.size)
        | (go_at_call 111; refine (solved_own n n (ent L) idF _ _ _ oF.seen oI.seen g1 (by omega) (by omega) (HTAB.out.below kk.to_below h0) (by have := kk.size; omega)).mono ?_; rintro e w5 ⟨v5, vs5, rfl, o5, k5⟩; replace kk := turn_trans kk k5 (by omega); replace cB := cell_turn k5 cB (by omega); replace cR := cell_turn k5 cR (by omega); replace cRf := frozen_turn k5 cRf (by omega); replace hsz : w.heap.size + 2 ≤ w5.heap.size := Nat.le_trans hsz k5.size))
    all_goals
      have KK := Lib.hid kk
      have HO5 := Lib.hid o5
      clear kk o5 oF oI k5 kF kI
      by_cases hok : solB (ent L) n = true
      · have HOK := Lib.hid hok
        have HIV : Hid (invOk L = true) := by show invOk L = true; rw [HIS.out]; exact hok
        have e5 : solL (ent L) idF n n = mkM n n (bst (ent L) idF n n) := if_pos hok
        have HS5 : Hid (SeenM w5 v5 (mkM n n (bst (ent L) idF n n))) := by
          show SeenM w5 v5 _
          rw [← e5]; exact HO5.out.seen
        rw [show solOk (ent L) n = true from hok]
        clear hok e5
        go_wp2_with fail
        refine (matrixOf_own n n (bst (ent L) idF n n) _ _ HS5.out g1 (by omega) (by omega)).mono ?_
        rintro e w6 ⟨v6, vs6, rfl, hM6, ht6⟩
        obtain ⟨A', n', c', rfl⟩ := hM6.isSlice
        have hq := cell_turn ht6 cR (by omega)
        have hqf := frozen_turn ht6 cRf (by omega)
        have HF := Lib.hid (ret_store KK.out.to_below hM6 ht6 (w.heap.size + 1) 0 (by omega) (by omega) (.slice A' n' c'))
        clear hM6 ht6
        go_wp2_with fail
        refine bodyPost_ret (v := .tuple #[.agg #[.slice A' n' c'], .bool true]) (by simp [results, Tryd.results100, go_sem, hq]) rfl ?_
        exact ⟨.slice A' n' c', vs6, by rw [HIV.out], by rw [HINV.out HIV.out]; exact HF.out.1, HF.out.2⟩
      · have hok' : solB (ent L) n = false := by simpa using hok
        have HIV : Hid (invOk L = false) := by show invOk L = false; rw [HIS.out]; exact hok'
        rw [show solOk (ent L) n = false from hok']
        clear hok hok'
        go_wp2_with fail
        refine bodyPost_ret (v := .tuple #[.agg #[.slice none 0 0], .bool false]) (by simp [results, Tryd.results100, go_sem, cR]) rfl ?_
        exact ⟨_, [], by rw [HIV.out], by rw [HFAIL.out HIV.out]; exact OwnM.nil _ _ _ _, TurnIn.of_below (KK.out.to_below.setCell (Nat.le_succ _) _)⟩
  · have hg' : squareM L = false := by simpa using hg
    have HIV : Hid (invOk L = false) := by show invOk L = false; unfold invOk; rw [hg']; rfl
    rw [hg']
    clear hg hg'
    go_wp2_with fail
    refine bodyPost_ret (v := .tuple #[.agg #[.slice none 0 0], .bool false]) (by simp [results, Tryd.results100, go_sem, cR]) rfl ?_
    exact ⟨_, [], by rw [HIV.out], by rw [HFAIL.out HIV.out]; exact OwnM.nil _ _ _ _, TurnIn.of_below (KK3.out.to_below.setCell (Nat.le_succ _) _)⟩
end Go.Proofs.YtjgmegfbfjmnfaaDoor

/- decodedBy, the program's. -/
namespace G294
open Go Go.RowKit
/-- the rows that shards name -/
def usedM (L : Mat) (l : List Sh) : Mat := pickM L (l.map (·.1))
def dbOk (L : Mat) (l : List Sh) : Bool := invOk (usedM L l)
def dbR (L : Mat) (l : List Sh) (n : Nat) : List (List UInt8) := if dbOk L l = true then rowsT l.length l.length n (invF (usedM L l)) (l.map (·.2)) else []
theorem dbR_no {L : Mat} {l : List Sh} {n : Nat} (h : dbOk L l = false) : dbR L l n = [] := if_neg (by rw [h]; simp)
theorem dbR_yes {L : Mat} {l : List Sh} {n : Nat} (h : dbOk L l = true) : dbR L l n = rowsT l.length l.length n (invF (usedM L l)) (l.map (·.2)) := if_pos h
@[simp] theorem usedM_length (L : Mat) (l : List Sh) : (usedM L l).length = l.length := by simp [usedM]
theorem shardsF_texts (r c n : Nat) (F : Ents) (T : List (List UInt8)) : (shardsF r c n F T).map (·.2) = rowsT r c n F T := by
  simp [shardsF, rowsT, mkM, comb]
theorem OwnInts.isSlice {E : TypeId} {w : World} {lo hi : Nat} {v : Value} {l : List Int} (h : OwnInts E w lo hi v l) : ∃ A n c, v = .slice A n c := by
  rcases h.1.2 with ⟨hh, _⟩ | ⟨g, cap, cur, hh, _⟩ <;> exact ⟨_, _, _, hh⟩
/-- behind 'x, ok := f(..)': the result's rows lie in a box -/
def MidBox (T E EE : TypeId) (w2 : World) (L : Mat) (s : Value) (wx : World) : Prop := ∃ B A n c vs, s = .pointer (some ⟨B, 0, none⟩) ∧ w2.heap.size ≤ B ∧ Boxed wx B T (.slice A n c) ∧ OwnM E EE wx w2.heap.size wx.heap.size (.slice A n c) L vs ∧ Below w2.heap.size w2 wx
theorem mid_new {T E EE : TypeId} {w2 w5 : World} {L : Mat} {lo : Nat} {A : Option Addr} {n c : Nat} {vs : List Value} (h : OwnM E EE w5 lo w5.heap.size (.slice A n c) L vs) (hb : Below w2.heap.size w2 w5) (hl : w2.heap.size ≤ lo) : MidBox T E EE w2 L (.pointer (some ⟨w5.heap.size, 0, none⟩)) (w5.alloc (.cells #[.slice A n c] T)) :=
  ⟨w5.heap.size, A, n, c, vs, rfl, hb.size, Boxed.new _ _ _, (h.keep (turn_alloc _ _) (by omega)).wider hl (by simp) (Nat.le_refl _), hb.alloc hb.size _⟩
theorem mid_set {T E EE : TypeId} {w2 w5 : World} {L : Mat} {lo B : Nat} {A : Option Addr} {n c : Nat} {vs : List Value} {u : Value} (h : OwnM E EE w5 lo w5.heap.size (.slice A n c) L vs) (hb : Below w2.heap.size w2 w5) (hl : w2.heap.size ≤ lo) (hB : Boxed w5 B T u) (h1 : w2.heap.size ≤ B) (h2 : B < lo) : MidBox T E EE w2 L (.pointer (some ⟨B, 0, none⟩)) (w5.setCell ⟨B, 0, none⟩ (.slice A n c)) :=
  ⟨B, A, n, c, vs, rfl, h1, hB.set _, (h.keep (turn_setCell w5 B 0 _) (by omega)).wider hl (by simp) (by simp), hb.setCell (p := ⟨B, 0, none⟩) h1 _⟩
end G294
namespace Go.Proofs.YtjgmegfbfjmnfaaDoor
open Go.RowKit Go.Shelf G294

attribute [local go_sem] Oper.semAt_some

set_option maxRecDepth 100000 in
set_option maxHeartbeats 4000000 in
theorem decodedBy_own (v : Value) (L : Mat) (u : Value) (l : List Sh) (n : Nat) (w : World) (hm : SeenM w v L) (hu : SeenH w u l) (hln : l.length ≤ 1000)
    (hno : ∀ i, i < (l.map (·.1)).length → 0 ≤ (l.map (·.1)).getD i 0 ∧ (l.map (·.1)).getD i 0 < (L.length : Int)) (hn : ∀ j, j < l.length → ((l.map (·.2)).getD j []).length = n) (hn2 : n ≤ 1000) (ht : Tab w) (h0 : 0 < w.heap.size) :
    Calls Tryd.prog 72 #[.agg #[v], u] w (RetStrsOk 9 w (dbR L l n) (dbOk L l)) := by
  have HM0 := Lib.hid hm
  have HU0 := Lib.hid hu
  obtain ⟨A, cp, rfl, hlc, hcm⟩ := hm.len
  obtain ⟨Au, cu, rfl⟩ := hu.len
  unfold maxLen at hcm
  have HNO := Lib.hid hno
  have HTX := Lib.hid hn
  have HT0 := Lib.hid ht
  have HML : Hid ((l.map (·.1)).length ≤ 1048576) := by show _ ≤ _; simp; omega
  have HTL : Hid ((l.map (·.2)).length = l.length) := by show _ = _; simp
  clear hm hu hno hn ht
  have k1 := turn_alloc w (.cells #[.slice A L.length cp] 39)
  have z1 := World.size_alloc w (.cells #[.slice A L.length cp] 39)
  have c1 := alloc_cell w (.slice A L.length cp) 39
  refine (callsIn_wide (n := 5)).1 ?_
  refine callsIn_of_wp_marks Tryd.func72 rfl trivial ?_ rfl
  simp only [Tryd.ntmps72, List.size_toArray, List.length_cons, List.length_nil, Nat.reduceAdd, Nat.reduceSub, Array.replicate_succ, Array.replicate_zero, List.push_toArray, List.append_toArray, List.nil_append, List.cons_append]
  refine wpIn_wide.2 ?_
  go_upto_region 1 with fail
  generalize (w.alloc (.cells #[.slice A L.length cp] 39)) = w2 at *
  have hB2 : Below w2.heap.size w2 w2 := Below.refl _ _
  have l0 : (⟨w.heap.size, 0, none⟩ : Addr).block < w2.heap.size := by show w.heap.size < w2.heap.size; omega
  have HM : Hid (∀ W, Below w2.heap.size w2 W → SeenM W (.slice A L.length cp) L) := fun W h => (HM0.out.touch k1).below h
  have HU : Hid (∀ W, Below w2.heap.size w2 W → SeenH W (.slice Au l.length cu) l) := fun W h => (HU0.out.below k1.to_below).below h
  have HT : Hid (∀ W, Below w2.heap.size w2 W → Tab W ∧ 0 < W.heap.size) := fun W h => ⟨(HT0.out.below k1.to_below h0).below h (by omega), by have := h.size; omega⟩
  have KW := Lib.hid k1
  have HZ1 := Lib.hid z1
  have hz1 : w.heap.size < w2.heap.size := by omega
  clear k1 z1
  go_cut [6, 7] from 10 to 17 (fun s6 s7 wx => s7 = .bool (dbOk L l) ∧ MidBox 39 5 22 w2 (invR (usedM L l)) s6 wx)
  case first =>
    go_region_held3 (fun w' => Below w2.heap.size w2 w' ∧ w'.cell? ⟨w.heap.size, 0, none⟩ = some (.slice A L.length cp))
      (first | exact ⟨hB2.drew, c1⟩ | exact hS5 | exact hS4 | exact hS3 | exact sAlloc (by assumption) l0 _ | exact sSet (by assumption) l0 (by omega) _ | exact sSet (by assumption) l0 (by simp; omega) _)
      (first
        | (go_at_call 102; refine (numbersOf_own _ l _ (HU.out _ (And.left (by assumption))) (by omega)).mono ?_; rintro e w3 ⟨v3, rfl, o3, k3⟩; obtain ⟨A3, n3, c3, rfl⟩ := o3.isSlice; have hS3 := sTurn (by assumption) l0 k3; have hz3 := hS3.1.size; (first | (have bx := boxes1 (undrew k3)) | (have bx := boxes1 k3) | skip))
        | (go_at_call 101; refine (rowsAt_seen _ L _ (l.map (·.1)) _ (HM.out _ (And.left (by assumption))) (by first | exact o3.seen | exact (o3.keep (turn_alloc _ _) (by omega)).seen) HML.out HNO.out).mono ?_; rintro e w4 ⟨A4, n4, c4, rfl, s4, k4⟩; have hS4 := sTurn (by assumption) l0 k4; have hz4 := hS4.1.size; have hk4 := k4.size; (first | (replace bx := Boxed.turn bx k4) | (have bx := boxes1 k4) | skip); (try have bl := Boxed.lt bx))
        | (go_at_call 100; refine (inverseOf_own _ (usedM L l) _ (by first | exact s4 | exact s4.touch (turn_alloc _ _)) (HT.out _ (And.left (by assumption))).1 (HT.out _ (And.left (by assumption))).2).mono ?_; rintro e w5 ⟨v5, vs5, rfl, o5, k5⟩; obtain ⟨A5, n5, c5, rfl⟩ := o5.isSlice; have hS5 := sTurn (by assumption) l0 k5; have hz5 := hS5.1.size; have hk5 := k5.size; (first | (replace bx := Boxed.turn bx k5) | (have bx := boxes1 k5) | skip); (try have bxc := Boxed.cell bx); (try have bxf := Boxed.frozen bx)))
    all_goals (go_wp2_with fail; go_meet; exact ⟨rfl, by first | exact mid_new o5 hS5.1 (by omega) | exact mid_set o5 hS5.1 (by first | omega | (simp <;> omega)) bx (by first | omega | (simp <;> omega)) (by first | omega | (simp <;> omega))⟩)
  case rest =>
    obtain ⟨rfl, B6, A5, n5, c5, vs5, rfl, hB6, bx6, o5, hBx⟩ := hcut
    have HBX := Lib.hid hBx
    have hsx := hBx.size
    have hlx := bx6.lt
    have HBW : Hid (Below w.heap.size w wc) := KW.out.to_below.trans (hBx.mono (by omega))
    clear hBx c1
    by_cases hok : dbOk L l = true
    · have HOK := Lib.hid hok
      have HR := Lib.hid (dbR_yes (n := n) hok)
      have hiv : invOk (usedM L l) = true := hok
      have HIR : Hid (invR (usedM L l) = mkM l.length l.length (invF (usedM L l))) := by
        show invR (usedM L l) = _
        unfold invR
        rw [if_pos hiv, usedM_length]
      have hN : 1 ≤ l.length ∧ l.length ≤ 16 := by
        have h2 : squareM (usedM L l) = true := by simp only [invOk, Bool.and_eq_true] at hiv; exact hiv.1
        have h3 : goodM (usedM L l) = true := by simp only [squareM, Bool.and_eq_true] at h2; exact h2.1
        have h4 := (goodM_iff _).1 h3
        rw [usedM_length] at h4
        exact ⟨h4.1, h4.2.1⟩
      rw [HIR.out] at o5
      rw [hok]
      clear hok hiv
      generalize hNN : l.length = N at *
      have HN := Lib.hid hNN
      clear hNN
      obtain ⟨g5, c5', he5, hg5, hg5', hcp5, hcp5'⟩ := o5.sliceF (by omega)
      simp only [Value.slice.injEq] at he5
      obtain ⟨rfl, hn5, rfl⟩ := he5
      obtain rfl : N = n5 := hn5.symm
      have b8 := Boxed.new wc 23 (.slice none 0 0)
      have k8 := turn_alloc wc (.cells #[.slice none 0 0] 23)
      have z8 := World.size_alloc wc (.cells #[.slice none 0 0] 23)
      have bI := bx6.alloc (.cells #[.slice none 0 0] 23)
      have o8 := o5.keep k8 (by omega)
      go_wp2_with fail
      generalize (wc.alloc (.cells #[.slice none 0 0] 23)) = W8 at *
      have cI := bI.cell
      have HB8 := Lib.hid (k8.base HBW.out (by have := HBW.out.size; omega) (by omega))
      have hS8 : SeenH W8.drew (.slice Au N cu) l := by
        have := HU0.out.below HB8.out
        exact this
      go_region_held3 (fun w' => w'.cell? ⟨B6, 0, none⟩ = some (.slice (some ⟨g5, 0, none⟩) N c5))
        (first | exact cI)
        (first
          | (go_at_call 94; refine (textsOf_own _ l _ hS8 (by rw [HN.out]; omega)).mono ?_; rintro e w9 ⟨v9, rfl, o9, k9⟩; obtain ⟨A9, n9, c9, rfl⟩ := o9.isSlice; replace k9 := undrew k9; replace cI := cell_turn k9 cI (by omega))
          | (go_at_call 103; refine (shardsBy_any _ _ _ _ _).mono ?_; rintro e w' ⟨rfl, rfl⟩; have cI := cell_turn (turn_trans (turn_alloc w9 (.cells #[.slice (some ⟨g5, 0, none⟩) N c5] 39)) (turn_alloc _ (.cells #[.slice A9 n9 c9] 23)) (by omega)) cI (by have := k9.size; omega)))
      have k9s := k9.size
      generalize hn0 : w9.heap.size = h9 at *
      obtain ⟨W0, hW0⟩ : ∃ W0, W0 = ((w9.alloc (.cells #[.slice (some ⟨g5, 0, none⟩) N c5] 39)).alloc (.cells #[.slice A9 n9 c9] 23)) := ⟨_, rfl⟩
      have bM : Boxed W0 h9 39 (.slice (some ⟨g5, 0, none⟩) N c5) := by
        rw [hW0, ← hn0]; exact (Boxed.new w9 _ _).alloc _
      have bT : Boxed W0 (h9 + 1) 23 (.slice A9 n9 c9) := by
        have := Boxed.new (w9.alloc (.cells #[.slice (some ⟨g5, 0, none⟩) N c5] 39)) 23 (.slice A9 n9 c9)
        rw [World.size_alloc, hn0] at this; rw [hW0]; exact this
      have hsz : W0.heap.size = h9 + 2 := by rw [hW0]; simp [hn0]
      have k0 : TurnIn 0 0 w9 W0 := by
        rw [hW0]; exact turn_trans (turn_alloc _ _) (turn_alloc _ _) (by omega)
      have k90 : TurnIn 0 0 W8 W0 := turn_trans k9 k0 (by omega)
      have bS : Boxed W0 wc.heap.size 23 (.slice none 0 0) := Boxed.turn b8 k90
      have hB0 : Below w.heap.size w W0 := k90.base HB8.out (by have := HB8.out.size; omega) (by omega)
      have hM0 := o8.keep k90 (by omega)
      have hT0 := o9.keep k0 (by omega)
      rw [← hW0]
      have HINV : Hid (∀ W W', KeepBut (h9 + 2) wc.heap.size W0 W → (KeepBut (h9 + 2) wc.heap.size W W' ∨ Below W.heap.size W W') → KeepBut (h9 + 2) wc.heap.size W0 W') := fun W W' h h' => by
        rcases h' with h' | h'
        · exact h.trans h'
        · exact h.trans (KeepBut.of_below (h'.mono (by have := h.size; omega)))
      obtain ⟨i0, hi, hz0, hz1', hz2⟩ := info_parts infoStr
      have HM9 := Lib.hid hM0
      have HT9 := Lib.hid hT0
      have HB0 := Lib.hid hB0
      have hbd : wc.heap.size < h9 := by omega
      have hw8 : W8.drew.heap.size = W8.heap.size := rfl
      clear hW0 k0 k90 k9 hM0 hT0 cI o8 o9 b8 bI hn0 hS8
      go_wp2_with fail
      refine (wpIn_wide (n := 5)).1 ?_
      refine wpIn_rangeFunc_ownH rfl (by omega) (gf := 115) (lb := #[.pointer (some ⟨h9, 0, none⟩), .pointer (some ⟨h9 + 1, 0, none⟩)]) rfl trivial (enters_of Tryd.func115 (by kernel_rfl) rfl)
        (shardsBy_stops _ N N n h9 (h9 + 1) (invF (usedM L l)) (l.map (·.2)) (.slice (some ⟨g5, 0, none⟩) N c5) (.slice A9 n9 c9) W0 (KeepBut (h9 + 2) wc.heap.size) (KeepBut (h9 + 2) wc.heap.size W0) HTL.out (by omega) (by omega) (by omega) HTX.out (by omega)
          (fun W hW => ⟨⟨(hW.cell (by omega) (by omega)).trans bM.cell, (hW.cell (by omega) (by omega)).trans bT.cell⟩, ⟨(HM9.out.agree hW.size (fun j h1 h2 => hW.block j (by omega) (by omega))).seen, (HT9.out.agree hW.size (fun j h1 h2 => hW.block j (by omega) (by have : W8.drew.heap.size ≤ j := h1; omega))).seen⟩, HT0.out.below (hW.below HB0.out (by have := HB8.out.size; omega) (by have := HB8.out.size; omega)) h0, by have := hW.size; omega⟩)
          (fun W W' h h' => HINV.out W W' h (.inl h')) (fun W W' h h' => HINV.out W W' h (.inr h')) (fun W h => KeepBut.of_below (h.mono (by omega))) (by omega))
        (fun h h' => h.trans h') (KeepBut.putObj (by omega)) (Below.refl _ _) (fun _ => rfl)
        (fun pre W => (∃ v, Boxed W wc.heap.size 23 v ∧ W.ownsRow (h9 + 2) 9 1 v pre.length (strs (pre.map (·.2))) ∧ True) ∧ Below w.heap.size w W ∧ h9 + 2 ≤ W.heap.size)
        (fun _ _ _ => False)
        (OwnFrom.and (Own.from (holdsRow_own (h9 + 2) wc.heap.size 23 9 1 (fun pre : List Sh => pre.length) (fun pre => strs (pre.map (·.2))) (fun _ _ => True)) _) (OwnFrom.and (ownFrom_below (Nat.le_refl _) (by have := HB0.out.size; omega)) (fun s X Y row hs hg hr => Nat.le_trans hs hg.size)))
        (fun _ _ _ _ _ hs _ _ => hs)
        ⟨⟨_, bS, World.ownsRow_nil _ _ _ _, trivial⟩, HB0.out, by omega⟩
        (fun x a' W => ∃ Bx, h9 + 2 ≤ Bx ∧ W.heap[Bx]? = some (.cells #[.int .i64 x.1, .string (str x.2)] 130 (0, 0)) ∧ a' = { tmps := #[.agg #[.slice A L.length cp], .slice Au N cu, .pointer (some ⟨w.heap.size, 0, none⟩), undef, .slice none 0 0, .bool false,
          .pointer (some ⟨B6, 0, none⟩), .bool true, .pointer (some ⟨wc.heap.size, 0, none⟩), .pointer (some ⟨Bx, 0, none⟩), u10, u11, u12, u13, u14, u15, u16, u17, .bool true, .bool false,
          .agg #[.slice (some ⟨g5, 0, none⟩) N c5], .slice Au N cu, .slice A9 n9 c9, .func (.func 115) #[] #[.pointer (some ⟨h9, 0, none⟩), .pointer (some ⟨h9 + 1, 0, none⟩)], shV x, undef, undef, undef, undef, undef, undef], defers := [] })
        (fun x a' _ X Y row hs hg hr => by
          obtain ⟨Bx, e1, e2, e3⟩ := hs
          refine ⟨Bx, e1, ?_, e3⟩
          rw [hg.block Bx (Array.getElem?_eq_some_iff.1 e2).1 (fun e => by
            obtain ⟨o, ho, hoc⟩ := (hr Bx e.symm).2
            rw [e2] at ho
            cases ho
            simp [Obj.isCells] at hoc)]
          exact e2)
        ?assign ?body ?done ?stop
      case assign =>
        rintro ll pre x W K ⟨⟨v, hv, hrow, _⟩, hBw, hn0⟩ hK
        simp only [shV]
        gi_wp2_with fail
        exact hK _ _ ((KeepsOthers.alloc _ _).from _) (KeepBut.of_below ((Below.refl _ W).alloc hn0 _)) ⟨⟨v, hv.alloc _, hrow.alloc _, trivial⟩, hBw.alloc hBw.size _, by simp; omega⟩ ⟨W.heap.size, hn0, World.alloc_heap_new W _, rfl⟩
      case body =>
        rintro ll pre x a' W hl ⟨rr, hr⟩ ⟨⟨v, hv, hrow, _⟩, hBw, hn0⟩ ⟨Bx, hBx, hX, rfl⟩ hlt
        obtain ⟨no, sx⟩ := x
        have hc := hv.cell
        have cX1 : W.cell? ⟨Bx, 1, none⟩ = some (.string (str sx)) := by simp [World.cell?, hX]
        have HROW := Lib.hid hrow
        clear hrow
        simp only [shV]
        gi_wp2_with (gi_at_builtin; refine wpListIn_append_own _ rfl _ _ 23 rfl (h9 + 2) 9 i0 _ 1 16 Tryd.underlying23 hi hz0 hz1' hz2 rfl (by decide) _ pre.length _ rfl (HROW.out.alloc _) ⟨W.heap.size, 0, none⟩ 1 1 [.string (str sx)] rfl rfl (cell_one_new _ _ _) (by simp [Value.oneCell']) ?b1 ?b2 ?b3 ?_)
        case b1 => unfold maxLen; omega
        case b2 => omega
        case b3 => first | omega | (simp; omega)
        intro v' w3 hown' hgrow _
        obtain ⟨g', cap', rfl⟩ := ownsRow_succ hown'
        obtain ⟨hv1, hv2, hr2, hk2, hb2, hn2'⟩ := collect_step (e0 := w.heap.size) hv (by decide) HROW.out hown' hgrow (by have := HB8.out.size; omega) (by omega) hn0
        have hc1 := hv1.cell
        have hf1 := hv1.frozen
        have hr3 : (w3.setCell ⟨wc.heap.size, 0, none⟩ (.slice (some ⟨g', 0, none⟩) (pre.length + 1) cap')).ownsRow (h9 + 2) 9 1 (.slice (some ⟨g', 0, none⟩) (pre.length + 1) cap') (pre ++ [(no, sx)]).length (strs ((pre ++ [(no, sx)]).map (·.2))) := by
          rw [List.map_append, strs_append]; simpa [strs] using hr2
        clear hr2 hown' hgrow
        gi_wp2_with fail
        exact ⟨hk2.from _, hb2, ⟨⟨_, hv2, hr3, trivial⟩, hb2.below hBw (by have := HB8.out.size; omega) (by have := HB8.out.size; omega), hn2'⟩⟩
      case done =>
        rintro D ys W hD rfl ⟨⟨v, hv, hrow, _⟩, hBw, hn0⟩ hK
        have hc := hv.cell
        go_wp2_with fail
        refine ⟨by simp, .inl ⟨_, _, rfl, run_takeDeferred hK, ?_⟩⟩
        have hown := ownsRow_putObj hrow (.deferred none) hK rfl
        have hBe := hBw.trans (belowK_b (w := w) (Nat.le_refl _) W D _ (.deferred none) (by have := HB0.out.size; omega) hK rfl rfl)
        refine ⟨_, results_tmp2 rfl _ _ _, v, by rw [HOK.out]; rfl, ?_, TurnIn.of_below hBe⟩
        rw [HR.out]
        rw [shardsF_texts] at hown
        refine OwnStrs.of_made (w := w) (own_base ?_ (show w.heap.size ≤ h9 + 2 by have := HB8.out.size; omega))
        rw [rowsT_length]
        simpa using hown
      case stop =>
        rintro D c pre W _ _ h _
        exact h.elim
    · have hok' : dbOk L l = false := by simpa using hok
      have HOK := Lib.hid hok'
      have HR := Lib.hid (dbR_no (n := n) hok')
      rw [hok']
      clear hok hok' o5
      go_wp2_with fail
      refine ⟨_, results_tmp2 rfl _ _ _, .slice none 0 0, by rw [HOK.out]; rfl, ?_, TurnIn.of_below HBW.out⟩
      rw [HR.out]
      exact ⟨World.ownsRow_nil _ _ _ _, Nat.le_refl _, fun g e => by simp [Value.ownBlock] at e⟩

end Go.Proofs.YtjgmegfbfjmnfaaDoor

/- DecodeShards, the program's. -/
namespace G294
open Go Go.RowKit
theorem used_inv {k : Nat} (l : List Sh) (h1 : 1 ≤ k) (h2 : k ≤ 16) : invOk (mkM k k (usedF k l)) = usedOk k l := by
  have e : ent (mkM k k (usedF k l)) = usedF k l := by rw [used_mk]; rfl
  have g : goodM (mkM k k (usedF k l)) = true := good_mkM _ _ _ h1 h2 h1 h2
  unfold invOk squareM rankN usedOk
  rw [g, wid_mkM _ _ _ (by omega), mkM_length, e]
  simp
theorem used_cod {k q : Nat} {l : List Sh} (hk : k ≤ l.length) (hno : ∀ (i : Nat) (s : Sh), l[i]? = some s → 0 ≤ s.1 ∧ s.1 < ((k + q : Nat) : Int)) : usedM (codM k q) (l.take k) = mkM k k (usedF k l) := by
  have h1 : usedM (codM k q) (l.take k) = pickM (mkM (k + q) k (codF k)) (nosK k l) := rfl
  have hl := nosK_length hk
  rw [h1, pickM_mk (fun i hi => by
    rw [hl] at hi
    rw [nosK_get hk hi]
    exact hno i _ (by simp [List.getD, show i < l.length by omega])), hl, used_mk]
  exact mkM_congr fun i j hi hj => by rw [nosK_get hk hi]; rfl
theorem cod_ok {k q : Nat} {l : List Sh} (hk : k ≤ l.length) (h1 : 1 ≤ k) (h2 : k ≤ 16) (hno : ∀ (i : Nat) (s : Sh), l[i]? = some s → 0 ≤ s.1 ∧ s.1 < ((k + q : Nat) : Int)) : dbOk (codM k q) (l.take k) = usedOk k l := by
  unfold dbOk
  rw [used_cod hk hno, used_inv l h1 h2]
theorem cod_R {k q n : Nat} {l : List Sh} (hk : k ≤ l.length) (h1 : 1 ≤ k) (h2 : k ≤ 16) (hno : ∀ (i : Nat) (s : Sh), l[i]? = some s → 0 ≤ s.1 ∧ s.1 < ((k + q : Nat) : Int)) : dbR (codM k q) (l.take k) n = decY k n l := by
  have e : ent (mkM k k (usedF k l)) = usedF k l := by rw [used_mk]; rfl
  have ht : (l.take k).length = k := by simp; omega
  unfold dbR decY
  rw [cod_ok hk h1 h2 hno, ht, used_cod hk hno]
  unfold invF decX
  rw [e, mkM_length]
  rfl
theorem SeenH.take {w : World} {A : Option Addr} {c : Nat} {l : List Sh} (h : SeenH w (.slice A l.length c) l) (k : Nat) (hk : k ≤ l.length) : SeenH w (.slice A k c) (l.take k) := by
  obtain ⟨A', c', e, h1, h2, h3⟩ := h
  simp only [Value.slice.injEq, true_and] at e
  obtain ⟨rfl, rfl⟩ := e
  have ht : (l.take k).length = k := by simp; omega
  refine ⟨A, c, by rw [ht], by omega, h2, fun h0 => ?_⟩
  rw [ht] at h0
  obtain ⟨b, off, e, hb, hc⟩ := h3 (by omega)
  refine ⟨b, off, e, hb, fun i s hs => hc i s ?_⟩
  rw [List.getElem?_take] at hs
  split at hs
  · exact hs
  · cases hs
end G294
namespace Go.Proofs.YtjgmegfbfjmnfaaDoor
open Go.RowKit Go.Shelf G294

end Go.Proofs.YtjgmegfbfjmnfaaDoor

/- remade: the iterator over the shards that EncodeShards makes of DecodeShards. -/
namespace G294
open Go Go.RowKit
/-- the iterator's closure, and what it holds -/
def MadeIt (TM TS E EE ES : TypeId) (g : Nat) (w : World) (l : List Sh) (k m : Nat) (s : Value) (w' : World) : Prop := ∃ Bm Bt A n c At nt ct vs, s = .func (.func g) #[] #[.pointer (some ⟨Bm, 0, none⟩), .pointer (some ⟨Bt, 0, none⟩)] ∧ Boxed w' Bm TM (.slice A n c) ∧ Boxed w' Bt TS (.slice At nt ct) ∧ w.heap.size ≤ Bm ∧ w.heap.size ≤ Bt ∧
  OwnM E EE w' w.heap.size w'.heap.size (.slice A n c) (codM k m) vs ∧ OwnStrs ES w' w.heap.size w'.heap.size (.slice At nt ct) (decR l k m) ∧ TurnIn 0 0 w w'
theorem decR_row {l : List Sh} {k m : Nat} (h : decOk l k m = true) : ∀ j, j < k → ((decR l k m).getD j []).length = lenH l := fun j hj => by
  have hp : preOk l k m = true := by
    unfold decOk at h; simp only [Bool.and_eq_true] at h; exact h.1
  have hu : usedOk k l = true := by rw [decOk_yes hp] at h; exact h
  rw [decR_yes hp, decY_yes hu]
  unfold decX rowsT
  rw [mkM_getD _ _ _ _ hj, mkRow_length]
theorem decR_length {l : List Sh} {k m : Nat} (h : decOk l k m = true) : (decR l k m).length = k := by
  have hp : preOk l k m = true := by
    unfold decOk at h; simp only [Bool.and_eq_true] at h; exact h.1
  have hu : usedOk k l = true := by rw [decOk_yes hp] at h; exact h
  rw [decR_yes hp, decY_yes hu]
  unfold decX
  rw [rowsT_length]
theorem decOk_shape {l : List Sh} {k m : Int} (h : decOk l k m = true) : shapeOk k m = true := by
  unfold decOk preOk at h
  simp only [Bool.and_eq_true] at h
  exact h.1.1.1
theorem decOk_shards {l : List Sh} {k m : Int} (h : decOk l k m = true) : shardsOk l (k + m) = true := by
  unfold decOk preOk at h
  simp only [Bool.and_eq_true] at h
  exact h.1.1.2
end G294
namespace Go.Proofs.YtjgmegfbfjmnfaaDoor
open Go.RowKit Go.Shelf G294

end Go.Proofs.YtjgmegfbfjmnfaaDoor

/- RebuildShard: its mathematics; the model's. -/
namespace G294
open Go Go.RowKit
def rebOk (l : List Sh) (k m no : Int) : Bool := decOk l k m && decide (0 ≤ no ∧ no ≤ k + m - 1)
def rebR (l : List Sh) (k m no : Int) : Sh := if rebOk l k m no = true then (no, comb k.toNat (lenH l) (codF k.toNat no.toNat) (decR l k m)) else (0, [])
theorem rebR_no {l : List Sh} {k m no : Int} (h : rebOk l k m no = false) : rebR l k m no = (0, []) := if_neg (by rw [h]; simp)
theorem rebR_yes {l : List Sh} {k : Nat} {m no : Int} (h : rebOk l k m no = true) : rebR l k m no = (no, comb k (lenH l) (codF k no.toNat) (decR l k m)) := by unfold rebR; rw [if_pos h]; simp
/-- a shard and a bool are returned -/
def RetShOk (w : World) (x : Sh) (ok : Bool) (e : Ending) (w' : World) : Prop := e = .returned (.tuple #[.agg #[.int .i64 x.1, .string (str x.2)], .bool ok]) ∧ TurnIn 0 0 w w'
theorem str_nil' : str [] = ByteArray.mk #[] := rfl
end G294
namespace Go.Proofs.YtjgmegfbfjmnfaaDoor
open Go.RowKit Go.Shelf G294

end Go.Proofs.YtjgmegfbfjmnfaaDoor
