/- Joined texts: Elim2, Grids2, Solved, Grew, MatI2, MatI3, SolveI. -/
import Derived.Test.YtblfobbeojdihaaGreatDoorBd07
import Derived.Test.YtblfobbeojdihaaGreatDoorBd04
import Derived.Test.YtblfobbeojdihaaGreatDoorBd05
import Derived.Test.YtblfobbeojdihaaGreatDoorBd02
import Derived.Test.YtblfobbeojdihaaGreatDoorBd03
import Derived.Deep.QuietTactic
set_option linter.unusedSimpArgs false
set_option linter.unusedVariables false
/- eliminate: the rank and the reduced rows. -/
namespace G294
theorem swF_rows {r c a p : Nat} (E : Ents) (ha : a < r) (hp : p < r) : ∀ i, i < r → (mkM r c (swF a p E)).getD i [] = (mkM r c E).getD (sw a p i) [] := by
  intro i hi
  rw [mkM_getD _ _ _ _ hi, mkM_getD _ _ _ _ (sw_lt ha hp hi)]; rfl
theorem op_eq (E : Ents) (a k p : Nat) (i j : Nat) : clF a (fun i => scF a (ginv (E p k)) (swF a p E) i k) (scF a (ginv (E p k)) (swF a p E)) i j = opF (G294.opAt E a k p) E i j := by
  unfold opF G294.opAt clF
  by_cases h : i = a
  · simp [h]
  · simp [h, scF]
end G294
namespace Go.Proofs.YtblfobbeojdihaaGreatDoor
open Go.RowKit G294

def RetElim (E EE : TypeId) (w : World) (lo hi : Nat) (v : Value) (L : Mat) (n : Nat) (e : Ending) (w' : World) : Prop := ∃ vs, e = .returned (.int .i64 n) ∧ OwnM E EE w' lo hi v L vs ∧ TurnIn lo hi w w'

set_option maxRecDepth 100000 in
set_option maxHeartbeats 4000000 in
theorem eliminate_any (r c n lo hi : Nat) (F : Ents) (v : Value) (vs0 : List Value) (w : World) (hM : OwnM 115 147 w lo hi v (mkM r c F) vs0) (hr1 : 1 ≤ r) (hn : n ≤ c) (hr : r ≤ 1000) (hc : c ≤ 1000) (ht : Tab w) (h0 : 3 < lo) :
    Calls Tryz.prog 101 #[v, .int .i64 n] w (RetElim 115 147 w lo hi v (mkM r c (est F r n).1) (est F r n).2) := by
  obtain ⟨g, cp, rfl, hg1, hg2, hg3, hg4⟩ := hM.sliceF (by omega)
  have HM0 := Lib.hid hM
  have HT := Lib.hid ht
  have htop := hM.top
  have hm1 := methInverse
  unfold maxLen at hg4
  clear hM ht
  go_enter Tryz.func101, Tryz.ntmps101
  go_wp2_with fail
  go_loopw [5, 10] (fun q i wr => ∃ (k a : Nat) (E : Ents) (vs : List Value), k ≤ n ∧ a ≤ r ∧ i = .int .i64 k ∧ q = .int .i64 a ∧ Hid (est F r k = (E, a)) ∧ Hid (OwnM 115 147 wr lo hi (.slice (some ⟨g, 0, none⟩) r cp) (mkM r c E) vs) ∧ Hid (TurnIn lo hi w wr)) (fun _ i _ => n - (intOf i).toNat)
  case atStart => exact ⟨0, 0, F, vs0, Nat.zero_le _, Nat.zero_le _, rfl, rfl, rfl, HM0, Lib.hid ⟨rfl, rfl, rfl, Nat.le_refl _, fun _ _ _ => rfl⟩⟩
  case round =>
    obtain ⟨k, a, E, vs, hk, har, rfl, rfl, HE, HM, HK⟩ := hrel
    by_cases hlt : k < n
    · have hki : (k : Int) < (n : Int) := by omega
      have hseen := Lib.hid HM.out.seen
      have htr : Tab wr := fun i hi => (World.cell?_of_block (HK.out.block 3 (by omega) (by omega))).trans (HT.out i hi)
      have HTR := Lib.hid htr
      clear htr
      go_wp2_with fail
      refine (pivotBelow_any r c a k E _ _ hseen.out hr1 hr hc har (by omega)).mono ?_
      rintro e w' ⟨rfl, rfl⟩
      rcases piv_cases E r a k with ⟨hp, _⟩ | ⟨p, hp, hap, hpr, hne, _⟩
      · rw [hp]
        have HE2 : Hid (est F r (k + 1) = (E, a)) := by
          show est F r (k + 1) = (E, a)
          rw [est_none (by rw [HE.out]; exact hp)]; exact HE.out
        clear hp
        unfold pivV
        go_wp2_with fail
        go_roundw
        case rel => exact ⟨k + 1, a, E, vs, by omega, har, by go_num, rfl, HE2, HM, HK⟩
        case measure => simp [intOf]; omega
      · rw [hp]
        have HE2 : Hid (est F r (k + 1) = (opF (G294.opAt E a k p) E, a + 1)) := by
          show est F r (k + 1) = _
          rw [est_some (p := p) (by rw [HE.out]; exact hp), HE.out]
        have har' : a < r := by omega
        obtain ⟨ba, ca, hua, _, _, _, _, _, _, _⟩ := HM.out.rowF a har' (by omega)
        obtain ⟨bp, cpp, hup, _, _, _, _, _, _, _⟩ := HM.out.rowF p hpr (by omega)
        have hca := HM.out.cellAt hua
        have hcp := HM.out.cellAt hup
        have hfa := HM.out.frozenAt a
        have hfp := HM.out.frozenAt p
        have hsw := (HM.out.swap (p := a) (q := p) (by simp) hua hup (L' := mkM r c (swF a p E)) (by simp) (fun i hi => swF_rows E har' hpr i (by simpa using hi)))
        have hrow : wr.ownsRow lo 147 1 (.slice (some ⟨g, 0, none⟩) r cp) r vs := by simpa using HM.out.row
        have hst := (hrow.stored a (.slice (some ⟨bp, 0, none⟩) c cpp)).1
        obtain ⟨z, hz⟩ : ∃ z, (wr.setCell ⟨g, a, none⟩ (.slice (some ⟨bp, 0, none⟩) c cpp)).cell? ⟨g, p, none⟩ = some z := by
          rw [hst.cellAt p (by omega)]
          exact ⟨_, List.getElem?_eq_getElem (by have := hst.1; omega)⟩
        have HSW := Lib.hid hsw
        have ha0 : (0 : Int) ≤ (a : Int) := Int.natCast_nonneg _
        have hai : (a : Int) < (r : Int) := by omega
        have hp0 : (0 : Int) ≤ (p : Int) := Int.natCast_nonneg _
        have hpi : (p : Int) < (r : Int) := by omega
        clear hp hne hsw hrow hst
        unfold pivV
        go_wp2_with fail
        go_region
        have HSW5 := Lib.hid (HSW.out.drewN 1)
        have hK5 : TurnIn lo hi w ((wr.setCell ⟨g, a, none⟩ (.slice (some ⟨bp, 0, none⟩) c cpp)).setCell ⟨g, p, none⟩ (.slice (some ⟨ba, 0, none⟩) c ca)).drew := by
          have t := turn_trans (turn_trans HK.out (turn_setCell wr g a (.slice (some ⟨bp, 0, none⟩) c cpp)) (by omega)) (turn_setCell _ g p (.slice (some ⟨ba, 0, none⟩) c ca)) (by omega)
          exact ⟨t.os, t.tape, t.output, t.size, t.block⟩
        change Hid (OwnM 115 147 ((wr.setCell ⟨g, a, none⟩ (.slice (some ⟨bp, 0, none⟩) c cpp)).setCell ⟨g, p, none⟩ (.slice (some ⟨ba, 0, none⟩) c ca)).drew lo hi (.slice (some ⟨g, 0, none⟩) r cp) (mkM r c (swF a p E)) ((vs.set a (.slice (some ⟨bp, 0, none⟩) c cpp)).set p (.slice (some ⟨ba, 0, none⟩) c ca))) at HSW5
        generalize ((wr.setCell ⟨g, a, none⟩ (.slice (some ⟨bp, 0, none⟩) c cpp)).setCell ⟨g, p, none⟩ (.slice (some ⟨ba, 0, none⟩) c ca)).drew = w5 at *
        generalize (vs.set a (.slice (some ⟨bp, 0, none⟩) c cpp)).set p (.slice (some ⟨ba, 0, none⟩) c ca) = vs5 at *
        have HK5 := Lib.hid hK5
        obtain ⟨b5, c5, hu5, _, _, _, _, e5, _, hcell5⟩ := HSW5.out.rowF a har' (by omega)
        have hc5 := HSW5.out.cellAt hu5
        have hx5 := hcell5 k (by omega)
        have ee : swF a p E a k = E p k := by simp [swF, sw]
        rw [ee] at hx5
        have HU5 := Lib.hid hu5
        have htr5 : Tab w5 := fun i hi => (World.cell?_of_block (HK5.out.block 3 (by omega) (by omega))).trans (HT.out i hi)
        have htd5 : Tab w5.drew := htr5
        have HTR5 := Lib.hid htd5
        have hkc : (k : Int) < (c : Int) := by omega
        have hk0 : (0 : Int) ≤ (k : Int) := Int.natCast_nonneg _
        unfold maxLen at e5
        clear hK5 hcell5 hu5 ee htr5 htd5 hca hcp hfa hfp hz hua hup HSW
        go_wp2_with fail
        refine wp_region_still_tail 13 (by kernel_rfl) (by kernel_rfl) ?_
        simp only [List.take_succ_cons, List.take_zero, List.drop_succ_cons, List.drop_zero]
        repeat (first | still_step | still_call (stilly (fbInverse_any (E p k) _ HTR5.out)))
        refine wpStill_nil ?_
        go_wp2_with fail
        refine (scaleRow_any r c a lo hi (swF a p E) (ginv (E p k)) _ _ vs5 w5.drew (HSW5.out.drewN 1) har' HU5.out (by omega) hc HTR5.out h0).mono ?_
        rintro e w6 ⟨rfl, hM6, hK6⟩
        have hK6' : TurnIn lo hi w w6 := turn_trans HK5.out (⟨hK6.os, hK6.tape, hK6.output, hK6.size, hK6.block⟩ : TurnIn lo hi w5 w6) (by omega)
        have HM6 := Lib.hid hM6
        have HK6 := Lib.hid hK6'
        have htr6 : Tab w6 := fun i hi => (World.cell?_of_block (HK6.out.block 3 (by omega) (by omega))).trans (HT.out i hi)
        have HTR6 := Lib.hid htr6
        clear hM6 hK6 hK6' htr6 hc5 hx5
        go_wp2_with fail
        refine (clearColumn_any r c a k lo hi (scF a (ginv (E p k)) (swF a p E)) _ vs5 w6 HM6.out har' (by omega) hr hc HTR6.out h0).mono ?_
        rintro e w7 ⟨rfl, hM7, hK7⟩
        have HM7 := Lib.hid (hM7.congr (L' := mkM r c (opF (G294.opAt E a k p) E)) (mkM_congr fun i j _ _ => op_eq E a k p i j))
        have HK7 := Lib.hid (turn_trans HK6.out hK7 (by omega))
        clear hM7 hK7
        go_wp2_with fail
        go_roundw
        case rel => exact ⟨k + 1, a + 1, _, vs5, by omega, by omega, by go_num, by go_num, HE2, HM7, HK7⟩
        case measure => simp [intOf]; omega
    · obtain rfl : k = n := by omega
      have hki : ¬ (k : Int) < (k : Int) := by omega
      go_wp2_with fail
      go_ret
      exact ⟨vs, by rw [HE.out]; rfl, by rw [HE.out]; exact HM.out, HK.out⟩
end Go.Proofs.YtblfobbeojdihaaGreatDoor

/- sideBySide, multiplied, solved, fieldGrid, matrixOf. -/
namespace Go.Proofs.YtblfobbeojdihaaGreatDoor
open Go.RowKit G294

set_option maxRecDepth 100000 in
set_option maxHeartbeats 1000000 in
theorem sideAt (r n c Bw Bl Br : Nat) (F G : Ents) (v u : Value) (w : World) (hBw : Bw < w.heap.size) (hBl : Bl < w.heap.size) (hBr : Br < w.heap.size) (hn : n ≤ 1000) (hc : c ≤ 1000)
    (hw : w.cell? ⟨Bw, 0, none⟩ = some (.int .i64 n)) (hv : w.cell? ⟨Bl, 0, none⟩ = some v) (hu : w.cell? ⟨Br, 0, none⟩ = some u) (hs : SeenM w v (mkM r n F)) (ht : SeenM w u (mkM r c G)) :
    GivesAt Tryz.prog 109 #[.pointer (some ⟨Bw, 0, none⟩), .pointer (some ⟨Bl, 0, none⟩), .pointer (some ⟨Br, 0, none⟩)] r (n + c) (hcF n F G) w := by
  intro W i j hb hi hj
  have hw' := (hb.cell (p := ⟨Bw, 0, none⟩) hBw).trans hw
  have hv' := (hb.cell (p := ⟨Bl, 0, none⟩) hBl).trans hv
  have hu' := (hb.cell (p := ⟨Br, 0, none⟩) hBr).trans hu
  by_cases hjn : j < n
  · obtain ⟨bb, off, cp, b', off', c', rfl, hl1, h1, h2, h3, hl2, h4⟩ := (hs.below hb).cellF i j hi hjn
    have HF : Hid (hcF n F G i j = F i j) := if_pos hjn
    unfold maxLen at hl1 hl2
    have hi' : (i : Int) < (r : Int) := by omega
    have hj' : (j : Int) < (n : Int) := by omega
    clear hw hv hu hs ht hu'
    go_enter Tryz.func109, Tryz.ntmps109
    go_wp2_with fail
    go_ret
    exact ⟨by rw [HF.out]; rfl, 0, rfl⟩
  · obtain ⟨d, rfl⟩ : ∃ d, j = n + d := ⟨j - n, by omega⟩
    obtain ⟨bb, off, cp, b', off', c', rfl, hl1, h1, h2, h3, hl2, h4⟩ := (ht.below hb).cellF i d hi (by omega)
    have HF : Hid (hcF n F G i (n + d) = G i d) := by show hcF n F G i (n + d) = G i d; unfold hcF; rw [if_neg (by omega)]; congr 1; omega
    unfold maxLen at hl1 hl2
    have hi' : (i : Int) < (r : Int) := by omega
    have hi0 : (0 : Int) ≤ (i : Int) := Int.natCast_nonneg _
    have hd0 : (0 : Int) ≤ (d : Int) := Int.natCast_nonneg _
    have hd' : (d : Int) < (c : Int) := by omega
    obtain ⟨x, hx⟩ : ∃ x, x = n + d := ⟨_, rfl⟩
    rw [← hx] at HF hjn ⊢
    have hxx : IntKind.i64.wrap ((x : Int) - (n : Int)) = (d : Int) := by rw [IntWalk.i64_in _ (by omega)]; omega
    have hj' : ¬ (x : Int) < (n : Int) := by omega
    clear hw hv hu hs ht hv' hx hjn
    go_enter Tryz.func109, Tryz.ntmps109
    go_wp2_with fail
    go_quiet (fail)
    go_wp2_with fail
    go_ret
    exact ⟨by rw [HF.out]; rfl, _, rfl⟩

set_option maxRecDepth 100000 in
set_option maxHeartbeats 1000000 in
theorem solvedAt (r n c Bb Bn : Nat) (F : Ents) (v : Value) (w : World) (hBb : Bb < w.heap.size) (hBn : Bn < w.heap.size) (hn : n ≤ 1000) (hc : c ≤ 1000)
    (hv : w.cell? ⟨Bb, 0, none⟩ = some v) (hw : w.cell? ⟨Bn, 0, none⟩ = some (.int .i64 n)) (hs : SeenM w v (mkM r (n + c) F)) :
    GivesAt Tryz.prog 102 #[.pointer (some ⟨Bb, 0, none⟩), .pointer (some ⟨Bn, 0, none⟩)] r c (fun i j => F i (n + j)) w := by
  intro W i j hb hi hj
  have hw' := (hb.cell (p := ⟨Bn, 0, none⟩) hBn).trans hw
  have hv' := (hb.cell (p := ⟨Bb, 0, none⟩) hBb).trans hv
  obtain ⟨x, hx⟩ : ∃ x, x = n + j := ⟨_, rfl⟩
  obtain ⟨y, hy⟩ : ∃ y, y = n + c := ⟨_, rfl⟩
  rw [← hy] at hs
  obtain ⟨bb, off, cp, b', off', c', rfl, hl1, h1, h2, h3, hl2, h4⟩ := (hs.below hb).cellF i x hi (by omega)
  have HF : Hid (F i (n + j) = F i x) := by show F i (n + j) = F i x; rw [hx]
  unfold maxLen at hl1 hl2
  have hi' : (i : Int) < (r : Int) := by omega
  have hi0 : (0 : Int) ≤ (i : Int) := Int.natCast_nonneg _
  have hx0 : (0 : Int) ≤ (x : Int) := Int.natCast_nonneg _
  have hx' : (x : Int) < (y : Int) := by omega
  have hxx : IntKind.i64.wrap ((n : Int) + (j : Int)) = (x : Int) := by rw [IntWalk.i64_in _ (by omega)]; omega
  clear hw hv hs hx hy
  go_enter Tryz.func102, Tryz.ntmps102
  go_wp2_with fail
  go_quiet (fail)
  go_wp2_with fail
  go_ret
  exact ⟨by rw [HF.out]; rfl, _, rfl⟩

set_option maxHeartbeats 1000000 in
theorem fieldGrid_own (r c : Nat) (F : Ents) (v : Value) (w : World) (hs : SeenM w v (mkM r c F)) (hr : 1 ≤ r) (hr2 : r ≤ 1000) (hc : c ≤ 1000) :
    Calls Tryz.prog 85 #[.agg #[v]] w (RetM 115 147 w (mkM r c F)) := by
  have k1 : TurnIn 0 0 w (w.alloc (.cells #[v] 70)) := turn_alloc _ _
  have HS := Lib.hid (hs.touch k1)
  have K1 := Lib.hid k1
  obtain ⟨A, cp, hvv, _, _⟩ := hs.len
  rw [mkM_length] at hvv
  subst hvv
  clear hs k1
  go_enter Tryz.func85, Tryz.ntmps85
  go_wp2_with fail
  refine (convertedB r c F _ _ HS.out hr hr2 hc).mono ?_
  rintro e w' ⟨v', vs', rfl, hM, ht⟩
  go_wp2_with fail
  go_ret
  exact RetM.base ⟨_, _, rfl, hM, ht⟩ K1.out.to_below

set_option maxHeartbeats 1000000 in
theorem matrixOf_own (r c : Nat) (F : Ents) (v : Value) (w : World) (hs : SeenM w v (mkM r c F)) (hr : 1 ≤ r) (hr2 : r ≤ 1000) (hc : c ≤ 1000) :
    Calls Tryz.prog 86 #[v] w (RetMat 5 22 w (mkM r c F)) := by
  have k1 : TurnIn 0 0 w (w.alloc (.cells #[.slice none 0 0] 70)) := turn_alloc _ _
  have HS := Lib.hid (hs.touch k1)
  have K1 := Lib.hid k1
  obtain ⟨A, cp, hvv, _, _⟩ := hs.len
  rw [mkM_length] at hvv
  subst hvv
  clear hs k1
  go_enter Tryz.func86, Tryz.ntmps86
  go_wp2_with fail
  refine (convertedF r c F _ _ HS.out hr hr2 hc).mono ?_
  rintro e w' ⟨v', vs', rfl, hM, ht⟩
  obtain ⟨A', n', c', rfl⟩ := hM.isSlice
  have hq := cell_turn ht (B := w.heap.size) (o := 0) (x := .slice none 0 0) (by simp) (by simp)
  have hqf := frozen_turn ht (B := w.heap.size) (o := 0) (x := false) (by simp) (by simp)
  have HF := Lib.hid (ret_store K1.out.to_below hM ht w.heap.size 0 (Nat.le_refl _) (by simp) (.slice A' n' c'))
  clear hM ht
  go_wp2_with fail
  refine bodyPost_ret (v := .agg #[.slice A' n' c']) (by simp [results, Tryz.results86, go_sem, hq]) rfl ?_
  exact ⟨_, vs', rfl, HF.out.1, HF.out.2⟩
end Go.Proofs.YtblfobbeojdihaaGreatDoor

/- sideBySide and solved. -/
namespace G294
def solB (F : Ents) (n : Nat) : Bool := decide ((est F n n).2 = n)
end G294
namespace Go.Proofs.YtblfobbeojdihaaGreatDoor
open Go.RowKit G294

set_option maxRecDepth 100000 in
set_option maxHeartbeats 1000000 in
theorem sideBySide_own (r n c : Nat) (F G : Ents) (v u : Value) (w : World) (hs : SeenM w v (mkM r n F)) (hu : SeenM w u (mkM r c G)) (hr1 : 1 ≤ r) (hr : r ≤ 1000) (hn : n ≤ 400) (hc : c ≤ 400) :
    Calls Tryz.prog 100 #[v, u] w (RetM 115 147 w (mkM r (n + c) (hcF n F G))) := by
  have k3 : TurnIn 0 0 w (((w.alloc (.cells #[v] 113)).alloc (.cells #[u] 113)).alloc (.cells #[.int .i64 n] 3)) := turn_trans (turn_trans (turn_alloc _ _) (turn_alloc _ _) (by omega)) (turn_alloc _ _) (by omega)
  have z3 : (((w.alloc (.cells #[v] 113)).alloc (.cells #[u] 113)).alloc (.cells #[.int .i64 n] 3)).heap.size = w.heap.size + 3 := by simp
  have q1 : (((w.alloc (.cells #[v] 113)).alloc (.cells #[u] 113)).alloc (.cells #[.int .i64 n] 3)).cell? ⟨w.heap.size, 0, none⟩ = some v := cell_turn (turn_trans (turn_alloc _ _) (turn_alloc _ _) (by omega)) (show (w.alloc (.cells #[v] 113)).cell? ⟨w.heap.size, 0, none⟩ = some v by simp) (by simp)
  have q2 : (((w.alloc (.cells #[v] 113)).alloc (.cells #[u] 113)).alloc (.cells #[.int .i64 n] 3)).cell? ⟨w.heap.size + 1, 0, none⟩ = some u := alloc_mid_cell _ _ _ _ _
  have q3 : (((w.alloc (.cells #[v] 113)).alloc (.cells #[u] 113)).alloc (.cells #[.int .i64 n] 3)).cell? ⟨w.heap.size + 1 + 1, 0, none⟩ = some (.int .i64 n) := alloc_last_cell _ _ _ _ _
  have HG := Lib.hid (sideAt r n c (w.heap.size + 1 + 1) w.heap.size (w.heap.size + 1) F G v u _ (by omega) (by omega) (by omega) (by omega) (by omega) q3 q1 q2 (hs.touch k3) (hu.touch k3))
  obtain ⟨bb, off, cp, A1, c1, rfl, hl1, hbb, hrow0, hl2, _⟩ := hs.rowF 0 (by omega)
  obtain ⟨bb2, off2, cp2, A2, c2, rfl, hl3, hbb2, hrow2, hl4, _⟩ := hu.rowF 0 (by omega)
  rw [Nat.add_zero] at hrow0 hrow2
  have q5 := cell_turn k3 hrow2 hbb2
  have k2 : TurnIn 0 0 w ((w.alloc (.cells #[.slice (some ⟨bb, off, none⟩) r cp] 113)).alloc (.cells #[.slice (some ⟨bb2, off2, none⟩) r cp2] 113)) := turn_trans (turn_alloc _ _) (turn_alloc _ _) (by omega)
  have q6 := cell_turn k2 hrow0 hbb
  have K3 := Lib.hid k3
  have eg := enters_of Tryz.func109 (by kernel_rfl) rfl
  have hpos : 0 < r := hr1
  unfold maxLen at hl1 hl2 hl3 hl4
  clear hs hu k3 k2
  go_enter Tryz.func100, Tryz.ntmps100
  go_wp2_with fail
  generalize (((w.alloc (.cells #[.slice (some ⟨bb, off, none⟩) r cp] 113)).alloc (.cells #[.slice (some ⟨bb2, off2, none⟩) r cp2] 113)).alloc (.cells #[.int .i64 n] 3)) = w2 at *
  have Z3 := Lib.hid z3
  have hsum : IntKind.i64.wrap ((n : Int) + (c : Int)) = ((n + c : Nat) : Int) := by rw [IntWalk.i64_in _ (by omega)]; omega
  clear z3 q6
  go_region_held3 (fun w' => w'.cell? ⟨w.heap.size, 0, none⟩ = some (.slice (some ⟨bb, off, none⟩) r cp) ∧ w'.cell? ⟨w.heap.size + 1, 0, none⟩ = some (.slice (some ⟨bb2, off2, none⟩) r cp2) ∧ w'.cell? ⟨w.heap.size + 1 + 1, 0, none⟩ = some (.int .i64 n) ∧ w'.cell? ⟨bb2, off2, none⟩ = some (.slice A2 c c2))
    (first | exact ⟨q1, q2, q3, q5⟩ | exact ⟨y1, y2, y3, y5⟩)
    ((go_at_call 82; refine (newGridF r (n + c) _ _ _ w2.drew eg (HG.out.later (Below.refl _ _).drew) hr (by omega)).mono ?_; rintro e w' ⟨v', vs', rfl, hM, ht⟩; have z3 := Z3.out; have y1 := cell_turn ht (show w2.drew.cell? _ = _ from q1) (show _ < w2.heap.size by omega); have y2 := cell_turn ht (show w2.drew.cell? _ = _ from q2) (show _ < w2.heap.size by omega); have y3 := cell_turn ht (show w2.drew.cell? _ = _ from q3) (show _ < w2.heap.size by omega); have y5 := cell_turn ht (show w2.drew.cell? _ = _ from q5) (show _ < w2.heap.size by omega); clear z3))
  go_wp2_with fail
  go_ret
  exact RetM.base ⟨_, _, rfl, hM, ht⟩ K3.out.to_below.drew

def RetGridOk (E EE : TypeId) (w : World) (L : Mat) (ok : Bool) (e : Ending) (w' : World) : Prop := ∃ v vs, e = .returned (.tuple #[v, .bool ok]) ∧ OwnM E EE w' w.heap.size w'.heap.size v L vs ∧ TurnIn 0 0 w w'
abbrev solOk (F : Ents) (n : Nat) : Bool := solB F n
def solL (F G : Ents) (n c : Nat) : Mat := if solOk F n = true then mkM n c (bst F G n n) else []

set_option maxRecDepth 100000 in
set_option maxHeartbeats 2000000 in
theorem solved_own (n c : Nat) (F G : Ents) (v u : Value) (w : World) (hs : SeenM w v (mkM n n F)) (hu : SeenM w u (mkM n c G)) (hn1 : 1 ≤ n) (hn : n ≤ 400) (hc : c ≤ 400) (htab : Tab w) (h0 : 3 < w.heap.size) :
    Calls Tryz.prog 84 #[v, u] w (RetGridOk 115 147 w (solL F G n c) (solOk F n)) := by
  have k1 : TurnIn 0 0 w (w.alloc (.cells #[.int .i64 n] 3)) := turn_alloc _ _
  have q1 : (w.alloc (.cells #[.int .i64 n] 3)).cell? ⟨w.heap.size, 0, none⟩ = some (.int .i64 n) := by simp
  have z1 : (w.alloc (.cells #[.int .i64 n] 3)).heap.size = w.heap.size + 1 := by simp
  have HS := Lib.hid (hs.touch k1)
  have HU := Lib.hid (hu.touch k1)
  have HT := Lib.hid (htab.below k1.to_below h0)
  have hle := est_le F n n
  obtain ⟨A, cp, hvv, hl1, hl1'⟩ := hs.len
  rw [mkM_length] at hvv hl1
  obtain ⟨bb2, off2, cp2, A2, c2, rfl, hl3, hbb2, hrow2, hl4, _⟩ := hu.rowF 0 (by omega)
  rw [Nat.add_zero] at hrow2
  subst hvv
  have HR2 := Lib.hid hrow2
  have K1 := Lib.hid k1
  have hpos : 0 < n := hn1
  unfold maxLen at hl1' hl3 hl4
  clear hs hu htab k1 hrow2
  go_enter Tryz.func84, Tryz.ntmps84
  go_wp2_with fail
  generalize (w.alloc (.cells #[.int .i64 n] 3)) = w1 at *
  refine (sideBySide_own n n c F G _ _ _ HS.out HU.out hn1 (by omega) hn hc).mono ?_
  rintro e w2 ⟨y, vs, rfl, hM, ht⟩
  obtain ⟨g, cpb, rfl, hg1, hg2, hg3, hg4⟩ := hM.sliceF hn1
  have s2 := ht.size
  have p1 := cell_turn ht q1 (by omega)
  have k3 : TurnIn 0 0 w2 (w2.alloc (.cells #[.slice (some ⟨g, 0, none⟩) n cpb] 113)) := turn_alloc _ _
  have z3 : (w2.alloc (.cells #[.slice (some ⟨g, 0, none⟩) n cpb] 113)).heap.size = w2.heap.size + 1 := by simp
  have p2 := cell_turn k3 p1 (by omega)
  have p3 : (w2.alloc (.cells #[.slice (some ⟨g, 0, none⟩) n cpb] 113)).cell? ⟨w2.heap.size, 0, none⟩ = some (.slice (some ⟨g, 0, none⟩) n cpb) := by simp
  have HM := Lib.hid (hM.keep k3 (by omega))
  have K3 := Lib.hid (turn_trans ht k3 (by omega))
  have hT3 : Tab (w2.alloc (.cells #[.slice (some ⟨g, 0, none⟩) n cpb] 113)) := HT.out.below K3.out.to_below (by omega)
  have HT3 := Lib.hid hT3
  have Z3 := Lib.hid z3
  have hsz3 : w2.heap.size < (w2.alloc (.cells #[.slice (some ⟨g, 0, none⟩) n cpb] 113)).heap.size := by omega
  unfold maxLen at hg4
  clear hM ht k3 z3 p1 hT3 q1
  go_wp2_with fail
  generalize hw3 : (w2.alloc (.cells #[.slice (some ⟨g, 0, none⟩) n cpb] 113)) = w3 at *
  clear hw3
  have hgl : 3 < w1.heap.size := by omega
  go_region_held3 (fun w' => w'.cell? ⟨w.heap.size, 0, none⟩ = some (.int .i64 n) ∧ w'.cell? ⟨w2.heap.size, 0, none⟩ = some (.slice (some ⟨g, 0, none⟩) n cpb))
    (first | exact ⟨p2, p3⟩ | exact ⟨y2, y3⟩)
    ((go_at_call 101; refine (eliminate_any n (n + c) n _ _ (hcF n F G) _ vs w3.drew (HM.out.drewN 1) hn1 (by omega) (by omega) (by omega) HT3.out hgl).mono ?_; rintro e w4 ⟨vs4, rfl, hM4, hK4⟩; have y2 := (World.cell?_of_block (hK4.block w.heap.size (show w.heap.size < w3.heap.size by omega) (by omega))).trans (show w3.drew.cell? _ = _ from p2); have y3 := (World.cell?_of_block (hK4.block w2.heap.size (show w2.heap.size < w3.heap.size by omega) (by omega))).trans (show w3.drew.cell? _ = _ from p3)))
  rw [est_hc F G n n n (Nat.le_refl _)] at hM4 ⊢
  dsimp only at hM4 ⊢
  have kW4 : TurnIn 0 0 w w4 := turn_trans (turn_trans K1.out K3.out (by omega)) (⟨hK4.os, hK4.tape, hK4.output, hK4.size, hK4.block⟩ : TurnIn w1.heap.size w2.heap.size w3 w4) (by omega)
  have KW4 := Lib.hid kW4
  have s4 := hK4.size
  have s4' : w3.heap.size ≤ w4.heap.size := s4
  have hr4 := cell_turn kW4 HR2.out hbb2
  have HOK : Hid (solB F n = decide ((est F n n).2 = n)) := rfl
  have HLL : Hid (∀ b, solOk F n = b → solL F G n c = if b = true then mkM n c (bst F G n n) else []) := fun b h => by unfold solL; rw [h]
  have HG := Lib.hid (solvedAt n n c w2.heap.size w.heap.size (hcF n (est F n n).1 (bst F G n n)) _ w4 (by omega) (by omega) (by omega) (by omega) y3 y2 hM4.seen)
  have eg := enters_of Tryz.func102 (by kernel_rfl) rfl
  clear hM4 hK4 kW4 s4 p2 p3
  generalize (est F n n).2 = rk at *
  by_cases hrk : rk < n
  · have HO : Hid (solOk F n = false) := by show solB F n = false; rw [HOK.out]; simp; omega
    go_wp2_with fail
    go_ret2
    exact ⟨_, [], by rw [HO.out]; rfl, by rw [HLL.out false HO.out]; exact OwnM.nil _ _ _ _, KW4.out⟩
  · have HO : Hid (solOk F n = true) := by show solB F n = true; rw [HOK.out]; simp; omega
    have hd : decide (rk < n) = false := by simpa using hrk
    go_wp2_with fail
    go_region_held3 (fun w' => w'.cell? ⟨w.heap.size, 0, none⟩ = some (.int .i64 n) ∧ w'.cell? ⟨bb2, off2, none⟩ = some (.slice A2 c c2))
      (first | exact ⟨y2, hr4⟩ | exact ⟨x2, x3⟩)
      ((go_at_call 82; refine (newGridF n c _ _ _ w4.drew eg (HG.out.later (Below.refl _ _).drew) (by omega) (by omega)).mono ?_; rintro e w5 ⟨v5, vs5, rfl, hM5, ht5⟩; have x2 := cell_turn ht5 (show w4.drew.cell? _ = _ from y2) (show _ < w4.heap.size by omega); have x3 := cell_turn ht5 (show w4.drew.cell? _ = _ from hr4) (show _ < w4.heap.size by omega)))
    go_wp2_with fail
    go_ret2
    have hb5 := KW4.out.to_below.drew
    refine ⟨v5, vs5, by rw [HO.out]; rfl, ?_, turn_of_below hb5 ht5⟩
    rw [HLL.out true HO.out, if_pos rfl]
    exact (hM5.congr (mkM_congr fun i j _ _ => by unfold hcF; rw [if_neg (by omega)]; congr 1; omega)).wider hb5.size (Nat.le_refl _) (Nat.le_refl _)
end Go.Proofs.YtblfobbeojdihaaGreatDoor

/- Regions that draw their order, whose operations read and whose callees lay new memory alone and answer the same in all such worlds. -/
namespace G294
open Go Go.RowKit
structure Grew (w : World) where
  at_ : World
  old : Below w.heap.size w at_
instance (w : World) : Inhabited (Grew w) := ⟨⟨w, Below.refl _ _⟩⟩
instance (w : World) : Nonempty (Grew w) := ⟨default⟩
theorem wp_region_grew {P : Program} {id : Nat} {Q : Exit → Act → World → Prop} {a : Act} {w : World} {l : List Oper} (hm : P.follows .mixedOrders = true) (hB : Region.lexB .any l.toArray = true)
    (h : wpQuiet P l.toArray (fun w' => ∃ p : Grew w, w' = p.at_) (fun a' => ∀ w', (∃ p : Grew w, w' = p.at_) → Q .normal a' w') l a) : (Code.region id l.toArray true).wp P Q a w :=
  wp_region_quiet (C := fun w' => ∃ p : Grew w, w' = p.at_) hm hB ⟨⟨w.drew, (Below.refl _ _).drew⟩, rfl⟩ (by simpa using h)
theorem grew_bool {P : Program} {f : FuncId} {args : Array Value} {w : World} {p : Grew w} {b : Bool} (h : Calls P f args p.at_ (RetBool p.at_ b)) :
    Calls P f args p.at_ fun e w'' => e = .returned (.bool b) ∧ ∃ q : Grew w, w'' = q.at_ :=
  h.mono fun _ w'' ⟨he, ht⟩ => ⟨he, ⟨w'', ht.base p.old p.old.size (by omega)⟩, rfl⟩
theorem grew_cell {w : World} {B o : Nat} {x : Value} (h : w.cell? ⟨B, o, none⟩ = some x) (hB : B < w.heap.size) (p : Grew w) : p.at_.cell? ⟨B, o, none⟩ = some x := (p.old.cell (p := ⟨B, o, none⟩) hB).trans h
end G294

/- The program's RankOf and InverseOf. -/
namespace G294
theorem int_beq (a b : Nat) : ((a : Int) == (b : Int)) = decide (a = b) := by
  by_cases h : a = b
  · subst h; simp
  · rw [decide_eq_false h, beq_eq_false_iff_ne]; omega
end G294
namespace Go.Proofs.YtblfobbeojdihaaGreatDoor
open Go.RowKit G294

set_option maxRecDepth 100000 in
set_option maxHeartbeats 1000000 in
theorem squareMatrix_any (v : Value) (L : Mat) (w : World) (hs : SeenM w v L) : Calls Tryz.prog 81 #[.agg #[v]] w (RetBool w (squareM L)) := by
  have k1 : TurnIn 0 0 w (w.alloc (.cells #[v] 70)) := turn_alloc _ _
  have q1 : (w.alloc (.cells #[v] 70)).cell? ⟨w.heap.size, 0, none⟩ = some v := by simp
  have z1 : (w.alloc (.cells #[v] 70)).heap.size = w.heap.size + 1 := by simp
  have HS := Lib.hid (hs.touch k1)
  obtain ⟨A, cp, rfl, hlc, hcm⟩ := hs.len
  unfold maxLen at hcm
  have K1 := Lib.hid k1
  have Z1 := Lib.hid z1
  by_cases hg : goodM L = true
  · have HG := Lib.hid hg
    obtain ⟨g1, g2, g3, g4, _⟩ := (goodM_iff L).1 hg
    obtain ⟨bb, off, c9, A0, c0, hvv, _, hbb, hrow0, hl2, _⟩ := (show SeenM w (.slice A L.length cp) (mkM L.length (wid L) (ent L)) from (good_eq hg) ▸ hs).rowF 0 (by omega)
    simp only [Value.slice.injEq] at hvv
    obtain ⟨rfl, z9, rfl⟩ := hvv
    clear z9
    rw [Nat.add_zero] at hrow0
    have q2 := cell_turn k1 hrow0 hbb
    have hpos : 0 < L.length := g1
    have HSQ : Hid (squareM L = decide (L.length = wid L)) := by show squareM L = _; unfold squareM; rw [hg]; rfl
    unfold maxLen at hl2
    clear hg hs k1 hrow0 z1
    go_enter Tryz.func81, Tryz.ntmps81
    go_wp2_with fail
    generalize (w.alloc (.cells #[.slice (some ⟨bb, off, none⟩) L.length cp] 70)) = w1 at *
    go_region_held3 (fun w' => w'.cell? ⟨w.heap.size, 0, none⟩ = some (.slice (some ⟨bb, off, none⟩) L.length cp) ∧ w'.cell? ⟨bb, off, none⟩ = some (.slice A0 (wid L) c0))
      (first | exact ⟨q1, q2⟩ | exact ⟨y1, y2⟩)
      ((go_at_call 99; refine (igood_any _ L w1.drew HS.out).mono ?_; rintro e w2 ⟨rfl, ht⟩; rw [HG.out]; have z1 := Z1.out; have y1 := cell_turn ht (show w1.drew.cell? _ = _ from q1) (show _ < w1.heap.size by omega); have y2 := cell_turn ht (show w1.drew.cell? _ = _ from q2) (show _ < w1.heap.size by omega); clear z1))
    all_goals
      go_wp2_with fail
      go_ret
      exact ⟨by rw [HSQ.out, ← int_beq]; rfl, turn_of_below K1.out.to_below.drew ht⟩
  · have HG : Hid (goodM L = false) := by show goodM L = false; simpa using hg
    have HSQ : Hid (squareM L = false) := by show squareM L = false; unfold squareM; rw [HG.out]; rfl
    clear hg hs k1 z1
    go_enter Tryz.func81, Tryz.ntmps81
    go_wp2_with fail
    generalize (w.alloc (.cells #[.slice A L.length cp] 70)) = w1 at *
    have hz1 := Z1.out
    have hcc := grew_cell q1 (by omega)
    have HGG := Lib.hid (fun p : Grew w1 => HG.out ▸ grew_bool (igood_any _ L p.at_ (HS.out.below p.old)))
    clear q1 hz1
    refine wp_region_grew (by kernel_rfl) (by kernel_rfl) ?_
    repeat (first | go_big_quiet_skip | quiet_step ((go_at_call 99; exact HGG.out _)))
    refine wpQuiet_nil ?_
    rintro _ ⟨p, rfl⟩
    go_wp2_with fail
    go_ret
    exact ⟨by rw [HSQ.out]; rfl, turn_of_below K1.out.to_below (TurnIn.of_below p.old)⟩
end Go.Proofs.YtblfobbeojdihaaGreatDoor

/- The program's InverseOf and Product. -/
namespace G294
open Go Go.RowKit
theorem inv_sol {L : Mat} (h : squareM L = true) : invOk L = solB (ent L) L.length := by
  unfold invOk solB rankN
  simp only [squareM, Bool.and_eq_true, decide_eq_true_eq] at h
  rw [show squareM L = true by simp [squareM, h.1, h.2.symm], ← h.2]; rfl
theorem TurnIn.undrew' {w w1 w' : World} (h : TurnIn 0 0 w w1) (t : TurnIn 0 0 w1.drew w') : TurnIn 0 0 w w' := TurnIn.of_below (TurnIn.base (⟨t.os, t.tape, t.output, t.size, t.block⟩ : TurnIn 0 0 w1 w') h.to_below h.size (by omega))
end G294
namespace Go.Proofs.YtblfobbeojdihaaGreatDoor
open Go.RowKit G294
end Go.Proofs.YtblfobbeojdihaaGreatDoor

/- The program's Solve. -/
namespace G294
open Go Go.RowKit
def slvF (b : List UInt8) : Ents := fun i _ => b.getD i 0
def slvOk (L : Mat) (b : List UInt8) : Bool := squareM L && decide (b.length = L.length) && solB (ent L) L.length
def slvL (F : Ents) (n : Nat) (b : List UInt8) : List UInt8 := mkRow n fun i => bst F (slvF b) n n i 0
def slvF' (F : Ents) (n : Nat) (b : List UInt8) : List UInt8 := if solB F n = true then slvL F n b else []
theorem square_mk {n : Nat} {F : Ents} (h1 : 1 ≤ n) (h2 : n ≤ 16) : squareM (mkM n n F) = true := by
  have hw := wid_mkM n n F (by omega)
  simp only [squareM, goodM, hw, mkM_length, Bool.and_eq_true, decide_eq_true_eq]
  exact ⟨⟨h1, h2, h1, h2, fun i hi => by rw [mkM_getD _ _ _ _ hi, mkRow_length]⟩, trivial⟩
def slvR (L : Mat) (b : List UInt8) : List UInt8 := if slvOk L b = true then slvL (ent L) L.length b else []
theorem boxes2c {w : World} {v v' : Value} {T T' : TypeId} : ((w.alloc (.cells #[v] T)).alloc (.cells #[v'] T')).cell? ⟨w.heap.size, 0, none⟩ = some v ∧ ((w.alloc (.cells #[v] T)).alloc (.cells #[v'] T')).cell? ⟨w.heap.size + 1, 0, none⟩ = some v' := by
  refine ⟨cell_turn (turn_alloc _ _) (show (w.alloc (.cells #[v] T)).cell? ⟨w.heap.size, 0, none⟩ = some v by simp) (by simp), ?_⟩
  have h : ((w.alloc (.cells #[v] T)).alloc (.cells #[v'] T')).cell? ⟨(w.alloc (.cells #[v] T)).heap.size, 0, none⟩ = some v' := by simp
  rwa [World.size_alloc] at h
end G294
namespace Go.Proofs.YtblfobbeojdihaaGreatDoor
open Go.RowKit G294

set_option maxRecDepth 100000 in
set_option maxHeartbeats 1000000 in
theorem solveAt (n Bv : Nat) (b : List UInt8) (v : Value) (w : World) (hBv : Bv < w.heap.size) (hn : n ≤ 1000) (hbl : b.length = n) (hv : w.cell? ⟨Bv, 0, none⟩ = some v) (hs : Seen w v (bys b)) :
    GivesAt Tryz.prog 83 #[.pointer (some ⟨Bv, 0, none⟩)] n 1 (slvF b) w := by
  intro W i j hb hi hj
  have hv' := (hb.cell (p := ⟨Bv, 0, none⟩) hBv).trans hv
  obtain ⟨bb, off, c, rfl, hbb, hlm, hcell⟩ := seen_cellsB hs (by omega)
  have hib : i < b.length := by omega
  have hci := hcell W hb i _ (bys_get b i hib)
  rw [Addr.add_lit, show b[i] = b.getD i 0 by simp [List.getD, hib]] at hci
  have HF : Hid (slvF b i j = b.getD i 0) := rfl
  rw [hbl] at *
  have hi' : (i : Int) < (n : Int) := by omega
  generalize b.getD i 0 = x at *
  clear hcell hs hv
  go_enter Tryz.func83, Tryz.ntmps83
  go_wp2_with fail
  go_ret
  exact ⟨by rw [HF.out]; rfl, 0, rfl⟩

set_option maxRecDepth 100000 in
set_option maxHeartbeats 4000000 in
theorem solveF_own (n : Nat) (F : Ents) (vm vb : Value) (b : List UInt8) (w : World) (hs : SeenM w vm (mkM n n F)) (hb : Seen w vb (bys b)) (g1 : 1 ≤ n) (g2 : n ≤ 16) (hbn : b.length = n) (htab : Tab w) (h0 : 3 < w.heap.size) :
    Calls Tryz.prog 54 #[.agg #[vm], vb] w (RetBytesOk 5 w (slvF' F n b) (solB F n)) := by
  obtain ⟨qa, qb⟩ := boxes2c (w := w) (v := vm) (v' := vb) (T := 70) (T' := 22)
  have kB : TurnIn 0 0 w ((w.alloc (.cells #[vm] 70)).alloc (.cells #[vb] 22)) := turn_trans (turn_alloc _ _) (turn_alloc _ _) (by omega)
  have zB : ((w.alloc (.cells #[vm] 70)).alloc (.cells #[vb] 22)).heap.size = w.heap.size + 2 := by simp
  have HS := Lib.hid (hs.touch kB)
  have HV := Lib.hid (hb.touch kB)
  have HTAB := Lib.hid htab
  obtain ⟨A, cp, hvv, hlc, hcm⟩ := hs.len
  rw [mkM_length] at hvv hlc
  subst hvv
  obtain ⟨A', c', hvv⟩ := hb.len
  rw [bys_length, hbn] at hvv
  subst hvv
  unfold maxLen at hcm
  have HBN : Hid (b.length = n) := hbn
  have KB := Lib.hid kB
  clear hs hb htab kB hbn
  have HFAIL : Hid (solB F n = false → slvF' F n b = []) := fun h => if_neg (by rw [h]; simp)
  have HR : Hid (solB F n = true → slvF' F n b = slvL F n b) := fun h => if_pos h
  have HSQ : Hid (squareM (mkM n n F) = true) := by show _ = _; exact square_mk g1 g2
  have hnn : ((n : Int) != (n : Int)) = false := by simp
  go_enter Tryz.func54, Tryz.ntmps54
  go_wp2_with fail
  generalize hw2 : ((w.alloc (.cells #[.slice A n cp] 70)).alloc (.cells #[.slice A' n c'] 22)) = w2 at *
  clear hw2
  refine (squareMatrix_any _ (mkM n n F) _ HS.out).mono ?_
  rintro e w3 ⟨rfl, k3⟩
  rw [HSQ.out]
  have qa3 := cell_turn k3 qa (by omega)
  have qb3 := cell_turn k3 qb (by omega)
  have z3 := k3.size
  have kk3 := turn_trans KB.out k3 (by omega)
  have HS3 := Lib.hid (HS.out.touch k3)
  have HV3 := Lib.hid (HV.out.touch k3)
  clear k3 qa qb
  have eg := enters_of Tryz.func83 (by kernel_rfl) rfl
  have HG := Lib.hid (solveAt n (w.heap.size + 1) b (.slice A' n c') w3 (by omega) (by omega) HBN.out qb3 HV3.out)
  go_wp2_with fail
  refine (newGridF n 1 _ _ _ w3 eg HG.out (by omega) (by omega)).mono ?_
  rintro e w4 ⟨v4, vs4, rfl, o4, k4⟩
  have qa4 := cell_turn k4 qa3 (by omega)
  have z4 := k4.size
  have kk4 := turn_trans kk3 k4 (by omega)
  have HS4 := Lib.hid (HS3.out.touch k4)
  clear k4 qa3 qb3 kk3 HG eg
  go_wp2_with fail
  refine (fieldGrid_own n n F _ w4 HS4.out g1 (by omega) (by omega)).mono ?_
  rintro e w5 ⟨v5, vs5, rfl, o5, k5⟩
  have z5 := k5.size
  have kk5 := turn_trans kk4 k5 (by omega)
  replace o4 := o4.keep k5 (by omega)
  clear k5 kk4 qa4
  go_wp2_with fail
  refine (solved_own n 1 F (slvF b) _ _ w5 o5.seen o4.seen g1 (by omega) (by omega) (HTAB.out.below kk5.to_below h0) (by omega)).mono ?_
  rintro e w6 ⟨v6, vs6, rfl, o6, k6⟩
  have z6 := k6.size
  have kk6 := turn_trans kk5 k6 (by omega)
  have HO6 := Lib.hid o6
  clear k6 kk5 o4 o5 o6
  by_cases hok : solB F n = true
  · have HO : Hid (solB F n = true) := by show _ = _; exact hok
    have e6 : solL F (slvF b) n 1 = mkM n 1 (bst F (slvF b) n n) := if_pos hok
    have HS6 : Hid (SeenM w6 v6 (mkM n 1 (bst F (slvF b) n n))) := by
      show SeenM w6 v6 _
      rw [← e6]; exact HO6.out.seen
    rw [show solOk F n = true from hok]
    clear hok e6
    go_wp2_with fail
    refine (turnedF n 1 _ _ w6 HS6.out g1 (by omega) (by omega)).mono ?_
    rintro e w7 ⟨v7, vs7, rfl, o7, k7⟩
    have z7 := k7.size
    have kk7 := turn_trans kk6 k7 (by omega)
    clear k7 kk6
    go_wp2_with fail
    refine (matrixOf_own 1 n _ _ w7 o7.seen (by omega) (by omega) (by omega)).mono ?_
    rintro e w8 ⟨v8, vs8, rfl, o8, k8⟩
    have kk8 := turn_trans kk7 k8 (by omega)
    have z8 := k8.size
    obtain ⟨g, cg, rfl, hg1, hg2, hg3, hg4⟩ := o8.sliceF (by omega)
    obtain ⟨u, hu, hou⟩ := o8.at 0 (by simp)
    have hcu := o8.cellAt hu
    rw [mkM_getD _ _ _ _ (by omega)] at hou
    obtain ⟨A9, n9, c9, rfl⟩ := own_isSlice hou.1
    unfold maxLen at hg4
    have HOU := Lib.hid (hou.wider (lo' := w.heap.size) (hi' := w8.heap.size) (by omega) (Nat.le_refl _) (Nat.le_refl _))
    have h01 : (0 : Int) < (1 : Int) := by omega
    have hfd : ∀ (W : World) (x : Value), (Instr.field 70 (.agg #[x]) 0).run Tryz.prog W = .ok x W := fun W x => by simp [go_sem, Instr.field, asAgg, run_underlying Tryz.underlying70]
    clear o7 o8 k8 kk7 hou hu
    go_wp2_with fail
    go_ret2
    refine ⟨_, by rw [HO.out]; rfl, ?_, kk8⟩
    rw [HR.out HO.out]
    exact HOU.out
  · have hok' : solB F n = false := by simpa using hok
    have HO : Hid (solB F n = false) := by show _ = _; exact hok'
    rw [show solOk F n = false from hok']
    clear hok hok'
    go_wp2_with fail
    go_ret2
    exact ⟨.slice none 0 0, by rw [HO.out]; rfl, by rw [HFAIL.out HO.out]; exact OwnBytes.nil _ _ _, kk6⟩

set_option maxRecDepth 100000 in
set_option maxHeartbeats 4000000 in
theorem solve_own (vm vb : Value) (L : Mat) (b : List UInt8) (w : World) (hs : SeenM w vm L) (hb : Seen w vb (bys b)) (htab : Tab w) (h0 : 3 < w.heap.size) :
    Calls Tryz.prog 54 #[.agg #[vm], vb] w (RetBytesOk 5 w (slvR L b) (slvOk L b)) := by
  by_cases hgb : squareM L = true ∧ b.length = L.length
  · have hg := hgb.1
    have hgg : goodM L = true ∧ L.length = wid L := by simpa [squareM] using hg
    obtain ⟨g1, g2, g3, g4, _⟩ := (goodM_iff L).1 hgg.1
    have e : L = mkM L.length L.length (ent L) := by
      have e := good_eq hgg.1
      rw [← hgg.2] at e
      exact e
    have e1 : slvOk L b = solB (ent L) L.length := by unfold slvOk; rw [hg]; simp [hgb.2]
    have e2 : slvR L b = slvF' (ent L) L.length b := by unfold slvR slvF'; rw [e1]
    rw [e1, e2]
    exact solveF_own L.length (ent L) vm vb b w (e ▸ hs) hb g1 g2 hgb.2 htab h0
  obtain ⟨qa, qb⟩ := boxes2c (w := w) (v := vm) (v' := vb) (T := 70) (T' := 22)
  have kB : TurnIn 0 0 w ((w.alloc (.cells #[vm] 70)).alloc (.cells #[vb] 22)) := turn_trans (turn_alloc _ _) (turn_alloc _ _) (by omega)
  have zB : ((w.alloc (.cells #[vm] 70)).alloc (.cells #[vb] 22)).heap.size = w.heap.size + 2 := by simp
  have HS := Lib.hid (hs.touch kB)
  have HV := Lib.hid (hb.touch kB)
  have HTAB := Lib.hid htab
  obtain ⟨A, cp, rfl, hlc, hcm⟩ := hs.len
  obtain ⟨A', c', hvv⟩ := hb.len
  rw [bys_length] at hvv
  subst hvv
  unfold maxLen at hcm
  have hbm : b.length ≤ 9223372036854775807 := by
    obtain ⟨_, _, e, h1, h2, _⟩ := hb
    simp only [Value.slice.injEq, bys_length] at e h1
    unfold maxLen at h2; omega
  have KB := Lib.hid kB
  clear hs hb htab kB
  have HFAIL : Hid (slvOk L b = false → slvR L b = []) := fun h => if_neg (by rw [h]; simp)
  by_cases hg : squareM L = true
  · have hgg : goodM L = true ∧ L.length = wid L := by simpa [squareM] using hg
    obtain ⟨g1, g2, g3, g4, _⟩ := (goodM_iff L).1 hgg.1
    have HLE : Hid (L = mkM L.length L.length (ent L)) := by
      show L = mkM L.length L.length (ent L)
      have e := good_eq hgg.1
      rw [← hgg.2] at e
      exact e
    have HSQ := Lib.hid hg
    have HOK : Hid (slvOk L b = (decide (b.length = L.length) && solB (ent L) L.length)) := by show _ = _; unfold slvOk; rw [hg]; rfl
    have HSM : Hid (∀ W, SeenM W (.slice A L.length cp) L → SeenM W (.slice A L.length cp) (mkM L.length L.length (ent L))) := fun W h => by rw [← HLE.out]; exact h
    have HR : Hid (slvOk L b = true → slvR L b = slvL (ent L) L.length b) := fun h => if_pos h
    clear hg hgg
    generalize hm : b.length = m at *
    generalize hn : L.length = n at *
    have HN := Lib.hid hn
    have HBN := Lib.hid hm
    clear hn hm
    have hbn : m ≠ n := fun e => hgb ⟨HSQ.out, e⟩
    have HO : Hid (slvOk L b = false) := by show _ = _; rw [HOK.out]; simp [hbn]
    have hnn : ((m : Int) != (n : Int)) = true := by rw [bne_iff_ne]; omega
    go_enter Tryz.func54, Tryz.ntmps54
    go_wp2_with fail
    generalize hw2 : ((w.alloc (.cells #[.slice A n cp] 70)).alloc (.cells #[.slice A' m c'] 22)) = w2 at *
    clear hw2
    refine (squareMatrix_any _ L _ HS.out).mono ?_
    rintro e w3 ⟨rfl, k3⟩
    rw [HSQ.out]
    have qa3 := cell_turn k3 qa (by omega)
    have qb3 := cell_turn k3 qb (by omega)
    have kk3 := turn_trans KB.out k3 (by omega)
    clear k3 qa qb
    go_wp2_with fail
    go_ret2
    exact ⟨.slice none 0 0, by rw [HO.out]; rfl, by rw [HFAIL.out HO.out]; exact OwnBytes.nil _ _ _, kk3⟩
  · have HSQ : Hid (squareM L = false) := by show _ = _; simpa using hg
    have HO : Hid (slvOk L b = false) := by show _ = _; unfold slvOk; rw [HSQ.out]; rfl
    clear hg
    generalize b.length = m at *
    go_enter Tryz.func54, Tryz.ntmps54
    go_wp2_with fail
    generalize hw2 : ((w.alloc (.cells #[.slice A L.length cp] 70)).alloc (.cells #[.slice A' m c'] 22)) = w2 at *
    clear hw2
    refine (squareMatrix_any _ L _ HS.out).mono ?_
    rintro e w3 ⟨rfl, k3⟩
    rw [HSQ.out]
    have kk3 := turn_trans KB.out k3 (by omega)
    clear k3
    go_wp2_with fail
    go_ret2
    exact ⟨.slice none 0 0, by rw [HO.out]; rfl, by rw [HFAIL.out HO.out]; exact OwnBytes.nil _ _ _, kk3⟩

end Go.Proofs.YtblfobbeojdihaaGreatDoor
