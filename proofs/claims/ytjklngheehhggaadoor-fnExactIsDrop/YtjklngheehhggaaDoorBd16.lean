/- Joined texts: Encode, Grids2, Solved, MatI2, MatI3, DecBy, Decode. -/
import Derived.Test.YtjklngheehhggaaDoorBd15
import Derived.Test.YtjklngheehhggaaDoorBd10
import Derived.Test.YtjklngheehhggaaDoorBd12
import Derived.Test.YtjklngheehhggaaDoorBd13
import Derived.Test.YtjklngheehhggaaDoorBd03
import Derived.Test.YtjklngheehhggaaDoorBd06
import Derived.Test.YtjklngheehhggaaDoorBd08
import Derived.Test.YtjklngheehhggaaDoorBd14
import Derived.Deep.CutRange
import Derived.Maps.AppendAt
set_option linter.unusedSimpArgs false
set_option linter.unusedVariables false
/- EncodeShards: the program's. -/
namespace Go.Proofs.YtjklngheehhggaaDoor
open Go.RowKit Go.Shelf G294

attribute [local go_sem] Oper.semAt_some

end Go.Proofs.YtjklngheehhggaaDoor

/- sideBySide, multiplied, solved, fieldGrid, matrixOf. -/
namespace Go.Proofs.YtjklngheehhggaaDoor
open Go.RowKit G294

set_option maxRecDepth 100000 in
set_option maxHeartbeats 1000000 in
theorem sideAt (r n c Bw Bl Br : Nat) (F G : Ents) (v u : Value) (w : World) (hBw : Bw < w.heap.size) (hBl : Bl < w.heap.size) (hBr : Br < w.heap.size) (hn : n ≤ 1000) (hc : c ≤ 1000)
    (hw : w.cell? ⟨Bw, 0, none⟩ = some (.int .i64 n)) (hv : w.cell? ⟨Bl, 0, none⟩ = some v) (hu : w.cell? ⟨Br, 0, none⟩ = some u) (hs : SeenM w v (mkM r n F)) (ht : SeenM w u (mkM r c G)) :
    GivesAt Tryd.prog 223 #[.pointer (some ⟨Bw, 0, none⟩), .pointer (some ⟨Bl, 0, none⟩), .pointer (some ⟨Br, 0, none⟩)] r (n + c) (hcF n F G) w := by
  intro W i j hb hi hj
  have hw' := (hb.cell (p := ⟨Bw, 0, none⟩) hBw).trans hw
  have hv' := (hb.cell (p := ⟨Bl, 0, none⟩) hBl).trans hv
  have hu' := (hb.cell (p := ⟨Br, 0, none⟩) hBr).trans hu
  by_cases hjn : j < n
  · obtain ⟨bb, off, cp, b', off', c', rfl, hl1, h1, h2, h3, hl2, h4⟩ := (hs.below hb).cellF i j hi hjn
    have HF : Hid (hcF n F G i j = F i j) := if_pos hjn
    unfold maxLen at hl1 hl2
    have hi' : (i : Int) < (r : Int) := by omega
    have hj' : (j : Int) < (n : Int) := by omega
    clear hw hv hu hs ht hu'
    go_enter Tryd.func223, Tryd.ntmps223
    go_wp2_with fail
    go_ret
    exact ⟨by rw [HF.out]; rfl, 0, rfl⟩
  · obtain ⟨d, rfl⟩ : ∃ d, j = n + d := ⟨j - n, by omega⟩
    obtain ⟨bb, off, cp, b', off', c', rfl, hl1, h1, h2, h3, hl2, h4⟩ := (ht.below hb).cellF i d hi (by omega)
    have HF : Hid (hcF n F G i (n + d) = G i d) := by show hcF n F G i (n + d) = G i d; unfold hcF; rw [if_neg (by omega)]; congr 1; omega
    unfold maxLen at hl1 hl2
    have hi' : (i : Int) < (r : Int) := by omega
    have hi0 : (0 : Int) ≤ (i : Int) := Int.natCast_nonneg _
    have hd0 : (0 : Int) ≤ (d : Int) := Int.natCast_nonneg _
    have hd' : (d : Int) < (c : Int) := by omega
    obtain ⟨x, hx⟩ : ∃ x, x = n + d := ⟨_, rfl⟩
    rw [← hx] at HF hjn ⊢
    have hxx : IntKind.i64.wrap ((x : Int) - (n : Int)) = (d : Int) := by rw [IntWalk.i64_in _ (by omega)]; omega
    have hj' : ¬ (x : Int) < (n : Int) := by omega
    clear hw hv hu hs ht hv' hx hjn
    go_enter Tryd.func223, Tryd.ntmps223
    go_wp2_with fail
    go_quiet (fail)
    go_wp2_with fail
    go_ret
    exact ⟨by rw [HF.out]; rfl, _, rfl⟩

set_option maxRecDepth 100000 in
set_option maxHeartbeats 1000000 in
theorem solvedAt (r n c Bb Bn : Nat) (F : Ents) (v : Value) (w : World) (hBb : Bb < w.heap.size) (hBn : Bn < w.heap.size) (hn : n ≤ 1000) (hc : c ≤ 1000)
    (hv : w.cell? ⟨Bb, 0, none⟩ = some v) (hw : w.cell? ⟨Bn, 0, none⟩ = some (.int .i64 n)) (hs : SeenM w v (mkM r (n + c) F)) :
    GivesAt Tryd.prog 211 #[.pointer (some ⟨Bb, 0, none⟩), .pointer (some ⟨Bn, 0, none⟩)] r c (fun i j => F i (n + j)) w := by
  intro W i j hb hi hj
  have hw' := (hb.cell (p := ⟨Bn, 0, none⟩) hBn).trans hw
  have hv' := (hb.cell (p := ⟨Bb, 0, none⟩) hBb).trans hv
  obtain ⟨x, hx⟩ : ∃ x, x = n + j := ⟨_, rfl⟩
  obtain ⟨y, hy⟩ : ∃ y, y = n + c := ⟨_, rfl⟩
  rw [← hy] at hs
  obtain ⟨bb, off, cp, b', off', c', rfl, hl1, h1, h2, h3, hl2, h4⟩ := (hs.below hb).cellF i x hi (by omega)
  have HF : Hid (F i (n + j) = F i x) := by show F i (n + j) = F i x; rw [hx]
  unfold maxLen at hl1 hl2
  have hi' : (i : Int) < (r : Int) := by omega
  have hi0 : (0 : Int) ≤ (i : Int) := Int.natCast_nonneg _
  have hx0 : (0 : Int) ≤ (x : Int) := Int.natCast_nonneg _
  have hx' : (x : Int) < (y : Int) := by omega
  have hxx : IntKind.i64.wrap ((n : Int) + (j : Int)) = (x : Int) := by rw [IntWalk.i64_in _ (by omega)]; omega
  clear hw hv hs hx hy
  go_enter Tryd.func211, Tryd.ntmps211
  go_wp2_with fail
  go_quiet (fail)
  go_wp2_with fail
  go_ret
  exact ⟨by rw [HF.out]; rfl, _, rfl⟩

set_option maxHeartbeats 1000000 in
theorem fieldGrid_own (r c : Nat) (F : Ents) (v : Value) (w : World) (hs : SeenM w v (mkM r c F)) (hr : 1 ≤ r) (hr2 : r ≤ 1000) (hc : c ≤ 1000) :
    Calls Tryd.prog 189 #[.agg #[v]] w (RetM 212 235 w (mkM r c F)) := by
  have k1 : TurnIn 0 0 w (w.alloc (.cells #[v] 79)) := turn_alloc _ _
  have HS := Lib.hid (hs.touch k1)
  have K1 := Lib.hid k1
  obtain ⟨A, cp, hvv, _, _⟩ := hs.len
  rw [mkM_length] at hvv
  subst hvv
  clear hs k1
  go_enter Tryd.func189, Tryd.ntmps189
  go_wp2_with fail
  refine (convertedB r c F _ _ HS.out hr hr2 hc).mono ?_
  rintro e w' ⟨v', vs', rfl, hM, ht⟩
  go_wp2_with fail
  go_ret
  exact RetM.base ⟨_, _, rfl, hM, ht⟩ K1.out.to_below

set_option maxHeartbeats 1000000 in
theorem matrixOf_own (r c : Nat) (F : Ents) (v : Value) (w : World) (hs : SeenM w v (mkM r c F)) (hr : 1 ≤ r) (hr2 : r ≤ 1000) (hc : c ≤ 1000) :
    Calls Tryd.prog 191 #[v] w (RetMat 5 22 w (mkM r c F)) := by
  have k1 : TurnIn 0 0 w (w.alloc (.cells #[.slice none 0 0] 79)) := turn_alloc _ _
  have HS := Lib.hid (hs.touch k1)
  have K1 := Lib.hid k1
  obtain ⟨A, cp, hvv, _, _⟩ := hs.len
  rw [mkM_length] at hvv
  subst hvv
  clear hs k1
  go_enter Tryd.func191, Tryd.ntmps191
  go_wp2_with fail
  refine (convertedF r c F _ _ HS.out hr hr2 hc).mono ?_
  rintro e w' ⟨v', vs', rfl, hM, ht⟩
  obtain ⟨A', n', c', rfl⟩ := hM.isSlice
  have hq := cell_turn ht (B := w.heap.size) (o := 0) (x := .slice none 0 0) (by simp) (by simp)
  have hqf := frozen_turn ht (B := w.heap.size) (o := 0) (x := false) (by simp) (by simp)
  have HF := Lib.hid (ret_store K1.out.to_below hM ht w.heap.size 0 (Nat.le_refl _) (by simp) (.slice A' n' c'))
  clear hM ht
  go_wp2_with fail
  refine bodyPost_ret (v := .agg #[.slice A' n' c']) (by simp [results, Tryd.results191, go_sem, hq]) rfl ?_
  exact ⟨_, vs', rfl, HF.out.1, HF.out.2⟩
end Go.Proofs.YtjklngheehhggaaDoor

/- sideBySide and solved. -/
namespace G294
def solB (F : Ents) (n : Nat) : Bool := decide ((est F n n).2 = n)
end G294
namespace Go.Proofs.YtjklngheehhggaaDoor
open Go.RowKit G294

set_option maxRecDepth 100000 in
set_option maxHeartbeats 1000000 in
theorem sideBySide_own (r n c : Nat) (F G : Ents) (v u : Value) (w : World) (hs : SeenM w v (mkM r n F)) (hu : SeenM w u (mkM r c G)) (hr1 : 1 ≤ r) (hr : r ≤ 1000) (hn : n ≤ 400) (hc : c ≤ 400) :
    Calls Tryd.prog 208 #[v, u] w (RetM 212 235 w (mkM r (n + c) (hcF n F G))) := by
  have k3 : TurnIn 0 0 w (((w.alloc (.cells #[v] 209)).alloc (.cells #[u] 209)).alloc (.cells #[.int .i64 n] 3)) := turn_trans (turn_trans (turn_alloc _ _) (turn_alloc _ _) (by omega)) (turn_alloc _ _) (by omega)
  have z3 : (((w.alloc (.cells #[v] 209)).alloc (.cells #[u] 209)).alloc (.cells #[.int .i64 n] 3)).heap.size = w.heap.size + 3 := by simp
  have q1 : (((w.alloc (.cells #[v] 209)).alloc (.cells #[u] 209)).alloc (.cells #[.int .i64 n] 3)).cell? ⟨w.heap.size, 0, none⟩ = some v := cell_turn (turn_trans (turn_alloc _ _) (turn_alloc _ _) (by omega)) (show (w.alloc (.cells #[v] 209)).cell? ⟨w.heap.size, 0, none⟩ = some v by simp) (by simp)
  have q2 : (((w.alloc (.cells #[v] 209)).alloc (.cells #[u] 209)).alloc (.cells #[.int .i64 n] 3)).cell? ⟨w.heap.size + 1, 0, none⟩ = some u := alloc_mid_cell _ _ _ _ _
  have q3 : (((w.alloc (.cells #[v] 209)).alloc (.cells #[u] 209)).alloc (.cells #[.int .i64 n] 3)).cell? ⟨w.heap.size + 1 + 1, 0, none⟩ = some (.int .i64 n) := alloc_last_cell _ _ _ _ _
  have HG := Lib.hid (sideAt r n c (w.heap.size + 1 + 1) w.heap.size (w.heap.size + 1) F G v u _ (by omega) (by omega) (by omega) (by omega) (by omega) q3 q1 q2 (hs.touch k3) (hu.touch k3))
  obtain ⟨bb, off, cp, A1, c1, rfl, hl1, hbb, hrow0, hl2, _⟩ := hs.rowF 0 (by omega)
  obtain ⟨bb2, off2, cp2, A2, c2, rfl, hl3, hbb2, hrow2, hl4, _⟩ := hu.rowF 0 (by omega)
  rw [Nat.add_zero] at hrow0 hrow2
  have q5 := cell_turn k3 hrow2 hbb2
  have k2 : TurnIn 0 0 w ((w.alloc (.cells #[.slice (some ⟨bb, off, none⟩) r cp] 209)).alloc (.cells #[.slice (some ⟨bb2, off2, none⟩) r cp2] 209)) := turn_trans (turn_alloc _ _) (turn_alloc _ _) (by omega)
  have q6 := cell_turn k2 hrow0 hbb
  have K3 := Lib.hid k3
  have eg := enters_of Tryd.func223 (by kernel_rfl) rfl
  have hpos : 0 < r := hr1
  unfold maxLen at hl1 hl2 hl3 hl4
  clear hs hu k3 k2
  go_enter Tryd.func208, Tryd.ntmps208
  go_wp2_with fail
  generalize (((w.alloc (.cells #[.slice (some ⟨bb, off, none⟩) r cp] 209)).alloc (.cells #[.slice (some ⟨bb2, off2, none⟩) r cp2] 209)).alloc (.cells #[.int .i64 n] 3)) = w2 at *
  have Z3 := Lib.hid z3
  have hsum : IntKind.i64.wrap ((n : Int) + (c : Int)) = ((n + c : Nat) : Int) := by rw [IntWalk.i64_in _ (by omega)]; omega
  clear z3 q6
  go_region_held3 (fun w' => w'.cell? ⟨w.heap.size, 0, none⟩ = some (.slice (some ⟨bb, off, none⟩) r cp) ∧ w'.cell? ⟨w.heap.size + 1, 0, none⟩ = some (.slice (some ⟨bb2, off2, none⟩) r cp2) ∧ w'.cell? ⟨w.heap.size + 1 + 1, 0, none⟩ = some (.int .i64 n) ∧ w'.cell? ⟨bb2, off2, none⟩ = some (.slice A2 c c2))
    (first | exact ⟨q1, q2, q3, q5⟩ | exact ⟨y1, y2, y3, y5⟩)
    ((go_at_call 210; refine (newGridF r (n + c) _ _ _ w2.drew eg (HG.out.later (Below.refl _ _).drew) hr (by omega)).mono ?_; rintro e w' ⟨v', vs', rfl, hM, ht⟩; have z3 := Z3.out; have y1 := cell_turn ht (show w2.drew.cell? _ = _ from q1) (show _ < w2.heap.size by omega); have y2 := cell_turn ht (show w2.drew.cell? _ = _ from q2) (show _ < w2.heap.size by omega); have y3 := cell_turn ht (show w2.drew.cell? _ = _ from q3) (show _ < w2.heap.size by omega); have y5 := cell_turn ht (show w2.drew.cell? _ = _ from q5) (show _ < w2.heap.size by omega); clear z3))
  go_wp2_with fail
  go_ret
  exact RetM.base ⟨_, _, rfl, hM, ht⟩ K3.out.to_below.drew

def RetGridOk (E EE : TypeId) (w : World) (L : Mat) (ok : Bool) (e : Ending) (w' : World) : Prop := ∃ v vs, e = .returned (.tuple #[v, .bool ok]) ∧ OwnM E EE w' w.heap.size w'.heap.size v L vs ∧ TurnIn 0 0 w w'
abbrev solOk (F : Ents) (n : Nat) : Bool := solB F n
def solL (F G : Ents) (n c : Nat) : Mat := if solOk F n = true then mkM n c (bst F G n n) else []

set_option maxRecDepth 100000 in
set_option maxHeartbeats 2000000 in
theorem solved_own (n c : Nat) (F G : Ents) (v u : Value) (w : World) (hs : SeenM w v (mkM n n F)) (hu : SeenM w u (mkM n c G)) (hn1 : 1 ≤ n) (hn : n ≤ 400) (hc : c ≤ 400) (htab : Tab w) (h0 : 1 < w.heap.size) :
    Calls Tryd.prog 188 #[v, u] w (RetGridOk 212 235 w (solL F G n c) (solOk F n)) := by
  have k1 : TurnIn 0 0 w (w.alloc (.cells #[.int .i64 n] 3)) := turn_alloc _ _
  have q1 : (w.alloc (.cells #[.int .i64 n] 3)).cell? ⟨w.heap.size, 0, none⟩ = some (.int .i64 n) := by simp
  have z1 : (w.alloc (.cells #[.int .i64 n] 3)).heap.size = w.heap.size + 1 := by simp
  have HS := Lib.hid (hs.touch k1)
  have HU := Lib.hid (hu.touch k1)
  have HT := Lib.hid (htab.below k1.to_below h0)
  have hle := est_le F n n
  obtain ⟨A, cp, hvv, hl1, hl1'⟩ := hs.len
  rw [mkM_length] at hvv hl1
  obtain ⟨bb2, off2, cp2, A2, c2, rfl, hl3, hbb2, hrow2, hl4, _⟩ := hu.rowF 0 (by omega)
  rw [Nat.add_zero] at hrow2
  subst hvv
  have HR2 := Lib.hid hrow2
  have K1 := Lib.hid k1
  have hpos : 0 < n := hn1
  unfold maxLen at hl1' hl3 hl4
  clear hs hu htab k1 hrow2
  go_enter Tryd.func188, Tryd.ntmps188
  go_wp2_with fail
  generalize (w.alloc (.cells #[.int .i64 n] 3)) = w1 at *
  refine (sideBySide_own n n c F G _ _ _ HS.out HU.out hn1 (by omega) hn hc).mono ?_
  rintro e w2 ⟨y, vs, rfl, hM, ht⟩
  obtain ⟨g, cpb, rfl, hg1, hg2, hg3, hg4⟩ := hM.sliceF hn1
  have s2 := ht.size
  have p1 := cell_turn ht q1 (by omega)
  have k3 : TurnIn 0 0 w2 (w2.alloc (.cells #[.slice (some ⟨g, 0, none⟩) n cpb] 209)) := turn_alloc _ _
  have z3 : (w2.alloc (.cells #[.slice (some ⟨g, 0, none⟩) n cpb] 209)).heap.size = w2.heap.size + 1 := by simp
  have p2 := cell_turn k3 p1 (by omega)
  have p3 : (w2.alloc (.cells #[.slice (some ⟨g, 0, none⟩) n cpb] 209)).cell? ⟨w2.heap.size, 0, none⟩ = some (.slice (some ⟨g, 0, none⟩) n cpb) := by simp
  have HM := Lib.hid (hM.keep k3 (by omega))
  have K3 := Lib.hid (turn_trans ht k3 (by omega))
  have hT3 : Tab (w2.alloc (.cells #[.slice (some ⟨g, 0, none⟩) n cpb] 209)) := HT.out.below K3.out.to_below (by omega)
  have HT3 := Lib.hid hT3
  have Z3 := Lib.hid z3
  have hsz3 : w2.heap.size < (w2.alloc (.cells #[.slice (some ⟨g, 0, none⟩) n cpb] 209)).heap.size := by omega
  unfold maxLen at hg4
  clear hM ht k3 z3 p1 hT3 q1
  go_wp2_with fail
  generalize hw3 : (w2.alloc (.cells #[.slice (some ⟨g, 0, none⟩) n cpb] 209)) = w3 at *
  clear hw3
  have hgl : 1 < w1.heap.size := by omega
  go_region_held3 (fun w' => w'.cell? ⟨w.heap.size, 0, none⟩ = some (.int .i64 n) ∧ w'.cell? ⟨w2.heap.size, 0, none⟩ = some (.slice (some ⟨g, 0, none⟩) n cpb))
    (first | exact ⟨p2, p3⟩ | exact ⟨y2, y3⟩)
    ((go_at_call 209; refine (eliminate_any n (n + c) n _ _ (hcF n F G) _ vs w3.drew (HM.out.drewN 1) hn1 (by omega) (by omega) (by omega) HT3.out hgl).mono ?_; rintro e w4 ⟨vs4, rfl, hM4, hK4⟩; have y2 := (World.cell?_of_block (hK4.block w.heap.size (show w.heap.size < w3.heap.size by omega) (by omega))).trans (show w3.drew.cell? _ = _ from p2); have y3 := (World.cell?_of_block (hK4.block w2.heap.size (show w2.heap.size < w3.heap.size by omega) (by omega))).trans (show w3.drew.cell? _ = _ from p3)))
  rw [est_hc F G n n n (Nat.le_refl _)] at hM4 ⊢
  dsimp only at hM4 ⊢
  have kW4 : TurnIn 0 0 w w4 := turn_trans (turn_trans K1.out K3.out (by omega)) (⟨hK4.os, hK4.tape, hK4.output, hK4.size, hK4.block⟩ : TurnIn w1.heap.size w2.heap.size w3 w4) (by omega)
  have KW4 := Lib.hid kW4
  have s4 := hK4.size
  have s4' : w3.heap.size ≤ w4.heap.size := s4
  have hr4 := cell_turn kW4 HR2.out hbb2
  have HOK : Hid (solB F n = decide ((est F n n).2 = n)) := rfl
  have HLL : Hid (∀ b, solOk F n = b → solL F G n c = if b = true then mkM n c (bst F G n n) else []) := fun b h => by unfold solL; rw [h]
  have HG := Lib.hid (solvedAt n n c w2.heap.size w.heap.size (hcF n (est F n n).1 (bst F G n n)) _ w4 (by omega) (by omega) (by omega) (by omega) y3 y2 hM4.seen)
  have eg := enters_of Tryd.func211 (by kernel_rfl) rfl
  clear hM4 hK4 kW4 s4 p2 p3
  generalize (est F n n).2 = rk at *
  by_cases hrk : rk < n
  · have HO : Hid (solOk F n = false) := by show solB F n = false; rw [HOK.out]; simp; omega
    go_wp2_with fail
    go_ret2
    exact ⟨_, [], by rw [HO.out]; rfl, by rw [HLL.out false HO.out]; exact OwnM.nil _ _ _ _, KW4.out⟩
  · have HO : Hid (solOk F n = true) := by show solB F n = true; rw [HOK.out]; simp; omega
    have hd : decide (rk < n) = false := by simpa using hrk
    go_wp2_with fail
    go_region_held3 (fun w' => w'.cell? ⟨w.heap.size, 0, none⟩ = some (.int .i64 n) ∧ w'.cell? ⟨bb2, off2, none⟩ = some (.slice A2 c c2))
      (first | exact ⟨y2, hr4⟩ | exact ⟨x2, x3⟩)
      ((go_at_call 210; refine (newGridF n c _ _ _ w4.drew eg (HG.out.later (Below.refl _ _).drew) (by omega) (by omega)).mono ?_; rintro e w5 ⟨v5, vs5, rfl, hM5, ht5⟩; have x2 := cell_turn ht5 (show w4.drew.cell? _ = _ from y2) (show _ < w4.heap.size by omega); have x3 := cell_turn ht5 (show w4.drew.cell? _ = _ from hr4) (show _ < w4.heap.size by omega)))
    go_wp2_with fail
    go_ret2
    have hb5 := KW4.out.to_below.drew
    refine ⟨v5, vs5, by rw [HO.out]; rfl, ?_, turn_of_below hb5 ht5⟩
    rw [HLL.out true HO.out, if_pos rfl]
    exact (hM5.congr (mkM_congr fun i j _ _ => by unfold hcF; rw [if_neg (by omega)]; congr 1; omega)).wider hb5.size (Nat.le_refl _) (Nat.le_refl _)
end Go.Proofs.YtjklngheehhggaaDoor

/- The program's RankOf and InverseOf. -/
namespace G294
theorem int_beq (a b : Nat) : ((a : Int) == (b : Int)) = decide (a = b) := by
  by_cases h : a = b
  · subst h; simp
  · rw [decide_eq_false h, beq_eq_false_iff_ne]; omega
end G294
namespace Go.Proofs.YtjklngheehhggaaDoor
open Go.RowKit G294

set_option maxRecDepth 100000 in
set_option maxHeartbeats 1000000 in
theorem squareMatrix_any (v : Value) (L : Mat) (w : World) (hs : SeenM w v L) : Calls Tryd.prog 187 #[.agg #[v]] w (RetBool w (squareM L)) := by
  have k1 : TurnIn 0 0 w (w.alloc (.cells #[v] 79)) := turn_alloc _ _
  have q1 : (w.alloc (.cells #[v] 79)).cell? ⟨w.heap.size, 0, none⟩ = some v := by simp
  have z1 : (w.alloc (.cells #[v] 79)).heap.size = w.heap.size + 1 := by simp
  have HS := Lib.hid (hs.touch k1)
  obtain ⟨A, cp, rfl, hlc, hcm⟩ := hs.len
  unfold maxLen at hcm
  have K1 := Lib.hid k1
  have Z1 := Lib.hid z1
  by_cases hg : goodM L = true
  · have HG := Lib.hid hg
    obtain ⟨g1, g2, g3, g4, _⟩ := (goodM_iff L).1 hg
    obtain ⟨bb, off, c9, A0, c0, hvv, _, hbb, hrow0, hl2, _⟩ := (show SeenM w (.slice A L.length cp) (mkM L.length (wid L) (ent L)) from (good_eq hg) ▸ hs).rowF 0 (by omega)
    simp only [Value.slice.injEq] at hvv
    obtain ⟨rfl, z9, rfl⟩ := hvv
    clear z9
    rw [Nat.add_zero] at hrow0
    have q2 := cell_turn k1 hrow0 hbb
    have hpos : 0 < L.length := g1
    have HSQ : Hid (squareM L = decide (L.length = wid L)) := by show squareM L = _; unfold squareM; rw [hg]; rfl
    unfold maxLen at hl2
    clear hg hs k1 hrow0 z1
    go_enter Tryd.func187, Tryd.ntmps187
    go_wp2_with fail
    generalize (w.alloc (.cells #[.slice (some ⟨bb, off, none⟩) L.length cp] 79)) = w1 at *
    go_region_held3 (fun w' => w'.cell? ⟨w.heap.size, 0, none⟩ = some (.slice (some ⟨bb, off, none⟩) L.length cp) ∧ w'.cell? ⟨bb, off, none⟩ = some (.slice A0 (wid L) c0))
      (first | exact ⟨q1, q2⟩ | exact ⟨y1, y2⟩)
      ((go_at_call 207; refine (igood_any _ L w1.drew HS.out).mono ?_; rintro e w2 ⟨rfl, ht⟩; rw [HG.out]; have z1 := Z1.out; have y1 := cell_turn ht (show w1.drew.cell? _ = _ from q1) (show _ < w1.heap.size by omega); have y2 := cell_turn ht (show w1.drew.cell? _ = _ from q2) (show _ < w1.heap.size by omega); clear z1))
    all_goals
      go_wp2_with fail
      go_ret
      exact ⟨by rw [HSQ.out, ← int_beq]; rfl, turn_of_below K1.out.to_below.drew ht⟩
  · have HG : Hid (goodM L = false) := by show goodM L = false; simpa using hg
    have HSQ : Hid (squareM L = false) := by show squareM L = false; unfold squareM; rw [HG.out]; rfl
    clear hg hs k1 z1
    go_enter Tryd.func187, Tryd.ntmps187
    go_wp2_with fail
    generalize (w.alloc (.cells #[.slice A L.length cp] 79)) = w1 at *
    have hz1 := Z1.out
    have hcc := grew_cell q1 (by omega)
    have HGG := Lib.hid (fun p : Grew w1 => HG.out ▸ grew_bool (igood_any _ L p.at_ (HS.out.below p.old)))
    clear q1 hz1
    refine wp_region_grew (by kernel_rfl) (by kernel_rfl) ?_
    repeat (first | go_big_quiet_skip | quiet_step ((go_at_call 207; exact HGG.out _)))
    refine wpQuiet_nil ?_
    rintro _ ⟨p, rfl⟩
    go_wp2_with fail
    go_ret
    exact ⟨by rw [HSQ.out]; rfl, turn_of_below K1.out.to_below (TurnIn.of_below p.old)⟩

set_option maxRecDepth 100000 in
set_option maxHeartbeats 1000000 in
theorem rankOf_own (v : Value) (L : Mat) (w : World) (hs : SeenM w v L) (htab : Tab w) (h0 : 1 < w.heap.size) : Calls Tryd.prog 193 #[.agg #[v]] w (RetIntOk w (rankR L) (goodM L)) := by
  have k1 : TurnIn 0 0 w (w.alloc (.cells #[v] 79)) := turn_alloc _ _
  have q1 : (w.alloc (.cells #[v] 79)).cell? ⟨w.heap.size, 0, none⟩ = some v := by simp
  have z1 : (w.alloc (.cells #[v] 79)).heap.size = w.heap.size + 1 := by simp
  have HS := Lib.hid (hs.touch k1)
  obtain ⟨A, cp, rfl, hlc, hcm⟩ := hs.len
  unfold maxLen at hcm
  have K1 := Lib.hid k1
  have Z1 := Lib.hid z1
  have HT := Lib.hid (htab.below k1.to_below h0)
  by_cases hg : goodM L = true
  · have HG := Lib.hid hg
    have HLE := Lib.hid (good_eq hg)
    obtain ⟨g1, g2, g3, g4, _⟩ := (goodM_iff L).1 hg
    obtain ⟨bb, off, c9, A0, c0, hvv, _, hbb, hrow0, hl2, _⟩ := (show SeenM w (.slice A L.length cp) (mkM L.length (wid L) (ent L)) from (good_eq hg) ▸ hs).rowF 0 (by omega)
    simp only [Value.slice.injEq] at hvv
    obtain ⟨rfl, z9, rfl⟩ := hvv
    clear z9
    rw [Nat.add_zero] at hrow0
    have q2 := cell_turn k1 hrow0 hbb
    have hpos : 0 < L.length := g1
    have HR : Hid (rankR L = (est (ent L) L.length (wid L)).2) := if_pos hg
    unfold maxLen at hl2
    clear hg hs k1 hrow0 htab
    go_enter Tryd.func193, Tryd.ntmps193
    go_wp2_with fail
    generalize (w.alloc (.cells #[.slice (some ⟨bb, off, none⟩) L.length cp] 79)) = w1 at *
    refine (igood_any _ L w1 HS.out).mono ?_
    rintro e w2 ⟨rfl, ht⟩
    rw [HG.out]
    have y1 := cell_turn ht q1 (by omega)
    have y2 := cell_turn ht q2 (by omega)
    have s2 := ht.size
    have HS2 := Lib.hid (HS.out.touch ht)
    have K2 := Lib.hid (turn_trans K1.out ht (by omega))
    have HT2 := Lib.hid (HT.out.below ht.to_below (by omega))
    have hz2 : w.heap.size + 1 ≤ w2.heap.size := by omega
    clear ht q1 q2 z1
    go_wp2_with fail
    go_region_held3 (fun w' => w'.cell? ⟨w.heap.size, 0, none⟩ = some (.slice (some ⟨bb, off, none⟩) L.length cp) ∧ w'.cell? ⟨bb, off, none⟩ = some (.slice A0 (wid L) c0))
      (first | exact ⟨y1, y2⟩ | exact ⟨x1, x2⟩ | exact ⟨u1, u2⟩)
      (first
        | (go_at_call 189; refine (fieldGrid_own L.length (wid L) (ent L) _ w2.drew (HLE.out ▸ HS2.out) g1 (by omega) (by omega)).mono ?_; rintro e w3 ⟨v3, vs3, rfl, hM3, ht3⟩; have x1 := cell_turn ht3 (show w2.drew.cell? _ = _ from y1) (show _ < w2.heap.size by omega); have x2 := cell_turn ht3 (show w2.drew.cell? _ = _ from y2) (show _ < w2.heap.size by omega); have s3 : w2.heap.size ≤ w3.heap.size := ht3.size)
        | (go_at_call 209; refine (eliminate_any L.length (wid L) (wid L) _ _ (ent L) v3 vs3 w3 hM3 g1 (Nat.le_refl _) (by omega) (by omega) (HT2.out.below (show Below w2.heap.size w2 w3 from ⟨ht3.os, ht3.tape, ht3.output, ht3.size, fun k hk => ht3.block k hk (by omega)⟩) (by omega)) (show _ < w2.heap.size by omega)).mono ?_; rintro e w4 ⟨vs4, rfl, hM4, hK4⟩; have u1 := (World.cell?_of_block (hK4.block w.heap.size (by omega) (Or.inl (show _ < w2.heap.size by omega)))).trans x1; have u2 := (World.cell?_of_block (hK4.block bb (by omega) (Or.inl (show _ < w2.heap.size by omega)))).trans x2))
    go_wp2_with fail
    go_ret2
    have t3 : TurnIn 0 0 w w3 := turn_trans K2.out (⟨ht3.os, ht3.tape, ht3.output, ht3.size, ht3.block⟩ : TurnIn 0 0 w2 w3) (by omega)
    exact ⟨by rw [HR.out, HG.out]; rfl, turn_trans t3 hK4 (Or.inr (Or.inl (show w.heap.size ≤ w2.heap.size by omega)))⟩
  · have HG : Hid (goodM L = false) := by show goodM L = false; simpa using hg
    have HR : Hid (rankR L = 0) := if_neg hg
    clear hg hs k1 htab z1
    go_enter Tryd.func193, Tryd.ntmps193
    go_wp2_with fail
    refine (igood_any _ L _ HS.out).mono ?_
    rintro e w2 ⟨rfl, ht⟩
    rw [HG.out]
    go_wp2_with fail
    go_ret2
    exact ⟨by rw [HR.out, HG.out]; rfl, turn_of_below K1.out.to_below ht⟩
end Go.Proofs.YtjklngheehhggaaDoor

/- The program's InverseOf and Product. -/
namespace G294
open Go Go.RowKit
theorem inv_sol {L : Mat} (h : squareM L = true) : invOk L = solB (ent L) L.length := by
  unfold invOk solB rankN
  simp only [squareM, Bool.and_eq_true, decide_eq_true_eq] at h
  rw [show squareM L = true by simp [squareM, h.1, h.2.symm], ← h.2]; rfl
theorem TurnIn.undrew' {w w1 w' : World} (h : TurnIn 0 0 w w1) (t : TurnIn 0 0 w1.drew w') : TurnIn 0 0 w w' := TurnIn.of_below (TurnIn.base (⟨t.os, t.tape, t.output, t.size, t.block⟩ : TurnIn 0 0 w1 w') h.to_below h.size (by omega))
end G294
namespace Go.Proofs.YtjklngheehhggaaDoor
open Go.RowKit G294

set_option maxRecDepth 100000 in
set_option maxHeartbeats 4000000 in
theorem inverseOf_own (v : Value) (L : Mat) (w : World) (hs : SeenM w v L) (htab : Tab w) (h0 : 1 < w.heap.size) : Calls Tryd.prog 149 #[.agg #[v]] w (RetMatOk 5 22 w (invR L) (invOk L)) := by
  have kB : TurnIn 0 0 w ((w.alloc (.cells #[v] 79)).alloc (.cells #[.slice none 0 0] 79)) := turn_trans (turn_alloc _ _) (turn_alloc _ _) (by omega)
  have zB : ((w.alloc (.cells #[v] 79)).alloc (.cells #[.slice none 0 0] 79)).heap.size = w.heap.size + 2 := by simp
  have q0 : ((w.alloc (.cells #[v] 79)).alloc (.cells #[.slice none 0 0] 79)).cell? ⟨w.heap.size, 0, none⟩ = some v := by simp
  have q1 : ((w.alloc (.cells #[v] 79)).alloc (.cells #[.slice none 0 0] 79)).cell? ⟨w.heap.size + 1, 0, none⟩ = some (.slice none 0 0) := by simp
  have q1f : ((w.alloc (.cells #[v] 79)).alloc (.cells #[.slice none 0 0] 79)).frozen? ⟨w.heap.size + 1, 0, none⟩ = false := by simp
  have HS := Lib.hid (hs.touch kB)
  have HTAB := Lib.hid htab
  obtain ⟨A, cp, rfl, hlc, hcm⟩ := hs.len
  unfold maxLen at hcm
  have KB := Lib.hid kB
  clear hs htab kB
  go_enter Tryd.func149, Tryd.ntmps149
  go_wp2_with fail
  generalize ((w.alloc (.cells #[.slice A L.length cp] 79)).alloc (.cells #[.slice none 0 0] 79)) = w2 at *
  refine (squareMatrix_any _ L _ HS.out).mono ?_
  rintro e w3 ⟨rfl, k3⟩
  have cB := cell_turn k3 q0 (by omega)
  have cR := cell_turn k3 q1 (by omega)
  have cRf := frozen_turn k3 q1f (by omega)
  have hsz : w.heap.size + 2 ≤ w3.heap.size := by have := k3.size; omega
  have HS3 := Lib.hid (HS.out.touch k3)
  have KK3 := Lib.hid (turn_trans KB.out k3 (by omega))
  have HFAIL : Hid (invOk L = false → invR L = []) := fun h => if_neg (by rw [h]; simp)
  clear k3 q0 q1 q1f zB
  by_cases hg : squareM L = true
  · have HIS := Lib.hid (inv_sol hg)
    have hgg : goodM L = true ∧ L.length = wid L := by simpa [squareM] using hg
    obtain ⟨g1, g2, g3, g4, _⟩ := (goodM_iff L).1 hgg.1
    have HLE : Hid (L = mkM L.length L.length (ent L)) := by
      show L = mkM L.length L.length (ent L)
      have e := good_eq hgg.1
      rw [← hgg.2] at e
      exact e
    have HS4 : Hid (SeenM w3 (.slice A L.length cp) (mkM L.length L.length (ent L))) := by
      show SeenM w3 (.slice A L.length cp) (mkM L.length L.length (ent L))
      have e := HS3.out
      generalize hn : L.length = n at *
      have hL := HLE.out
      rw [hL] at e
      exact e
    rw [hg]
    clear hg hgg
    have HINV : Hid (invOk L = true → invR L = mkM L.length L.length (bst (ent L) idF L.length L.length)) := fun h => if_pos h
    generalize L.length = n at *
    go_wp2_with fail
    go_region_held3 (fun w' => w'.cell? ⟨w.heap.size, 0, none⟩ = some (.slice A n cp))
      (first | exact cB)
      (first
        | (go_at_call 189; refine (fieldGrid_own n n (ent L) _ w3.drew HS4.out g1 (by omega) (by omega)).mono ?_; rintro e wF ⟨vF, vsF, rfl, oF, kF⟩; have kk := KK3.out.undrew' kF; replace cB := cell_turn kF (show w3.drew.cell? _ = _ from cB) (show _ < w3.heap.size by omega); replace cR := cell_turn kF (show w3.drew.cell? _ = _ from cR) (show _ < w3.heap.size by omega); replace cRf := frozen_turn kF (show w3.drew.frozen? _ = _ from cRf) (show _ < w3.heap.size by omega); replace hsz : w.heap.size + 2 ≤ wF.heap.size := Nat.le_trans hsz kF.size)
        | (go_at_call 190; refine (identityGridF n wF (by omega)).mono ?_; rintro e wI ⟨vI, vsI, rfl, oI, kI⟩; replace oF := oF.keep kI (by omega); replace kk := turn_trans kk kI (by omega); replace cB := cell_turn kI cB (by omega); replace cR := cell_turn kI cR (by omega); replace cRf := frozen_turn kI cRf (by omega); replace hsz : w.heap.size + 2 ≤ wI.heap.size := Nat.le_trans hsz kI.size)
        | (go_at_call 190; refine (identityGridF n w3.drew (by omega)).mono ?_; rintro e wI ⟨vI, vsI, rfl, oI, kI⟩; have kk := KK3.out.undrew' kI; have HSI := Lib.hid ((show SeenM w3.drew (.slice A n cp) (mkM n n (ent L)) from HS4.out).touch kI); replace cB := cell_turn kI (show w3.drew.cell? _ = _ from cB) (show _ < w3.heap.size by omega); replace cR := cell_turn kI (show w3.drew.cell? _ = _ from cR) (show _ < w3.heap.size by omega); replace cRf := frozen_turn kI (show w3.drew.frozen? _ = _ from cRf) (show _ < w3.heap.size by omega); replace hsz : w.heap.size + 2 ≤ wI.heap.size := Nat.le_trans hsz kI.size)
        | (go_at_call 189; refine (fieldGrid_own n n (ent L) _ wI HSI.out g1 (by omega) (by omega)).mono ?_; rintro e wF ⟨vF, vsF, rfl, oF, kF⟩; replace oI := oI.keep kF (by omega); replace kk := turn_trans kk kF (by omega); replace cB := cell_turn kF cB (by omega); replace cR := cell_turn kF cR (by omega); replace cRf := frozen_turn kF cRf (by omega); replace hsz : w.heap.size + 2 ≤ wF.heap.size := Nat.le_trans hsz kF.size)
        | (go_at_call 188; refine (solved_own n n (ent L) idF _ _ _ oF.seen oI.seen g1 (by omega) (by omega) (HTAB.out.below kk.to_below h0) (by have := kk.size; omega)).mono ?_; rintro e w5 ⟨v5, vs5, rfl, o5, k5⟩; replace kk := turn_trans kk k5 (by omega); replace cB := cell_turn k5 cB (by omega); replace cR := cell_turn k5 cR (by omega); replace cRf := frozen_turn k5 cRf (by omega); replace hsz : w.heap.size + 2 ≤ w5.heap.size := Nat.le_trans hsz k5.size))
    all_goals
      have KK := Lib.hid kk
      have HO5 := Lib.hid o5
      clear kk o5 oF oI k5 kF kI
      by_cases hok : solB (ent L) n = true
      · have HOK := Lib.hid hok
        have HIV : Hid (invOk L = true) := by show invOk L = true; rw [HIS.out]; exact hok
        have e5 : solL (ent L) idF n n = mkM n n (bst (ent L) idF n n) := if_pos hok
        have HS5 : Hid (SeenM w5 v5 (mkM n n (bst (ent L) idF n n))) := by
          show SeenM w5 v5 _
          rw [← e5]; exact HO5.out.seen
        rw [show solOk (ent L) n = true from hok]
        clear hok e5
        go_wp2_with fail
        refine (matrixOf_own n n (bst (ent L) idF n n) _ _ HS5.out g1 (by omega) (by omega)).mono ?_
        rintro e w6 ⟨v6, vs6, rfl, hM6, ht6⟩
        obtain ⟨A', n', c', rfl⟩ := hM6.isSlice
        have hq := cell_turn ht6 cR (by omega)
        have hqf := frozen_turn ht6 cRf (by omega)
        have HF := Lib.hid (ret_store KK.out.to_below hM6 ht6 (w.heap.size + 1) 0 (by omega) (by omega) (.slice A' n' c'))
        clear hM6 ht6
        go_wp2_with fail
        refine bodyPost_ret (v := .tuple #[.agg #[.slice A' n' c'], .bool true]) (by simp [results, Tryd.results149, go_sem, hq]) rfl ?_
        exact ⟨.slice A' n' c', vs6, by rw [HIV.out], by rw [HINV.out HIV.out]; exact HF.out.1, HF.out.2⟩
      · have hok' : solB (ent L) n = false := by simpa using hok
        have HIV : Hid (invOk L = false) := by show invOk L = false; rw [HIS.out]; exact hok'
        rw [show solOk (ent L) n = false from hok']
        clear hok hok'
        go_wp2_with fail
        refine bodyPost_ret (v := .tuple #[.agg #[.slice none 0 0], .bool false]) (by simp [results, Tryd.results149, go_sem, cR]) rfl ?_
        exact ⟨_, [], by rw [HIV.out], by rw [HFAIL.out HIV.out]; exact OwnM.nil _ _ _ _, TurnIn.of_below (KK.out.to_below.setCell (Nat.le_succ _) _)⟩
  · have hg' : squareM L = false := by simpa using hg
    have HIV : Hid (invOk L = false) := by show invOk L = false; unfold invOk; rw [hg']; rfl
    rw [hg']
    clear hg hg'
    go_wp2_with fail
    refine bodyPost_ret (v := .tuple #[.agg #[.slice none 0 0], .bool false]) (by simp [results, Tryd.results149, go_sem, cR]) rfl ?_
    exact ⟨_, [], by rw [HIV.out], by rw [HFAIL.out HIV.out]; exact OwnM.nil _ _ _ _, TurnIn.of_below (KK3.out.to_below.setCell (Nat.le_succ _) _)⟩
end Go.Proofs.YtjklngheehhggaaDoor

/- decodedBy, the program's. -/
namespace G294
open Go Go.RowKit
/-- the rows that shards name -/
def usedM (L : Mat) (l : List Sh) : Mat := pickM L (l.map (·.1))
def dbOk (L : Mat) (l : List Sh) : Bool := invOk (usedM L l)
def dbR (L : Mat) (l : List Sh) (n : Nat) : List (List UInt8) := if dbOk L l = true then rowsT l.length l.length n (invF (usedM L l)) (l.map (·.2)) else []
theorem dbR_no {L : Mat} {l : List Sh} {n : Nat} (h : dbOk L l = false) : dbR L l n = [] := if_neg (by rw [h]; simp)
theorem dbR_yes {L : Mat} {l : List Sh} {n : Nat} (h : dbOk L l = true) : dbR L l n = rowsT l.length l.length n (invF (usedM L l)) (l.map (·.2)) := if_pos h
@[simp] theorem usedM_length (L : Mat) (l : List Sh) : (usedM L l).length = l.length := by simp [usedM]
theorem shardsF_texts (r c n : Nat) (F : Ents) (T : List (List UInt8)) : (shardsF r c n F T).map (·.2) = rowsT r c n F T := by
  simp [shardsF, rowsT, mkM, comb]
theorem OwnInts.isSlice {E : TypeId} {w : World} {lo hi : Nat} {v : Value} {l : List Int} (h : OwnInts E w lo hi v l) : ∃ A n c, v = .slice A n c := by
  rcases h.1.2 with ⟨hh, _⟩ | ⟨g, cap, cur, hh, _⟩ <;> exact ⟨_, _, _, hh⟩
/-- behind 'x, ok := f(..)': the result's rows lie in a box -/
def MidBox (T E EE : TypeId) (w2 : World) (L : Mat) (s : Value) (wx : World) : Prop := ∃ B A n c vs, s = .pointer (some ⟨B, 0, none⟩) ∧ w2.heap.size ≤ B ∧ Boxed wx B T (.slice A n c) ∧ OwnM E EE wx w2.heap.size wx.heap.size (.slice A n c) L vs ∧ Below w2.heap.size w2 wx
theorem mid_new {T E EE : TypeId} {w2 w5 : World} {L : Mat} {lo : Nat} {A : Option Addr} {n c : Nat} {vs : List Value} (h : OwnM E EE w5 lo w5.heap.size (.slice A n c) L vs) (hb : Below w2.heap.size w2 w5) (hl : w2.heap.size ≤ lo) : MidBox T E EE w2 L (.pointer (some ⟨w5.heap.size, 0, none⟩)) (w5.alloc (.cells #[.slice A n c] T)) :=
  ⟨w5.heap.size, A, n, c, vs, rfl, hb.size, Boxed.new _ _ _, (h.keep (turn_alloc _ _) (by omega)).wider hl (by simp) (Nat.le_refl _), hb.alloc hb.size _⟩
theorem mid_set {T E EE : TypeId} {w2 w5 : World} {L : Mat} {lo B : Nat} {A : Option Addr} {n c : Nat} {vs : List Value} {u : Value} (h : OwnM E EE w5 lo w5.heap.size (.slice A n c) L vs) (hb : Below w2.heap.size w2 w5) (hl : w2.heap.size ≤ lo) (hB : Boxed w5 B T u) (h1 : w2.heap.size ≤ B) (h2 : B < lo) : MidBox T E EE w2 L (.pointer (some ⟨B, 0, none⟩)) (w5.setCell ⟨B, 0, none⟩ (.slice A n c)) :=
  ⟨B, A, n, c, vs, rfl, h1, hB.set _, (h.keep (turn_setCell w5 B 0 _) (by omega)).wider hl (by simp) (by simp), hb.setCell (p := ⟨B, 0, none⟩) h1 _⟩
end G294
namespace Go.Proofs.YtjklngheehhggaaDoor
open Go.RowKit Go.Shelf G294

attribute [local go_sem] Oper.semAt_some

set_option maxRecDepth 100000 in
set_option maxHeartbeats 4000000 in
theorem decodedBy_own (v : Value) (L : Mat) (u : Value) (l : List Sh) (n : Nat) (w : World) (hm : SeenM w v L) (hu : SeenH w u l) (hln : l.length ≤ 1000)
    (hno : ∀ i, i < (l.map (·.1)).length → 0 ≤ (l.map (·.1)).getD i 0 ∧ (l.map (·.1)).getD i 0 < (L.length : Int)) (hn : ∀ j, j < l.length → ((l.map (·.2)).getD j []).length = n) (hn2 : n ≤ 1000) (ht : Tab w) (h0 : 1 < w.heap.size) :
    Calls Tryd.prog 83 #[.agg #[v], u] w (RetStrsOk 9 w (dbR L l n) (dbOk L l)) := by
  have HM0 := Lib.hid hm
  have HU0 := Lib.hid hu
  obtain ⟨A, cp, rfl, hlc, hcm⟩ := hm.len
  obtain ⟨Au, cu, rfl⟩ := hu.len
  unfold maxLen at hcm
  have HNO := Lib.hid hno
  have HTX := Lib.hid hn
  have HT0 := Lib.hid ht
  have HML : Hid ((l.map (·.1)).length ≤ 1048576) := by show _ ≤ _; simp; omega
  have HTL : Hid ((l.map (·.2)).length = l.length) := by show _ = _; simp
  clear hm hu hno hn ht
  have k1 := turn_alloc w (.cells #[.slice A L.length cp] 79)
  have z1 := World.size_alloc w (.cells #[.slice A L.length cp] 79)
  have c1 := alloc_cell w (.slice A L.length cp) 79
  refine (callsIn_wide (n := 5)).1 ?_
  refine callsIn_of_wp_marks Tryd.func83 rfl trivial ?_ rfl
  simp only [Tryd.ntmps83, List.size_toArray, List.length_cons, List.length_nil, Nat.reduceAdd, Nat.reduceSub, Array.replicate_succ, Array.replicate_zero, List.push_toArray, List.append_toArray, List.nil_append, List.cons_append]
  refine wpIn_wide.2 ?_
  go_upto_region 1 with fail
  generalize (w.alloc (.cells #[.slice A L.length cp] 79)) = w2 at *
  have hB2 : Below w2.heap.size w2 w2 := Below.refl _ _
  have l0 : (⟨w.heap.size, 0, none⟩ : Addr).block < w2.heap.size := by show w.heap.size < w2.heap.size; omega
  have HM : Hid (∀ W, Below w2.heap.size w2 W → SeenM W (.slice A L.length cp) L) := fun W h => (HM0.out.touch k1).below h
  have HU : Hid (∀ W, Below w2.heap.size w2 W → SeenH W (.slice Au l.length cu) l) := fun W h => (HU0.out.below k1.to_below).below h
  have HT : Hid (∀ W, Below w2.heap.size w2 W → Tab W ∧ 1 < W.heap.size) := fun W h => ⟨(HT0.out.below k1.to_below h0).below h (by omega), by have := h.size; omega⟩
  have KW := Lib.hid k1
  have HZ1 := Lib.hid z1
  have hz1 : w.heap.size < w2.heap.size := by omega
  clear k1 z1
  go_cut [6, 7] from 10 to 17 (fun s6 s7 wx => s7 = .bool (dbOk L l) ∧ MidBox 79 5 22 w2 (invR (usedM L l)) s6 wx)
  case first =>
    go_region_held3 (fun w' => Below w2.heap.size w2 w' ∧ w'.cell? ⟨w.heap.size, 0, none⟩ = some (.slice A L.length cp))
      (first | exact ⟨hB2.drew, c1⟩ | exact hS5 | exact hS4 | exact hS3 | exact sAlloc (by assumption) l0 _ | exact sSet (by assumption) l0 (by omega) _ | exact sSet (by assumption) l0 (by simp; omega) _)
      (first
        | (go_at_call 151; refine (numbersOf_own _ l _ (HU.out _ (And.left (by assumption))) (by omega)).mono ?_; rintro e w3 ⟨v3, rfl, o3, k3⟩; obtain ⟨A3, n3, c3, rfl⟩ := o3.isSlice; have hS3 := sTurn (by assumption) l0 k3; have hz3 := hS3.1.size; (first | (have bx := boxes1 (undrew k3)) | (have bx := boxes1 k3) | skip))
        | (go_at_call 150; refine (rowsAt_seen _ L _ (l.map (·.1)) _ (HM.out _ (And.left (by assumption))) (by first | exact o3.seen | exact (o3.keep (turn_alloc _ _) (by omega)).seen) HML.out HNO.out).mono ?_; rintro e w4 ⟨A4, n4, c4, rfl, s4, k4⟩; have hS4 := sTurn (by assumption) l0 k4; have hz4 := hS4.1.size; have hk4 := k4.size; (first | (replace bx := Boxed.turn bx k4) | (have bx := boxes1 k4) | skip); (try have bl := Boxed.lt bx))
        | (go_at_call 149; refine (inverseOf_own _ (usedM L l) _ (by first | exact s4 | exact s4.touch (turn_alloc _ _)) (HT.out _ (And.left (by assumption))).1 (HT.out _ (And.left (by assumption))).2).mono ?_; rintro e w5 ⟨v5, vs5, rfl, o5, k5⟩; obtain ⟨A5, n5, c5, rfl⟩ := o5.isSlice; have hS5 := sTurn (by assumption) l0 k5; have hz5 := hS5.1.size; have hk5 := k5.size; (first | (replace bx := Boxed.turn bx k5) | (have bx := boxes1 k5) | skip); (try have bxc := Boxed.cell bx); (try have bxf := Boxed.frozen bx)))
    all_goals (go_wp2_with fail; go_meet; exact ⟨rfl, by first | exact mid_new o5 hS5.1 (by omega) | exact mid_set o5 hS5.1 (by first | omega | (simp <;> omega)) bx (by first | omega | (simp <;> omega)) (by first | omega | (simp <;> omega))⟩)
  case rest =>
    obtain ⟨rfl, B6, A5, n5, c5, vs5, rfl, hB6, bx6, o5, hBx⟩ := hcut
    have HBX := Lib.hid hBx
    have hsx := hBx.size
    have hlx := bx6.lt
    have HBW : Hid (Below w.heap.size w wc) := KW.out.to_below.trans (hBx.mono (by omega))
    clear hBx c1
    by_cases hok : dbOk L l = true
    · have HOK := Lib.hid hok
      have HR := Lib.hid (dbR_yes (n := n) hok)
      have hiv : invOk (usedM L l) = true := hok
      have HIR : Hid (invR (usedM L l) = mkM l.length l.length (invF (usedM L l))) := by
        show invR (usedM L l) = _
        unfold invR
        rw [if_pos hiv, usedM_length]
      have hN : 1 ≤ l.length ∧ l.length ≤ 16 := by
        have h2 : squareM (usedM L l) = true := by simp only [invOk, Bool.and_eq_true] at hiv; exact hiv.1
        have h3 : goodM (usedM L l) = true := by simp only [squareM, Bool.and_eq_true] at h2; exact h2.1
        have h4 := (goodM_iff _).1 h3
        rw [usedM_length] at h4
        exact ⟨h4.1, h4.2.1⟩
      rw [HIR.out] at o5
      rw [hok]
      clear hok hiv
      generalize hNN : l.length = N at *
      have HN := Lib.hid hNN
      clear hNN
      obtain ⟨g5, c5', he5, hg5, hg5', hcp5, hcp5'⟩ := o5.sliceF (by omega)
      simp only [Value.slice.injEq] at he5
      obtain ⟨rfl, hn5, rfl⟩ := he5
      obtain rfl : N = n5 := hn5.symm
      have b8 := Boxed.new wc 23 (.slice none 0 0)
      have k8 := turn_alloc wc (.cells #[.slice none 0 0] 23)
      have z8 := World.size_alloc wc (.cells #[.slice none 0 0] 23)
      have bI := bx6.alloc (.cells #[.slice none 0 0] 23)
      have o8 := o5.keep k8 (by omega)
      go_wp2_with fail
      generalize (wc.alloc (.cells #[.slice none 0 0] 23)) = W8 at *
      have cI := bI.cell
      have HB8 := Lib.hid (k8.base HBW.out (by have := HBW.out.size; omega) (by omega))
      have hS8 : SeenH W8.drew (.slice Au N cu) l := by
        have := HU0.out.below HB8.out
        exact this
      go_region_held3 (fun w' => w'.cell? ⟨B6, 0, none⟩ = some (.slice (some ⟨g5, 0, none⟩) N c5))
        (first | exact cI)
        (first
          | (go_at_call 143; refine (textsOf_own _ l _ hS8 (by rw [HN.out]; omega)).mono ?_; rintro e w9 ⟨v9, rfl, o9, k9⟩; obtain ⟨A9, n9, c9, rfl⟩ := o9.isSlice; replace k9 := undrew k9; replace cI := cell_turn k9 cI (by omega))
          | (go_at_call 152; refine (shardsBy_any _ _ _ _ _).mono ?_; rintro e w' ⟨rfl, rfl⟩; have cI := cell_turn (turn_trans (turn_alloc w9 (.cells #[.slice (some ⟨g5, 0, none⟩) N c5] 79)) (turn_alloc _ (.cells #[.slice A9 n9 c9] 23)) (by omega)) cI (by have := k9.size; omega)))
      have k9s := k9.size
      generalize hn0 : w9.heap.size = h9 at *
      obtain ⟨W0, hW0⟩ : ∃ W0, W0 = ((w9.alloc (.cells #[.slice (some ⟨g5, 0, none⟩) N c5] 79)).alloc (.cells #[.slice A9 n9 c9] 23)) := ⟨_, rfl⟩
      have bM : Boxed W0 h9 79 (.slice (some ⟨g5, 0, none⟩) N c5) := by
        rw [hW0, ← hn0]; exact (Boxed.new w9 _ _).alloc _
      have bT : Boxed W0 (h9 + 1) 23 (.slice A9 n9 c9) := by
        have := Boxed.new (w9.alloc (.cells #[.slice (some ⟨g5, 0, none⟩) N c5] 79)) 23 (.slice A9 n9 c9)
        rw [World.size_alloc, hn0] at this; rw [hW0]; exact this
      have hsz : W0.heap.size = h9 + 2 := by rw [hW0]; simp [hn0]
      have k0 : TurnIn 0 0 w9 W0 := by
        rw [hW0]; exact turn_trans (turn_alloc _ _) (turn_alloc _ _) (by omega)
      have k90 : TurnIn 0 0 W8 W0 := turn_trans k9 k0 (by omega)
      have bS : Boxed W0 wc.heap.size 23 (.slice none 0 0) := Boxed.turn b8 k90
      have hB0 : Below w.heap.size w W0 := k90.base HB8.out (by have := HB8.out.size; omega) (by omega)
      have hM0 := o8.keep k90 (by omega)
      have hT0 := o9.keep k0 (by omega)
      rw [← hW0]
      have HINV : Hid (∀ W W', KeepBut (h9 + 2) wc.heap.size W0 W → (KeepBut (h9 + 2) wc.heap.size W W' ∨ Below W.heap.size W W') → KeepBut (h9 + 2) wc.heap.size W0 W') := fun W W' h h' => by
        rcases h' with h' | h'
        · exact h.trans h'
        · exact h.trans (KeepBut.of_below (h'.mono (by have := h.size; omega)))
      obtain ⟨i0, hi, hz0, hz1', hz2⟩ := info_parts infoStr
      have HM9 := Lib.hid hM0
      have HT9 := Lib.hid hT0
      have HB0 := Lib.hid hB0
      have hbd : wc.heap.size < h9 := by omega
      have hw8 : W8.drew.heap.size = W8.heap.size := rfl
      clear hW0 k0 k90 k9 hM0 hT0 cI o8 o9 b8 bI hn0 hS8
      go_wp2_with fail
      refine (wpIn_wide (n := 5)).1 ?_
      refine wpIn_rangeFunc_ownH rfl (by omega) (gf := 192) (lb := #[.pointer (some ⟨h9, 0, none⟩), .pointer (some ⟨h9 + 1, 0, none⟩)]) rfl trivial (enters_of Tryd.func192 (by kernel_rfl) rfl)
        (shardsBy_stops _ N N n h9 (h9 + 1) (invF (usedM L l)) (l.map (·.2)) (.slice (some ⟨g5, 0, none⟩) N c5) (.slice A9 n9 c9) W0 (KeepBut (h9 + 2) wc.heap.size) (KeepBut (h9 + 2) wc.heap.size W0) HTL.out (by omega) (by omega) (by omega) HTX.out (by omega)
          (fun W hW => ⟨⟨(hW.cell (by omega) (by omega)).trans bM.cell, (hW.cell (by omega) (by omega)).trans bT.cell⟩, ⟨(HM9.out.agree hW.size (fun j h1 h2 => hW.block j (by omega) (by omega))).seen, (HT9.out.agree hW.size (fun j h1 h2 => hW.block j (by omega) (by have : W8.drew.heap.size ≤ j := h1; omega))).seen⟩, HT0.out.below (hW.below HB0.out (by have := HB8.out.size; omega) (by have := HB8.out.size; omega)) h0, by have := hW.size; omega⟩)
          (fun W W' h h' => HINV.out W W' h (.inl h')) (fun W W' h h' => HINV.out W W' h (.inr h')) (fun W h => KeepBut.of_below (h.mono (by omega))) (by omega))
        (fun h h' => h.trans h') (KeepBut.putObj (by omega)) (Below.refl _ _) (fun _ => rfl)
        (fun pre W => (∃ v, Boxed W wc.heap.size 23 v ∧ W.ownsRow (h9 + 2) 9 1 v pre.length (strs (pre.map (·.2))) ∧ True) ∧ Below w.heap.size w W ∧ h9 + 2 ≤ W.heap.size)
        (fun _ _ _ => False)
        (OwnFrom.and (Own.from (holdsRow_own (h9 + 2) wc.heap.size 23 9 1 (fun pre : List Sh => pre.length) (fun pre => strs (pre.map (·.2))) (fun _ _ => True)) _) (OwnFrom.and (ownFrom_below (Nat.le_refl _) (by have := HB0.out.size; omega)) (fun s X Y row hs hg hr => Nat.le_trans hs hg.size)))
        (fun _ _ _ _ _ hs _ _ => hs)
        ⟨⟨_, bS, World.ownsRow_nil _ _ _ _, trivial⟩, HB0.out, by omega⟩
        (fun x a' W => ∃ Bx, h9 + 2 ≤ Bx ∧ W.heap[Bx]? = some (.cells #[.int .i64 x.1, .string (str x.2)] 87 (0, 0)) ∧ a' = { tmps := #[.agg #[.slice A L.length cp], .slice Au N cu, .pointer (some ⟨w.heap.size, 0, none⟩), undef, .slice none 0 0, .bool false,
          .pointer (some ⟨B6, 0, none⟩), .bool true, .pointer (some ⟨wc.heap.size, 0, none⟩), .pointer (some ⟨Bx, 0, none⟩), u10, u11, u12, u13, u14, u15, u16, u17, .bool true, .bool false,
          .agg #[.slice (some ⟨g5, 0, none⟩) N c5], .slice Au N cu, .slice A9 n9 c9, .func (.func 192) #[] #[.pointer (some ⟨h9, 0, none⟩), .pointer (some ⟨h9 + 1, 0, none⟩)], shV x, undef, undef, undef, undef, undef, undef], defers := [] })
        (fun x a' _ X Y row hs hg hr => by
          obtain ⟨Bx, e1, e2, e3⟩ := hs
          refine ⟨Bx, e1, ?_, e3⟩
          rw [hg.block Bx (Array.getElem?_eq_some_iff.1 e2).1 (fun e => by
            obtain ⟨o, ho, hoc⟩ := (hr Bx e.symm).2
            rw [e2] at ho
            cases ho
            simp [Obj.isCells] at hoc)]
          exact e2)
        ?assign ?body ?done ?stop
      case assign =>
        rintro ll pre x W K ⟨⟨v, hv, hrow, _⟩, hBw, hn0⟩ hK
        simp only [shV]
        gi_wp2_with fail
        exact hK _ _ ((KeepsOthers.alloc _ _).from _) (KeepBut.of_below ((Below.refl _ W).alloc hn0 _)) ⟨⟨v, hv.alloc _, hrow.alloc _, trivial⟩, hBw.alloc hBw.size _, by simp; omega⟩ ⟨W.heap.size, hn0, World.alloc_heap_new W _, rfl⟩
      case body =>
        rintro ll pre x a' W hl ⟨rr, hr⟩ ⟨⟨v, hv, hrow, _⟩, hBw, hn0⟩ ⟨Bx, hBx, hX, rfl⟩ hlt
        obtain ⟨no, sx⟩ := x
        have hc := hv.cell
        have cX1 : W.cell? ⟨Bx, 1, none⟩ = some (.string (str sx)) := by simp [World.cell?, hX]
        have HROW := Lib.hid hrow
        clear hrow
        simp only [shV]
        gi_wp2_with (gi_at_builtin; refine wpListIn_append_own _ rfl _ _ 23 rfl (h9 + 2) 9 i0 _ 1 16 Tryd.underlying23 hi hz0 hz1' hz2 rfl (by decide) _ pre.length _ rfl (HROW.out.alloc _) ⟨W.heap.size, 0, none⟩ 1 1 [.string (str sx)] rfl rfl (cell_one_new _ _ _) (by simp [Value.oneCell']) ?b1 ?b2 ?b3 ?_)
        case b1 => unfold maxLen; omega
        case b2 => omega
        case b3 => first | omega | (simp; omega)
        intro v' w3 hown' hgrow _
        obtain ⟨g', cap', rfl⟩ := ownsRow_succ hown'
        obtain ⟨hv1, hv2, hr2, hk2, hb2, hn2'⟩ := collect_step (e0 := w.heap.size) hv (by decide) HROW.out hown' hgrow (by have := HB8.out.size; omega) (by omega) hn0
        have hc1 := hv1.cell
        have hf1 := hv1.frozen
        have hr3 : (w3.setCell ⟨wc.heap.size, 0, none⟩ (.slice (some ⟨g', 0, none⟩) (pre.length + 1) cap')).ownsRow (h9 + 2) 9 1 (.slice (some ⟨g', 0, none⟩) (pre.length + 1) cap') (pre ++ [(no, sx)]).length (strs ((pre ++ [(no, sx)]).map (·.2))) := by
          rw [List.map_append, strs_append]; simpa [strs] using hr2
        clear hr2 hown' hgrow
        gi_wp2_with fail
        exact ⟨hk2.from _, hb2, ⟨⟨_, hv2, hr3, trivial⟩, hb2.below hBw (by have := HB8.out.size; omega) (by have := HB8.out.size; omega), hn2'⟩⟩
      case done =>
        rintro D ys W hD rfl ⟨⟨v, hv, hrow, _⟩, hBw, hn0⟩ hK
        have hc := hv.cell
        go_wp2_with fail
        refine ⟨by simp, .inl ⟨_, _, rfl, run_takeDeferred hK, ?_⟩⟩
        have hown := ownsRow_putObj hrow (.deferred none) hK rfl
        have hBe := hBw.trans (belowK_b (w := w) (Nat.le_refl _) W D _ (.deferred none) (by have := HB0.out.size; omega) hK rfl rfl)
        refine ⟨_, results_tmp2 rfl _ _ _, v, by rw [HOK.out]; rfl, ?_, TurnIn.of_below hBe⟩
        rw [HR.out]
        rw [shardsF_texts] at hown
        refine OwnStrs.of_made (w := w) (own_base ?_ (show w.heap.size ≤ h9 + 2 by have := HB8.out.size; omega))
        rw [rowsT_length]
        simpa using hown
      case stop =>
        rintro D c pre W _ _ h _
        exact h.elim
    · have hok' : dbOk L l = false := by simpa using hok
      have HOK := Lib.hid hok'
      have HR := Lib.hid (dbR_no (n := n) hok')
      rw [hok']
      clear hok hok' o5
      go_wp2_with fail
      refine ⟨_, results_tmp2 rfl _ _ _, .slice none 0 0, by rw [HOK.out]; rfl, ?_, TurnIn.of_below HBW.out⟩
      rw [HR.out]
      exact ⟨World.ownsRow_nil _ _ _ _, Nat.le_refl _, fun g e => by simp [Value.ownBlock] at e⟩

end Go.Proofs.YtjklngheehhggaaDoor

/- DecodeShards, the program's. -/
namespace G294
open Go Go.RowKit
theorem used_inv {k : Nat} (l : List Sh) (h1 : 1 ≤ k) (h2 : k ≤ 16) : invOk (mkM k k (usedF k l)) = usedOk k l := by
  have e : ent (mkM k k (usedF k l)) = usedF k l := by rw [used_mk]; rfl
  have g : goodM (mkM k k (usedF k l)) = true := good_mkM _ _ _ h1 h2 h1 h2
  unfold invOk squareM rankN usedOk
  rw [g, wid_mkM _ _ _ (by omega), mkM_length, e]
  simp
theorem used_cod {k q : Nat} {l : List Sh} (hk : k ≤ l.length) (hno : ∀ (i : Nat) (s : Sh), l[i]? = some s → 0 ≤ s.1 ∧ s.1 < ((k + q : Nat) : Int)) : usedM (codM k q) (l.take k) = mkM k k (usedF k l) := by
  have h1 : usedM (codM k q) (l.take k) = pickM (mkM (k + q) k (codF k)) (nosK k l) := rfl
  have hl := nosK_length hk
  rw [h1, pickM_mk (fun i hi => by
    rw [hl] at hi
    rw [nosK_get hk hi]
    exact hno i _ (by simp [List.getD, show i < l.length by omega])), hl, used_mk]
  exact mkM_congr fun i j hi hj => by rw [nosK_get hk hi]; rfl
theorem cod_ok {k q : Nat} {l : List Sh} (hk : k ≤ l.length) (h1 : 1 ≤ k) (h2 : k ≤ 16) (hno : ∀ (i : Nat) (s : Sh), l[i]? = some s → 0 ≤ s.1 ∧ s.1 < ((k + q : Nat) : Int)) : dbOk (codM k q) (l.take k) = usedOk k l := by
  unfold dbOk
  rw [used_cod hk hno, used_inv l h1 h2]
theorem cod_R {k q n : Nat} {l : List Sh} (hk : k ≤ l.length) (h1 : 1 ≤ k) (h2 : k ≤ 16) (hno : ∀ (i : Nat) (s : Sh), l[i]? = some s → 0 ≤ s.1 ∧ s.1 < ((k + q : Nat) : Int)) : dbR (codM k q) (l.take k) n = decY k n l := by
  have e : ent (mkM k k (usedF k l)) = usedF k l := by rw [used_mk]; rfl
  have ht : (l.take k).length = k := by simp; omega
  unfold dbR decY
  rw [cod_ok hk h1 h2 hno, ht, used_cod hk hno]
  unfold invF decX
  rw [e, mkM_length]
  rfl
theorem SeenH.take {w : World} {A : Option Addr} {c : Nat} {l : List Sh} (h : SeenH w (.slice A l.length c) l) (k : Nat) (hk : k ≤ l.length) : SeenH w (.slice A k c) (l.take k) := by
  obtain ⟨A', c', e, h1, h2, h3⟩ := h
  simp only [Value.slice.injEq, true_and] at e
  obtain ⟨rfl, rfl⟩ := e
  have ht : (l.take k).length = k := by simp; omega
  refine ⟨A, c, by rw [ht], by omega, h2, fun h0 => ?_⟩
  rw [ht] at h0
  obtain ⟨b, off, e, hb, hc⟩ := h3 (by omega)
  refine ⟨b, off, e, hb, fun i s hs => hc i s ?_⟩
  rw [List.getElem?_take] at hs
  split at hs
  · exact hs
  · cases hs
end G294
namespace Go.Proofs.YtjklngheehhggaaDoor
open Go.RowKit Go.Shelf G294

set_option maxRecDepth 100000 in
set_option maxHeartbeats 4000000 in
theorem decodeShards_own (v : Value) (l : List Sh) (k m : Int) (w : World) (hv : SeenH w v l) (hln : l.length ≤ 1048576) (ht : Tab w) (h0 : 1 < w.heap.size) :
    Calls Tryd.prog 170 #[v, .int .i64 k, .int .i64 m] w (RetStrsOk 9 w (decR l k m) (decOk l k m)) := by
  have HV := Lib.hid hv
  have HTB := Lib.hid ht
  obtain ⟨A, cp, rfl, hlc, hcm, hx⟩ := hv
  unfold maxLen at hcm
  clear ht
  by_cases hs : shapeOk k m = true
  · have HS := Lib.hid hs
    have hbs := shapeOk_b hs
    obtain ⟨p, rfl⟩ := Int.eq_ofNat_of_zero_le (show 0 ≤ k by omega)
    obtain ⟨q, rfl⟩ := Int.eq_ofNat_of_zero_le (show 0 ≤ m by omega)
    have HR1 := Lib.hid (codR_yes hs)
    have hp8 : 1 ≤ p ∧ p ≤ 8 := by omega
    have hq6 : 1 ≤ q ∧ q ≤ 6 := by omega
    clear hs
    have HPRE : Hid (preOk l p q = (shardsOk l ((p + q : Nat) : Int) && decide (p ≤ l.length))) := by
      show preOk l p q = _
      unfold preOk
      rw [HS.out, show (p : Int) + (q : Int) = ((p + q : Nat) : Int) by omega]
      simp
    have HNO : Hid (shardsOk l ((p + q : Nat) : Int) = true → ∀ (i : Nat) (s : Sh), l[i]? = some s → 0 ≤ s.1 ∧ s.1 < ((p + q : Nat) : Int)) := fun h => shards_no (by rw [show (p : Int) + (q : Int) = ((p + q : Nat) : Int) by omega]; exact h)
    by_cases hlen : p ≤ l.length
    · have hlb : decide (l.length < p) = false := by simpa using hlen
      obtain ⟨b, off, rfl, hbl, hcell⟩ := hx (by omega)
      clear hx hcell
      generalize hL : l.length = Ln at *
      have HL := Lib.hid hL
      clear hL
      go_enter Tryd.func170, Tryd.ntmps170
      go_wp2_with fail
      refine (codeMatrix_own p q _ HTB.out h0).mono ?_
      rintro e w1 ⟨v1, vs1, rfl, hM1, k1⟩
      rw [HR1.out] at hM1
      rw [HS.out]
      have hpr : 0 < (codM p q).length := by simp [codM]; omega
      obtain ⟨g1, cp1, rfl, hg1, hg1', hcp1, hcp1'⟩ := hM1.slice hpr
      have hlr : (codM p q).length = p + q := by simp [codM]
      rw [hlr] at hM1 hcp1 ⊢
      clear hpr hlr
      generalize hr : p + q = r at *
      have HRR := Lib.hid hr
      clear hr
      have hs1 := k1.size
      have a1 := turn_alloc w1 (.cells #[.slice (some ⟨g1, 0, none⟩) r cp1] 79)
      have z1 := World.size_alloc w1 (.cells #[.slice (some ⟨g1, 0, none⟩) r cp1] 79)
      have c1 := alloc_cell w1 (.slice (some ⟨g1, 0, none⟩) r cp1) 79
      have hB1 : Below w.heap.size w (w1.alloc (.cells #[.slice (some ⟨g1, 0, none⟩) r cp1] 79)) := a1.base k1.to_below (by omega) (by omega)
      replace hM1 := hM1.keep a1 (by omega)
      go_wp2_with fail
      refine (goodShards_any _ l _ _ (HV.out.below hB1) (by rw [HL.out]; omega)).mono ?_
      rintro e w3 ⟨rfl, k3⟩
      have hs3 := k3.size
      have HB3 := Lib.hid (k3.base hB1 (by omega) (by omega))
      have HM3 := Lib.hid (hM1.keep k3 (by omega))
      have c3 := cell_turn k3 c1 (by omega)
      clear hM1 c1 a1 hB1 k3
      by_cases hsh : shardsOk l (r : Int) = true
      · have hpre : preOk l p q = true := by rw [HPRE.out, hsh]; simpa using hlen
        have HO := Lib.hid (decOk_yes hpre)
        have HR := Lib.hid (decR_yes hpre)
        have hno := HNO.out hsh
        have hno' : ∀ (i : Nat) (s : Sh), l[i]? = some s → 0 ≤ s.1 ∧ s.1 < ((p + q : Nat) : Int) := by rw [HRR.out]; exact hno
        have hl1 : p ≤ l.length := by rw [HL.out]; exact hlen
        have HDO := Lib.hid (cod_ok hl1 hp8.1 (by omega) hno')
        have HDR := Lib.hid (cod_R (n := lenH l) hl1 hp8.1 (by omega) hno')
        have HTX : Hid (∀ j, j < (l.take p).length → (((l.take p).map (·.2)).getD j []).length = lenH l) := fun j hj => by
          have hj' : j < p := by simp at hj; omega
          have : j < l.length := by omega
          have e := shards_len hsh j l[j] (List.getElem?_eq_getElem this)
          have e2 : ((l.take p).map (·.2)).getD j [] = l[j].2 := by simp [List.getD, this, hj']
          rw [e2]; exact e
        have h40 := shards_40 hsh
        have HNN : Hid (∀ i, i < ((l.take p).map (·.1)).length → 0 ≤ ((l.take p).map (·.1)).getD i 0 ∧ ((l.take p).map (·.1)).getD i 0 < ((codM p q).length : Int)) := fun i hi => by
          have hi' : i < p := by simp at hi; omega
          have hil : i < l.length := by omega
          have e2 : ((l.take p).map (·.1)).getD i 0 = l[i].1 := by simp [List.getD, hil, hi']
          rw [e2, show (codM p q).length = p + q by simp [codM]]
          exact hno' i l[i] (List.getElem?_eq_getElem hil)
        have HSV : Hid (∀ W, Below w.heap.size w W → SeenH W (.slice (some ⟨b, off, none⟩) p cp) (l.take p)) := fun W hb => SeenH.take (by rw [HL.out]; exact HV.out.below hb) p hl1
        have hpc : (p : Int) ≤ (cp : Int) := by omega
        have hp0 : (0 : Int) ≤ (p : Int) := by omega
        rw [hsh]
        clear hsh hno hno' hl1 hpre
        have hlt3 : w1.heap.size < w3.heap.size := by omega
        go_wp2_with fail
        go_region_held3 (fun w' => w'.cell? ⟨w1.heap.size, 0, none⟩ = some (.slice (some ⟨g1, 0, none⟩) r cp1))
          (first | exact c3)
          (first | (go_at_call 83; refine (decodedBy_own _ (codM p q) _ (l.take p) (lenH l) (World.drew w3) (show SeenM w3.drew _ _ from HM3.out.seen) (HSV.out _ HB3.out.drew) (by simp; omega) HNN.out HTX.out (by omega) (HTB.out.below HB3.out.drew h0) (show _ < w3.heap.size by have := HB3.out.size; omega)).mono ?_; rintro e w5 ⟨v5, rfl, o5, k5⟩; replace k5 := undrew k5; replace c3 := cell_turn k5 c3 hlt3))
        all_goals
          rw [HDO.out] at *
          rw [HDR.out] at *
          go_wp2_with fail
          go_ret2
          refine ⟨v5, by rw [HO.out]; rfl, ?_, TurnIn.of_below (k5.base HB3.out (by have := HB3.out.size; omega) (by omega))⟩
          rw [HR.out]
          exact ⟨own_base o5.1 (by show w.heap.size ≤ w3.heap.size; have := HB3.out.size; omega), o5.2⟩
      · have hsh' : shardsOk l (r : Int) = false := by simpa using hsh
        have hpre : preOk l p q = false := by rw [HPRE.out, hsh']; rfl
        have HO := Lib.hid (decOk_no hpre)
        have HR := Lib.hid (decR_no hpre)
        rw [hsh']
        clear hsh hsh' hpre
        go_wp2_with fail
        go_ret2
        exact ⟨.slice none 0 0, by rw [HO.out]; rfl, by rw [HR.out]; exact ⟨World.ownsRow_nil _ _ _ _, Nat.le_refl _, fun g e => by simp [Value.ownBlock] at e⟩, TurnIn.of_below HB3.out⟩
    · have hlb : decide (l.length < p) = true := by simpa using hlen
      clear hx
      have hpre : preOk l p q = false := by rw [HPRE.out]; simp; omega
      have HO := Lib.hid (decOk_no hpre)
      have HR := Lib.hid (decR_no hpre)
      clear hpre
      generalize hL : l.length = Ln at *
      clear hL
      go_enter Tryd.func170, Tryd.ntmps170
      go_wp2_with fail
      refine (codeMatrix_own p q _ HTB.out h0).mono ?_
      rintro e w1 ⟨v1, vs1, rfl, hM1, k1⟩
      obtain ⟨A1, n1, c1, rfl⟩ := hM1.isSlice
      rw [HS.out]
      have hs1 := k1.size
      have a1 := turn_alloc w1 (.cells #[.slice A1 n1 c1] 79)
      have hB1 : Below w.heap.size w (w1.alloc (.cells #[.slice A1 n1 c1] 79)) := a1.base k1.to_below (by omega) (by omega)
      clear hM1
      go_wp2_with fail
      go_ret2
      exact ⟨.slice none 0 0, by rw [HO.out]; rfl, by rw [HR.out]; exact ⟨World.ownsRow_nil _ _ _ _, Nat.le_refl _, fun g e => by simp [Value.ownBlock] at e⟩, TurnIn.of_below hB1⟩
  · have hs1 : shapeOk k m = false := by simpa using hs
    have HS := Lib.hid hs1
    have hpre : preOk l k m = false := by rw [preOk, hs1]; simp
    have HO := Lib.hid (decOk_no hpre)
    have HR := Lib.hid (decR_no hpre)
    clear hpre hs hs1 hx
    go_enter Tryd.func170, Tryd.ntmps170
    go_wp2_with fail
    refine (codeMatrix_own k m _ HTB.out h0).mono ?_
    rintro e w1 ⟨v1, vs1, rfl, hM1, k1⟩
    obtain ⟨A1, n1, c1, rfl⟩ := hM1.isSlice
    rw [HS.out]
    have hs1 := k1.size
    have a1 := turn_alloc w1 (.cells #[.slice A1 n1 c1] 79)
    have hB1 : Below w.heap.size w (w1.alloc (.cells #[.slice A1 n1 c1] 79)) := a1.base k1.to_below (by omega) (by omega)
    clear hM1
    go_wp2_with fail
    go_ret2
    exact ⟨.slice none 0 0, by rw [HO.out]; rfl, by rw [HR.out]; exact ⟨World.ownsRow_nil _ _ _ _, Nat.le_refl _, fun g e => by simp [Value.ownBlock] at e⟩, TurnIn.of_below hB1⟩

end Go.Proofs.YtjklngheehhggaaDoor
