/- sideBySide and solved. -/
import Derived.Test.YtipmfebnjmobfaaDoorGrids2
set_option linter.unusedSimpArgs false
set_option linter.unusedVariables false
namespace G294
def solB (F : Ents) (n : Nat) : Bool := decide ((est F n n).2 = n)
end G294
namespace Go.Proofs.YtipmfebnjmobfaaDoor
open Go.RowKit G294

set_option maxRecDepth 100000 in
set_option maxHeartbeats 1000000 in
theorem sideBySide_own (r n c : Nat) (F G : Ents) (v u : Value) (w : World) (hs : SeenM w v (mkM r n F)) (hu : SeenM w u (mkM r c G)) (hr1 : 1 ≤ r) (hr : r ≤ 1000) (hn : n ≤ 400) (hc : c ≤ 400) :
    Calls Tryd.prog 168 #[v, u] w (RetM 160 183 w (mkM r (n + c) (hcF n F G))) := by
  have k3 : TurnIn 0 0 w (((w.alloc (.cells #[v] 162)).alloc (.cells #[u] 162)).alloc (.cells #[.int .i64 n] 3)) := turn_trans (turn_trans (turn_alloc _ _) (turn_alloc _ _) (by omega)) (turn_alloc _ _) (by omega)
  have z3 : (((w.alloc (.cells #[v] 162)).alloc (.cells #[u] 162)).alloc (.cells #[.int .i64 n] 3)).heap.size = w.heap.size + 3 := by simp
  have q1 : (((w.alloc (.cells #[v] 162)).alloc (.cells #[u] 162)).alloc (.cells #[.int .i64 n] 3)).cell? ⟨w.heap.size, 0, none⟩ = some v := cell_turn (turn_trans (turn_alloc _ _) (turn_alloc _ _) (by omega)) (show (w.alloc (.cells #[v] 162)).cell? ⟨w.heap.size, 0, none⟩ = some v by simp) (by simp)
  have q2 : (((w.alloc (.cells #[v] 162)).alloc (.cells #[u] 162)).alloc (.cells #[.int .i64 n] 3)).cell? ⟨w.heap.size + 1, 0, none⟩ = some u := alloc_mid_cell _ _ _ _ _
  have q3 : (((w.alloc (.cells #[v] 162)).alloc (.cells #[u] 162)).alloc (.cells #[.int .i64 n] 3)).cell? ⟨w.heap.size + 1 + 1, 0, none⟩ = some (.int .i64 n) := alloc_last_cell _ _ _ _ _
  have HG := Lib.hid (sideAt r n c (w.heap.size + 1 + 1) w.heap.size (w.heap.size + 1) F G v u _ (by omega) (by omega) (by omega) (by omega) (by omega) q3 q1 q2 (hs.touch k3) (hu.touch k3))
  obtain ⟨bb, off, cp, A1, c1, rfl, hl1, hbb, hrow0, hl2, _⟩ := hs.rowF 0 (by omega)
  obtain ⟨bb2, off2, cp2, A2, c2, rfl, hl3, hbb2, hrow2, hl4, _⟩ := hu.rowF 0 (by omega)
  rw [Nat.add_zero] at hrow0 hrow2
  have q5 := cell_turn k3 hrow2 hbb2
  have k2 : TurnIn 0 0 w ((w.alloc (.cells #[.slice (some ⟨bb, off, none⟩) r cp] 162)).alloc (.cells #[.slice (some ⟨bb2, off2, none⟩) r cp2] 162)) := turn_trans (turn_alloc _ _) (turn_alloc _ _) (by omega)
  have q6 := cell_turn k2 hrow0 hbb
  have K3 := Lib.hid k3
  have eg := enters_of Tryd.func187 (by kernel_rfl) rfl
  have hpos : 0 < r := hr1
  unfold maxLen at hl1 hl2 hl3 hl4
  clear hs hu k3 k2
  go_enter Tryd.func168, Tryd.ntmps168
  go_wp2_with fail
  generalize (((w.alloc (.cells #[.slice (some ⟨bb, off, none⟩) r cp] 162)).alloc (.cells #[.slice (some ⟨bb2, off2, none⟩) r cp2] 162)).alloc (.cells #[.int .i64 n] 3)) = w2 at *
  have Z3 := Lib.hid z3
  have hsum : IntKind.i64.wrap ((n : Int) + (c : Int)) = ((n + c : Nat) : Int) := by rw [IntWalk.i64_in _ (by omega)]; omega
  clear z3 q6
  go_region_held3 (fun w' => w'.cell? ⟨w.heap.size, 0, none⟩ = some (.slice (some ⟨bb, off, none⟩) r cp) ∧ w'.cell? ⟨w.heap.size + 1, 0, none⟩ = some (.slice (some ⟨bb2, off2, none⟩) r cp2) ∧ w'.cell? ⟨w.heap.size + 1 + 1, 0, none⟩ = some (.int .i64 n) ∧ w'.cell? ⟨bb2, off2, none⟩ = some (.slice A2 c c2))
    (first | exact ⟨q1, q2, q3, q5⟩ | exact ⟨y1, y2, y3, y5⟩)
    ((go_at_call 169; refine (newGridF r (n + c) _ _ _ w2.drew eg (HG.out.later (Below.refl _ _).drew) hr (by omega)).mono ?_; rintro e w' ⟨v', vs', rfl, hM, ht⟩; have z3 := Z3.out; have y1 := cell_turn ht (show w2.drew.cell? _ = _ from q1) (show _ < w2.heap.size by omega); have y2 := cell_turn ht (show w2.drew.cell? _ = _ from q2) (show _ < w2.heap.size by omega); have y3 := cell_turn ht (show w2.drew.cell? _ = _ from q3) (show _ < w2.heap.size by omega); have y5 := cell_turn ht (show w2.drew.cell? _ = _ from q5) (show _ < w2.heap.size by omega); clear z3))
  go_wp2_with fail
  go_ret
  exact RetM.base ⟨_, _, rfl, hM, ht⟩ K3.out.to_below.drew

def RetGridOk (E EE : TypeId) (w : World) (L : Mat) (ok : Bool) (e : Ending) (w' : World) : Prop := ∃ v vs, e = .returned (.tuple #[v, .bool ok]) ∧ OwnM E EE w' w.heap.size w'.heap.size v L vs ∧ TurnIn 0 0 w w'
abbrev solOk (F : Ents) (n : Nat) : Bool := solB F n
def solL (F G : Ents) (n c : Nat) : Mat := if solOk F n = true then mkM n c (bst F G n n) else []

set_option maxRecDepth 100000 in
set_option maxHeartbeats 2000000 in
theorem solved_own (n c : Nat) (F G : Ents) (v u : Value) (w : World) (hs : SeenM w v (mkM n n F)) (hu : SeenM w u (mkM n c G)) (hn1 : 1 ≤ n) (hn : n ≤ 400) (hc : c ≤ 400) (htab : Tab w) (h0 : 1 < w.heap.size) :
    Calls Tryd.prog 147 #[v, u] w (RetGridOk 160 183 w (solL F G n c) (solOk F n)) := by
  have k1 : TurnIn 0 0 w (w.alloc (.cells #[.int .i64 n] 3)) := turn_alloc _ _
  have q1 : (w.alloc (.cells #[.int .i64 n] 3)).cell? ⟨w.heap.size, 0, none⟩ = some (.int .i64 n) := by simp
  have z1 : (w.alloc (.cells #[.int .i64 n] 3)).heap.size = w.heap.size + 1 := by simp
  have HS := Lib.hid (hs.touch k1)
  have HU := Lib.hid (hu.touch k1)
  have HT := Lib.hid (htab.below k1.to_below h0)
  have hle := est_le F n n
  obtain ⟨A, cp, hvv, hl1, hl1'⟩ := hs.len
  rw [mkM_length] at hvv hl1
  obtain ⟨bb2, off2, cp2, A2, c2, rfl, hl3, hbb2, hrow2, hl4, _⟩ := hu.rowF 0 (by omega)
  rw [Nat.add_zero] at hrow2
  subst hvv
  have HR2 := Lib.hid hrow2
  have K1 := Lib.hid k1
  have hpos : 0 < n := hn1
  unfold maxLen at hl1' hl3 hl4
  clear hs hu htab k1 hrow2
  go_enter Tryd.func147, Tryd.ntmps147
  go_wp2_with fail
  generalize (w.alloc (.cells #[.int .i64 n] 3)) = w1 at *
  refine (sideBySide_own n n c F G _ _ _ HS.out HU.out hn1 (by omega) hn hc).mono ?_
  rintro e w2 ⟨y, vs, rfl, hM, ht⟩
  obtain ⟨g, cpb, rfl, hg1, hg2, hg3, hg4⟩ := hM.sliceF hn1
  have s2 := ht.size
  have p1 := cell_turn ht q1 (by omega)
  have k3 : TurnIn 0 0 w2 (w2.alloc (.cells #[.slice (some ⟨g, 0, none⟩) n cpb] 162)) := turn_alloc _ _
  have z3 : (w2.alloc (.cells #[.slice (some ⟨g, 0, none⟩) n cpb] 162)).heap.size = w2.heap.size + 1 := by simp
  have p2 := cell_turn k3 p1 (by omega)
  have p3 : (w2.alloc (.cells #[.slice (some ⟨g, 0, none⟩) n cpb] 162)).cell? ⟨w2.heap.size, 0, none⟩ = some (.slice (some ⟨g, 0, none⟩) n cpb) := by simp
  have HM := Lib.hid (hM.keep k3 (by omega))
  have K3 := Lib.hid (turn_trans ht k3 (by omega))
  have hT3 : Tab (w2.alloc (.cells #[.slice (some ⟨g, 0, none⟩) n cpb] 162)) := HT.out.below K3.out.to_below (by omega)
  have HT3 := Lib.hid hT3
  have Z3 := Lib.hid z3
  have hsz3 : w2.heap.size < (w2.alloc (.cells #[.slice (some ⟨g, 0, none⟩) n cpb] 162)).heap.size := by omega
  unfold maxLen at hg4
  clear hM ht k3 z3 p1 hT3 q1
  go_wp2_with fail
  generalize hw3 : (w2.alloc (.cells #[.slice (some ⟨g, 0, none⟩) n cpb] 162)) = w3 at *
  clear hw3
  have hgl : 1 < w1.heap.size := by omega
  go_region_held3 (fun w' => w'.cell? ⟨w.heap.size, 0, none⟩ = some (.int .i64 n) ∧ w'.cell? ⟨w2.heap.size, 0, none⟩ = some (.slice (some ⟨g, 0, none⟩) n cpb))
    (first | exact ⟨p2, p3⟩ | exact ⟨y2, y3⟩)
    ((go_at_call 144; refine (eliminate_any n (n + c) n _ _ (hcF n F G) _ vs w3.drew (HM.out.drewN 1) hn1 (by omega) (by omega) (by omega) HT3.out hgl).mono ?_; rintro e w4 ⟨vs4, rfl, hM4, hK4⟩; have y2 := (World.cell?_of_block (hK4.block w.heap.size (show w.heap.size < w3.heap.size by omega) (by omega))).trans (show w3.drew.cell? _ = _ from p2); have y3 := (World.cell?_of_block (hK4.block w2.heap.size (show w2.heap.size < w3.heap.size by omega) (by omega))).trans (show w3.drew.cell? _ = _ from p3)))
  rw [est_hc F G n n n (Nat.le_refl _)] at hM4 ⊢
  dsimp only at hM4 ⊢
  have kW4 : TurnIn 0 0 w w4 := turn_trans (turn_trans K1.out K3.out (by omega)) (⟨hK4.os, hK4.tape, hK4.output, hK4.size, hK4.block⟩ : TurnIn w1.heap.size w2.heap.size w3 w4) (by omega)
  have KW4 := Lib.hid kW4
  have s4 := hK4.size
  have s4' : w3.heap.size ≤ w4.heap.size := s4
  have hr4 := cell_turn kW4 HR2.out hbb2
  have HOK : Hid (solB F n = decide ((est F n n).2 = n)) := rfl
  have HLL : Hid (∀ b, solOk F n = b → solL F G n c = if b = true then mkM n c (bst F G n n) else []) := fun b h => by unfold solL; rw [h]
  have HG := Lib.hid (solvedAt n n c w2.heap.size w.heap.size (hcF n (est F n n).1 (bst F G n n)) _ w4 (by omega) (by omega) (by omega) (by omega) y3 y2 hM4.seen)
  have eg := enters_of Tryd.func170 (by kernel_rfl) rfl
  clear hM4 hK4 kW4 s4 p2 p3
  generalize (est F n n).2 = rk at *
  by_cases hrk : rk < n
  · have HO : Hid (solOk F n = false) := by show solB F n = false; rw [HOK.out]; simp; omega
    go_wp2_with fail
    go_ret2
    exact ⟨_, [], by rw [HO.out]; rfl, by rw [HLL.out false HO.out]; exact OwnM.nil _ _ _ _, KW4.out⟩
  · have HO : Hid (solOk F n = true) := by show solB F n = true; rw [HOK.out]; simp; omega
    have hd : decide (rk < n) = false := by simpa using hrk
    go_wp2_with fail
    go_region_held3 (fun w' => w'.cell? ⟨w.heap.size, 0, none⟩ = some (.int .i64 n) ∧ w'.cell? ⟨bb2, off2, none⟩ = some (.slice A2 c c2))
      (first | exact ⟨y2, hr4⟩ | exact ⟨x2, x3⟩)
      ((go_at_call 169; refine (newGridF n c _ _ _ w4.drew eg (HG.out.later (Below.refl _ _).drew) (by omega) (by omega)).mono ?_; rintro e w5 ⟨v5, vs5, rfl, hM5, ht5⟩; have x2 := cell_turn ht5 (show w4.drew.cell? _ = _ from y2) (show _ < w4.heap.size by omega); have x3 := cell_turn ht5 (show w4.drew.cell? _ = _ from hr4) (show _ < w4.heap.size by omega)))
    go_wp2_with fail
    go_ret2
    have hb5 := KW4.out.to_below.drew
    refine ⟨v5, vs5, by rw [HO.out]; rfl, ?_, turn_of_below hb5 ht5⟩
    rw [HLL.out true HO.out, if_pos rfl]
    exact (hM5.congr (mkM_congr fun i j _ _ => by unfold hcF; rw [if_neg (by omega)]; congr 1; omega)).wider hb5.size (Nat.le_refl _) (Nat.le_refl _)
end Go.Proofs.YtipmfebnjmobfaaDoor
