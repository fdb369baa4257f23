/- Joined texts: Solved, Grew, MatI2, MatI3, SolveI, CauMath, ErrLaw. -/
import Derived.Test.YtfglkgeeelapgaaGreatDoorBd07
import Derived.Test.YtfglkgeeelapgaaGreatDoorBd02
import Derived.Test.YtfglkgeeelapgaaGreatDoorBd03
import Derived.Deep.QuietTactic
import Derived.Test.YtfglkgeeelapgaaGreatDoorBd04
import Derived.Test.YtfglkgeeelapgaaGreatDoorBd00
import Derived.Test.YtfglkgeeelapgaaGreatDoorBd01
set_option linter.unusedSimpArgs false
set_option linter.unusedVariables false
/- sideBySide and solved. -/
namespace G294
def solB (F : Ents) (n : Nat) : Bool := decide ((est F n n).2 = n)
end G294
namespace Go.Proofs.YtfglkgeeelapgaaGreatDoor
open Go.RowKit G294

set_option maxRecDepth 100000 in
set_option maxHeartbeats 1000000 in
theorem sideBySide_own (r n c : Nat) (F G : Ents) (v u : Value) (w : World) (hs : SeenM w v (mkM r n F)) (hu : SeenM w u (mkM r c G)) (hr1 : 1 ≤ r) (hr : r ≤ 1000) (hn : n ≤ 400) (hc : c ≤ 400) :
    Calls Tryz.prog 104 #[v, u] w (RetM 115 147 w (mkM r (n + c) (hcF n F G))) := by
  have k3 : TurnIn 0 0 w (((w.alloc (.cells #[v] 113)).alloc (.cells #[u] 113)).alloc (.cells #[.int .i64 n] 3)) := turn_trans (turn_trans (turn_alloc _ _) (turn_alloc _ _) (by omega)) (turn_alloc _ _) (by omega)
  have z3 : (((w.alloc (.cells #[v] 113)).alloc (.cells #[u] 113)).alloc (.cells #[.int .i64 n] 3)).heap.size = w.heap.size + 3 := by simp
  have q1 : (((w.alloc (.cells #[v] 113)).alloc (.cells #[u] 113)).alloc (.cells #[.int .i64 n] 3)).cell? ⟨w.heap.size, 0, none⟩ = some v := cell_turn (turn_trans (turn_alloc _ _) (turn_alloc _ _) (by omega)) (show (w.alloc (.cells #[v] 113)).cell? ⟨w.heap.size, 0, none⟩ = some v by simp) (by simp)
  have q2 : (((w.alloc (.cells #[v] 113)).alloc (.cells #[u] 113)).alloc (.cells #[.int .i64 n] 3)).cell? ⟨w.heap.size + 1, 0, none⟩ = some u := alloc_mid_cell _ _ _ _ _
  have q3 : (((w.alloc (.cells #[v] 113)).alloc (.cells #[u] 113)).alloc (.cells #[.int .i64 n] 3)).cell? ⟨w.heap.size + 1 + 1, 0, none⟩ = some (.int .i64 n) := alloc_last_cell _ _ _ _ _
  have HG := Lib.hid (sideAt r n c (w.heap.size + 1 + 1) w.heap.size (w.heap.size + 1) F G v u _ (by omega) (by omega) (by omega) (by omega) (by omega) q3 q1 q2 (hs.touch k3) (hu.touch k3))
  obtain ⟨bb, off, cp, A1, c1, rfl, hl1, hbb, hrow0, hl2, _⟩ := hs.rowF 0 (by omega)
  obtain ⟨bb2, off2, cp2, A2, c2, rfl, hl3, hbb2, hrow2, hl4, _⟩ := hu.rowF 0 (by omega)
  rw [Nat.add_zero] at hrow0 hrow2
  have q5 := cell_turn k3 hrow2 hbb2
  have k2 : TurnIn 0 0 w ((w.alloc (.cells #[.slice (some ⟨bb, off, none⟩) r cp] 113)).alloc (.cells #[.slice (some ⟨bb2, off2, none⟩) r cp2] 113)) := turn_trans (turn_alloc _ _) (turn_alloc _ _) (by omega)
  have q6 := cell_turn k2 hrow0 hbb
  have K3 := Lib.hid k3
  have eg := enters_of Tryz.func113 (by kernel_rfl) rfl
  have hpos : 0 < r := hr1
  unfold maxLen at hl1 hl2 hl3 hl4
  clear hs hu k3 k2
  go_enter Tryz.func104, Tryz.ntmps104
  go_wp2_with fail
  generalize (((w.alloc (.cells #[.slice (some ⟨bb, off, none⟩) r cp] 113)).alloc (.cells #[.slice (some ⟨bb2, off2, none⟩) r cp2] 113)).alloc (.cells #[.int .i64 n] 3)) = w2 at *
  have Z3 := Lib.hid z3
  have hsum : IntKind.i64.wrap ((n : Int) + (c : Int)) = ((n + c : Nat) : Int) := by rw [IntWalk.i64_in _ (by omega)]; omega
  clear z3 q6
  go_region_held3 (fun w' => w'.cell? ⟨w.heap.size, 0, none⟩ = some (.slice (some ⟨bb, off, none⟩) r cp) ∧ w'.cell? ⟨w.heap.size + 1, 0, none⟩ = some (.slice (some ⟨bb2, off2, none⟩) r cp2) ∧ w'.cell? ⟨w.heap.size + 1 + 1, 0, none⟩ = some (.int .i64 n) ∧ w'.cell? ⟨bb2, off2, none⟩ = some (.slice A2 c c2))
    (first | exact ⟨q1, q2, q3, q5⟩ | exact ⟨y1, y2, y3, y5⟩)
    ((go_at_call 86; refine (newGridF r (n + c) _ _ _ w2.drew eg (HG.out.later (Below.refl _ _).drew) hr (by omega)).mono ?_; rintro e w' ⟨v', vs', rfl, hM, ht⟩; have z3 := Z3.out; have y1 := cell_turn ht (show w2.drew.cell? _ = _ from q1) (show _ < w2.heap.size by omega); have y2 := cell_turn ht (show w2.drew.cell? _ = _ from q2) (show _ < w2.heap.size by omega); have y3 := cell_turn ht (show w2.drew.cell? _ = _ from q3) (show _ < w2.heap.size by omega); have y5 := cell_turn ht (show w2.drew.cell? _ = _ from q5) (show _ < w2.heap.size by omega); clear z3))
  go_wp2_with fail
  go_ret
  exact RetM.base ⟨_, _, rfl, hM, ht⟩ K3.out.to_below.drew

def RetGridOk (E EE : TypeId) (w : World) (L : Mat) (ok : Bool) (e : Ending) (w' : World) : Prop := ∃ v vs, e = .returned (.tuple #[v, .bool ok]) ∧ OwnM E EE w' w.heap.size w'.heap.size v L vs ∧ TurnIn 0 0 w w'
abbrev solOk (F : Ents) (n : Nat) : Bool := solB F n
def solL (F G : Ents) (n c : Nat) : Mat := if solOk F n = true then mkM n c (bst F G n n) else []

set_option maxRecDepth 100000 in
set_option maxHeartbeats 2000000 in
theorem solved_own (n c : Nat) (F G : Ents) (v u : Value) (w : World) (hs : SeenM w v (mkM n n F)) (hu : SeenM w u (mkM n c G)) (hn1 : 1 ≤ n) (hn : n ≤ 400) (hc : c ≤ 400) (htab : Tab w) (h0 : 3 < w.heap.size) :
    Calls Tryz.prog 88 #[v, u] w (RetGridOk 115 147 w (solL F G n c) (solOk F n)) := by
  have k1 : TurnIn 0 0 w (w.alloc (.cells #[.int .i64 n] 3)) := turn_alloc _ _
  have q1 : (w.alloc (.cells #[.int .i64 n] 3)).cell? ⟨w.heap.size, 0, none⟩ = some (.int .i64 n) := by simp
  have z1 : (w.alloc (.cells #[.int .i64 n] 3)).heap.size = w.heap.size + 1 := by simp
  have HS := Lib.hid (hs.touch k1)
  have HU := Lib.hid (hu.touch k1)
  have HT := Lib.hid (htab.below k1.to_below h0)
  have hle := est_le F n n
  obtain ⟨A, cp, hvv, hl1, hl1'⟩ := hs.len
  rw [mkM_length] at hvv hl1
  obtain ⟨bb2, off2, cp2, A2, c2, rfl, hl3, hbb2, hrow2, hl4, _⟩ := hu.rowF 0 (by omega)
  rw [Nat.add_zero] at hrow2
  subst hvv
  have HR2 := Lib.hid hrow2
  have K1 := Lib.hid k1
  have hpos : 0 < n := hn1
  unfold maxLen at hl1' hl3 hl4
  clear hs hu htab k1 hrow2
  go_enter Tryz.func88, Tryz.ntmps88
  go_wp2_with fail
  generalize (w.alloc (.cells #[.int .i64 n] 3)) = w1 at *
  refine (sideBySide_own n n c F G _ _ _ HS.out HU.out hn1 (by omega) hn hc).mono ?_
  rintro e w2 ⟨y, vs, rfl, hM, ht⟩
  obtain ⟨g, cpb, rfl, hg1, hg2, hg3, hg4⟩ := hM.sliceF hn1
  have s2 := ht.size
  have p1 := cell_turn ht q1 (by omega)
  have k3 : TurnIn 0 0 w2 (w2.alloc (.cells #[.slice (some ⟨g, 0, none⟩) n cpb] 113)) := turn_alloc _ _
  have z3 : (w2.alloc (.cells #[.slice (some ⟨g, 0, none⟩) n cpb] 113)).heap.size = w2.heap.size + 1 := by simp
  have p2 := cell_turn k3 p1 (by omega)
  have p3 : (w2.alloc (.cells #[.slice (some ⟨g, 0, none⟩) n cpb] 113)).cell? ⟨w2.heap.size, 0, none⟩ = some (.slice (some ⟨g, 0, none⟩) n cpb) := by simp
  have HM := Lib.hid (hM.keep k3 (by omega))
  have K3 := Lib.hid (turn_trans ht k3 (by omega))
  have hT3 : Tab (w2.alloc (.cells #[.slice (some ⟨g, 0, none⟩) n cpb] 113)) := HT.out.below K3.out.to_below (by omega)
  have HT3 := Lib.hid hT3
  have Z3 := Lib.hid z3
  have hsz3 : w2.heap.size < (w2.alloc (.cells #[.slice (some ⟨g, 0, none⟩) n cpb] 113)).heap.size := by omega
  unfold maxLen at hg4
  clear hM ht k3 z3 p1 hT3 q1
  go_wp2_with fail
  generalize hw3 : (w2.alloc (.cells #[.slice (some ⟨g, 0, none⟩) n cpb] 113)) = w3 at *
  clear hw3
  have hgl : 3 < w1.heap.size := by omega
  go_region_held3 (fun w' => w'.cell? ⟨w.heap.size, 0, none⟩ = some (.int .i64 n) ∧ w'.cell? ⟨w2.heap.size, 0, none⟩ = some (.slice (some ⟨g, 0, none⟩) n cpb))
    (first | exact ⟨p2, p3⟩ | exact ⟨y2, y3⟩)
    ((go_at_call 105; refine (eliminate_any n (n + c) n _ _ (hcF n F G) _ vs w3.drew (HM.out.drewN 1) hn1 (by omega) (by omega) (by omega) HT3.out hgl).mono ?_; rintro e w4 ⟨vs4, rfl, hM4, hK4⟩; have y2 := (World.cell?_of_block (hK4.block w.heap.size (show w.heap.size < w3.heap.size by omega) (by omega))).trans (show w3.drew.cell? _ = _ from p2); have y3 := (World.cell?_of_block (hK4.block w2.heap.size (show w2.heap.size < w3.heap.size by omega) (by omega))).trans (show w3.drew.cell? _ = _ from p3)))
  rw [est_hc F G n n n (Nat.le_refl _)] at hM4 ⊢
  dsimp only at hM4 ⊢
  have kW4 : TurnIn 0 0 w w4 := turn_trans (turn_trans K1.out K3.out (by omega)) (⟨hK4.os, hK4.tape, hK4.output, hK4.size, hK4.block⟩ : TurnIn w1.heap.size w2.heap.size w3 w4) (by omega)
  have KW4 := Lib.hid kW4
  have s4 := hK4.size
  have s4' : w3.heap.size ≤ w4.heap.size := s4
  have hr4 := cell_turn kW4 HR2.out hbb2
  have HOK : Hid (solB F n = decide ((est F n n).2 = n)) := rfl
  have HLL : Hid (∀ b, solOk F n = b → solL F G n c = if b = true then mkM n c (bst F G n n) else []) := fun b h => by unfold solL; rw [h]
  have HG := Lib.hid (solvedAt n n c w2.heap.size w.heap.size (hcF n (est F n n).1 (bst F G n n)) _ w4 (by omega) (by omega) (by omega) (by omega) y3 y2 hM4.seen)
  have eg := enters_of Tryz.func106 (by kernel_rfl) rfl
  clear hM4 hK4 kW4 s4 p2 p3
  generalize (est F n n).2 = rk at *
  by_cases hrk : rk < n
  · have HO : Hid (solOk F n = false) := by show solB F n = false; rw [HOK.out]; simp; omega
    go_wp2_with fail
    go_ret2
    exact ⟨_, [], by rw [HO.out]; rfl, by rw [HLL.out false HO.out]; exact OwnM.nil _ _ _ _, KW4.out⟩
  · have HO : Hid (solOk F n = true) := by show solB F n = true; rw [HOK.out]; simp; omega
    have hd : decide (rk < n) = false := by simpa using hrk
    go_wp2_with fail
    go_region_held3 (fun w' => w'.cell? ⟨w.heap.size, 0, none⟩ = some (.int .i64 n) ∧ w'.cell? ⟨bb2, off2, none⟩ = some (.slice A2 c c2))
      (first | exact ⟨y2, hr4⟩ | exact ⟨x2, x3⟩)
      ((go_at_call 86; refine (newGridF n c _ _ _ w4.drew eg (HG.out.later (Below.refl _ _).drew) (by omega) (by omega)).mono ?_; rintro e w5 ⟨v5, vs5, rfl, hM5, ht5⟩; have x2 := cell_turn ht5 (show w4.drew.cell? _ = _ from y2) (show _ < w4.heap.size by omega); have x3 := cell_turn ht5 (show w4.drew.cell? _ = _ from hr4) (show _ < w4.heap.size by omega)))
    go_wp2_with fail
    go_ret2
    have hb5 := KW4.out.to_below.drew
    refine ⟨v5, vs5, by rw [HO.out]; rfl, ?_, turn_of_below hb5 ht5⟩
    rw [HLL.out true HO.out, if_pos rfl]
    exact (hM5.congr (mkM_congr fun i j _ _ => by unfold hcF; rw [if_neg (by omega)]; congr 1; omega)).wider hb5.size (Nat.le_refl _) (Nat.le_refl _)
end Go.Proofs.YtfglkgeeelapgaaGreatDoor

/- Regions that draw their order, whose operations read and whose callees lay new memory alone and answer the same in all such worlds. -/
namespace G294
open Go Go.RowKit
structure Grew (w : World) where
  at_ : World
  old : Below w.heap.size w at_
instance (w : World) : Inhabited (Grew w) := ⟨⟨w, Below.refl _ _⟩⟩
instance (w : World) : Nonempty (Grew w) := ⟨default⟩
theorem wp_region_grew {P : Program} {id : Nat} {Q : Exit → Act → World → Prop} {a : Act} {w : World} {l : List Oper} (hm : P.follows .mixedOrders = true) (hB : Region.lexB .any l.toArray = true)
    (h : wpQuiet P l.toArray (fun w' => ∃ p : Grew w, w' = p.at_) (fun a' => ∀ w', (∃ p : Grew w, w' = p.at_) → Q .normal a' w') l a) : (Code.region id l.toArray true).wp P Q a w :=
  wp_region_quiet (C := fun w' => ∃ p : Grew w, w' = p.at_) hm hB ⟨⟨w.drew, (Below.refl _ _).drew⟩, rfl⟩ (by simpa using h)
theorem grew_bool {P : Program} {f : FuncId} {args : Array Value} {w : World} {p : Grew w} {b : Bool} (h : Calls P f args p.at_ (RetBool p.at_ b)) :
    Calls P f args p.at_ fun e w'' => e = .returned (.bool b) ∧ ∃ q : Grew w, w'' = q.at_ :=
  h.mono fun _ w'' ⟨he, ht⟩ => ⟨he, ⟨w'', ht.base p.old p.old.size (by omega)⟩, rfl⟩
theorem grew_cell {w : World} {B o : Nat} {x : Value} (h : w.cell? ⟨B, o, none⟩ = some x) (hB : B < w.heap.size) (p : Grew w) : p.at_.cell? ⟨B, o, none⟩ = some x := (p.old.cell (p := ⟨B, o, none⟩) hB).trans h
end G294

/- The program's RankOf and InverseOf. -/
namespace G294
theorem int_beq (a b : Nat) : ((a : Int) == (b : Int)) = decide (a = b) := by
  by_cases h : a = b
  · subst h; simp
  · rw [decide_eq_false h, beq_eq_false_iff_ne]; omega
end G294
namespace Go.Proofs.YtfglkgeeelapgaaGreatDoor
open Go.RowKit G294

set_option maxRecDepth 100000 in
set_option maxHeartbeats 1000000 in
theorem squareMatrix_any (v : Value) (L : Mat) (w : World) (hs : SeenM w v L) : Calls Tryz.prog 85 #[.agg #[v]] w (RetBool w (squareM L)) := by
  have k1 : TurnIn 0 0 w (w.alloc (.cells #[v] 70)) := turn_alloc _ _
  have q1 : (w.alloc (.cells #[v] 70)).cell? ⟨w.heap.size, 0, none⟩ = some v := by simp
  have z1 : (w.alloc (.cells #[v] 70)).heap.size = w.heap.size + 1 := by simp
  have HS := Lib.hid (hs.touch k1)
  obtain ⟨A, cp, rfl, hlc, hcm⟩ := hs.len
  unfold maxLen at hcm
  have K1 := Lib.hid k1
  have Z1 := Lib.hid z1
  by_cases hg : goodM L = true
  · have HG := Lib.hid hg
    obtain ⟨g1, g2, g3, g4, _⟩ := (goodM_iff L).1 hg
    obtain ⟨bb, off, c9, A0, c0, hvv, _, hbb, hrow0, hl2, _⟩ := (show SeenM w (.slice A L.length cp) (mkM L.length (wid L) (ent L)) from (good_eq hg) ▸ hs).rowF 0 (by omega)
    simp only [Value.slice.injEq] at hvv
    obtain ⟨rfl, z9, rfl⟩ := hvv
    clear z9
    rw [Nat.add_zero] at hrow0
    have q2 := cell_turn k1 hrow0 hbb
    have hpos : 0 < L.length := g1
    have HSQ : Hid (squareM L = decide (L.length = wid L)) := by show squareM L = _; unfold squareM; rw [hg]; rfl
    unfold maxLen at hl2
    clear hg hs k1 hrow0 z1
    go_enter Tryz.func85, Tryz.ntmps85
    go_wp2_with fail
    generalize (w.alloc (.cells #[.slice (some ⟨bb, off, none⟩) L.length cp] 70)) = w1 at *
    go_region_held3 (fun w' => w'.cell? ⟨w.heap.size, 0, none⟩ = some (.slice (some ⟨bb, off, none⟩) L.length cp) ∧ w'.cell? ⟨bb, off, none⟩ = some (.slice A0 (wid L) c0))
      (first | exact ⟨q1, q2⟩ | exact ⟨y1, y2⟩)
      ((go_at_call 103; refine (igood_any _ L w1.drew HS.out).mono ?_; rintro e w2 ⟨rfl, ht⟩; rw [HG.out]; have z1 := Z1.out; have y1 := cell_turn ht (show w1.drew.cell? _ = _ from q1) (show _ < w1.heap.size by omega); have y2 := cell_turn ht (show w1.drew.cell? _ = _ from q2) (show _ < w1.heap.size by omega); clear z1))
    all_goals
      go_wp2_with fail
      go_ret
      exact ⟨by rw [HSQ.out, ← int_beq]; rfl, turn_of_below K1.out.to_below.drew ht⟩
  · have HG : Hid (goodM L = false) := by show goodM L = false; simpa using hg
    have HSQ : Hid (squareM L = false) := by show squareM L = false; unfold squareM; rw [HG.out]; rfl
    clear hg hs k1 z1
    go_enter Tryz.func85, Tryz.ntmps85
    go_wp2_with fail
    generalize (w.alloc (.cells #[.slice A L.length cp] 70)) = w1 at *
    have hz1 := Z1.out
    have hcc := grew_cell q1 (by omega)
    have HGG := Lib.hid (fun p : Grew w1 => HG.out ▸ grew_bool (igood_any _ L p.at_ (HS.out.below p.old)))
    clear q1 hz1
    refine wp_region_grew (by kernel_rfl) (by kernel_rfl) ?_
    repeat (first | go_big_quiet_skip | quiet_step ((go_at_call 103; exact HGG.out _)))
    refine wpQuiet_nil ?_
    rintro _ ⟨p, rfl⟩
    go_wp2_with fail
    go_ret
    exact ⟨by rw [HSQ.out]; rfl, turn_of_below K1.out.to_below (TurnIn.of_below p.old)⟩
end Go.Proofs.YtfglkgeeelapgaaGreatDoor

/- The program's InverseOf and Product. -/
namespace G294
open Go Go.RowKit
theorem inv_sol {L : Mat} (h : squareM L = true) : invOk L = solB (ent L) L.length := by
  unfold invOk solB rankN
  simp only [squareM, Bool.and_eq_true, decide_eq_true_eq] at h
  rw [show squareM L = true by simp [squareM, h.1, h.2.symm], ← h.2]; rfl
theorem TurnIn.undrew' {w w1 w' : World} (h : TurnIn 0 0 w w1) (t : TurnIn 0 0 w1.drew w') : TurnIn 0 0 w w' := TurnIn.of_below (TurnIn.base (⟨t.os, t.tape, t.output, t.size, t.block⟩ : TurnIn 0 0 w1 w') h.to_below h.size (by omega))
end G294
namespace Go.Proofs.YtfglkgeeelapgaaGreatDoor
open Go.RowKit G294
end Go.Proofs.YtfglkgeeelapgaaGreatDoor

/- The program's Solve. -/
namespace G294
open Go Go.RowKit
def slvF (b : List UInt8) : Ents := fun i _ => b.getD i 0
def slvOk (L : Mat) (b : List UInt8) : Bool := squareM L && decide (b.length = L.length) && solB (ent L) L.length
def slvL (F : Ents) (n : Nat) (b : List UInt8) : List UInt8 := mkRow n fun i => bst F (slvF b) n n i 0
def slvF' (F : Ents) (n : Nat) (b : List UInt8) : List UInt8 := if solB F n = true then slvL F n b else []
theorem square_mk {n : Nat} {F : Ents} (h1 : 1 ≤ n) (h2 : n ≤ 16) : squareM (mkM n n F) = true := by
  have hw := wid_mkM n n F (by omega)
  simp only [squareM, goodM, hw, mkM_length, Bool.and_eq_true, decide_eq_true_eq]
  exact ⟨⟨h1, h2, h1, h2, fun i hi => by rw [mkM_getD _ _ _ _ hi, mkRow_length]⟩, trivial⟩
def slvR (L : Mat) (b : List UInt8) : List UInt8 := if slvOk L b = true then slvL (ent L) L.length b else []
theorem boxes2c {w : World} {v v' : Value} {T T' : TypeId} : ((w.alloc (.cells #[v] T)).alloc (.cells #[v'] T')).cell? ⟨w.heap.size, 0, none⟩ = some v ∧ ((w.alloc (.cells #[v] T)).alloc (.cells #[v'] T')).cell? ⟨w.heap.size + 1, 0, none⟩ = some v' := by
  refine ⟨cell_turn (turn_alloc _ _) (show (w.alloc (.cells #[v] T)).cell? ⟨w.heap.size, 0, none⟩ = some v by simp) (by simp), ?_⟩
  have h : ((w.alloc (.cells #[v] T)).alloc (.cells #[v'] T')).cell? ⟨(w.alloc (.cells #[v] T)).heap.size, 0, none⟩ = some v' := by simp
  rwa [World.size_alloc] at h
end G294
namespace Go.Proofs.YtfglkgeeelapgaaGreatDoor
open Go.RowKit G294

set_option maxRecDepth 100000 in
set_option maxHeartbeats 1000000 in
theorem solveAt (n Bv : Nat) (b : List UInt8) (v : Value) (w : World) (hBv : Bv < w.heap.size) (hn : n ≤ 1000) (hbl : b.length = n) (hv : w.cell? ⟨Bv, 0, none⟩ = some v) (hs : Seen w v (bys b)) :
    GivesAt Tryz.prog 87 #[.pointer (some ⟨Bv, 0, none⟩)] n 1 (slvF b) w := by
  intro W i j hb hi hj
  have hv' := (hb.cell (p := ⟨Bv, 0, none⟩) hBv).trans hv
  obtain ⟨bb, off, c, rfl, hbb, hlm, hcell⟩ := seen_cellsB hs (by omega)
  have hib : i < b.length := by omega
  have hci := hcell W hb i _ (bys_get b i hib)
  rw [Addr.add_lit, show b[i] = b.getD i 0 by simp [List.getD, hib]] at hci
  have HF : Hid (slvF b i j = b.getD i 0) := rfl
  rw [hbl] at *
  have hi' : (i : Int) < (n : Int) := by omega
  generalize b.getD i 0 = x at *
  clear hcell hs hv
  go_enter Tryz.func87, Tryz.ntmps87
  go_wp2_with fail
  go_ret
  exact ⟨by rw [HF.out]; rfl, 0, rfl⟩

set_option maxRecDepth 100000 in
set_option maxHeartbeats 4000000 in
theorem solveF_own (n : Nat) (F : Ents) (vm vb : Value) (b : List UInt8) (w : World) (hs : SeenM w vm (mkM n n F)) (hb : Seen w vb (bys b)) (g1 : 1 ≤ n) (g2 : n ≤ 16) (hbn : b.length = n) (htab : Tab w) (h0 : 3 < w.heap.size) :
    Calls Tryz.prog 58 #[.agg #[vm], vb] w (RetBytesOk 5 w (slvF' F n b) (solB F n)) := by
  obtain ⟨qa, qb⟩ := boxes2c (w := w) (v := vm) (v' := vb) (T := 70) (T' := 22)
  have kB : TurnIn 0 0 w ((w.alloc (.cells #[vm] 70)).alloc (.cells #[vb] 22)) := turn_trans (turn_alloc _ _) (turn_alloc _ _) (by omega)
  have zB : ((w.alloc (.cells #[vm] 70)).alloc (.cells #[vb] 22)).heap.size = w.heap.size + 2 := by simp
  have HS := Lib.hid (hs.touch kB)
  have HV := Lib.hid (hb.touch kB)
  have HTAB := Lib.hid htab
  obtain ⟨A, cp, hvv, hlc, hcm⟩ := hs.len
  rw [mkM_length] at hvv hlc
  subst hvv
  obtain ⟨A', c', hvv⟩ := hb.len
  rw [bys_length, hbn] at hvv
  subst hvv
  unfold maxLen at hcm
  have HBN : Hid (b.length = n) := hbn
  have KB := Lib.hid kB
  clear hs hb htab kB hbn
  have HFAIL : Hid (solB F n = false → slvF' F n b = []) := fun h => if_neg (by rw [h]; simp)
  have HR : Hid (solB F n = true → slvF' F n b = slvL F n b) := fun h => if_pos h
  have HSQ : Hid (squareM (mkM n n F) = true) := by show _ = _; exact square_mk g1 g2
  have hnn : ((n : Int) != (n : Int)) = false := by simp
  go_enter Tryz.func58, Tryz.ntmps58
  go_wp2_with fail
  generalize hw2 : ((w.alloc (.cells #[.slice A n cp] 70)).alloc (.cells #[.slice A' n c'] 22)) = w2 at *
  clear hw2
  refine (squareMatrix_any _ (mkM n n F) _ HS.out).mono ?_
  rintro e w3 ⟨rfl, k3⟩
  rw [HSQ.out]
  have qa3 := cell_turn k3 qa (by omega)
  have qb3 := cell_turn k3 qb (by omega)
  have z3 := k3.size
  have kk3 := turn_trans KB.out k3 (by omega)
  have HS3 := Lib.hid (HS.out.touch k3)
  have HV3 := Lib.hid (HV.out.touch k3)
  clear k3 qa qb
  have eg := enters_of Tryz.func87 (by kernel_rfl) rfl
  have HG := Lib.hid (solveAt n (w.heap.size + 1) b (.slice A' n c') w3 (by omega) (by omega) HBN.out qb3 HV3.out)
  go_wp2_with fail
  refine (newGridF n 1 _ _ _ w3 eg HG.out (by omega) (by omega)).mono ?_
  rintro e w4 ⟨v4, vs4, rfl, o4, k4⟩
  have qa4 := cell_turn k4 qa3 (by omega)
  have z4 := k4.size
  have kk4 := turn_trans kk3 k4 (by omega)
  have HS4 := Lib.hid (HS3.out.touch k4)
  clear k4 qa3 qb3 kk3 HG eg
  go_wp2_with fail
  refine (fieldGrid_own n n F _ w4 HS4.out g1 (by omega) (by omega)).mono ?_
  rintro e w5 ⟨v5, vs5, rfl, o5, k5⟩
  have z5 := k5.size
  have kk5 := turn_trans kk4 k5 (by omega)
  replace o4 := o4.keep k5 (by omega)
  clear k5 kk4 qa4
  go_wp2_with fail
  refine (solved_own n 1 F (slvF b) _ _ w5 o5.seen o4.seen g1 (by omega) (by omega) (HTAB.out.below kk5.to_below h0) (by omega)).mono ?_
  rintro e w6 ⟨v6, vs6, rfl, o6, k6⟩
  have z6 := k6.size
  have kk6 := turn_trans kk5 k6 (by omega)
  have HO6 := Lib.hid o6
  clear k6 kk5 o4 o5 o6
  by_cases hok : solB F n = true
  · have HO : Hid (solB F n = true) := by show _ = _; exact hok
    have e6 : solL F (slvF b) n 1 = mkM n 1 (bst F (slvF b) n n) := if_pos hok
    have HS6 : Hid (SeenM w6 v6 (mkM n 1 (bst F (slvF b) n n))) := by
      show SeenM w6 v6 _
      rw [← e6]; exact HO6.out.seen
    rw [show solOk F n = true from hok]
    clear hok e6
    go_wp2_with fail
    refine (turnedF n 1 _ _ w6 HS6.out g1 (by omega) (by omega)).mono ?_
    rintro e w7 ⟨v7, vs7, rfl, o7, k7⟩
    have z7 := k7.size
    have kk7 := turn_trans kk6 k7 (by omega)
    clear k7 kk6
    go_wp2_with fail
    refine (matrixOf_own 1 n _ _ w7 o7.seen (by omega) (by omega) (by omega)).mono ?_
    rintro e w8 ⟨v8, vs8, rfl, o8, k8⟩
    have kk8 := turn_trans kk7 k8 (by omega)
    have z8 := k8.size
    obtain ⟨g, cg, rfl, hg1, hg2, hg3, hg4⟩ := o8.sliceF (by omega)
    obtain ⟨u, hu, hou⟩ := o8.at 0 (by simp)
    have hcu := o8.cellAt hu
    rw [mkM_getD _ _ _ _ (by omega)] at hou
    obtain ⟨A9, n9, c9, rfl⟩ := own_isSlice hou.1
    unfold maxLen at hg4
    have HOU := Lib.hid (hou.wider (lo' := w.heap.size) (hi' := w8.heap.size) (by omega) (Nat.le_refl _) (Nat.le_refl _))
    have h01 : (0 : Int) < (1 : Int) := by omega
    have hfd : ∀ (W : World) (x : Value), (Instr.field 70 (.agg #[x]) 0).run Tryz.prog W = .ok x W := fun W x => by simp [go_sem, Instr.field, asAgg, run_underlying Tryz.underlying70]
    clear o7 o8 k8 kk7 hou hu
    go_wp2_with fail
    go_ret2
    refine ⟨_, by rw [HO.out]; rfl, ?_, kk8⟩
    rw [HR.out HO.out]
    exact HOU.out
  · have hok' : solB F n = false := by simpa using hok
    have HO : Hid (solB F n = false) := by show _ = _; exact hok'
    rw [show solOk F n = false from hok']
    clear hok hok'
    go_wp2_with fail
    go_ret2
    exact ⟨.slice none 0 0, by rw [HO.out]; rfl, by rw [HFAIL.out HO.out]; exact OwnBytes.nil _ _ _, kk6⟩

set_option maxRecDepth 100000 in
set_option maxHeartbeats 4000000 in
theorem solve_own (vm vb : Value) (L : Mat) (b : List UInt8) (w : World) (hs : SeenM w vm L) (hb : Seen w vb (bys b)) (htab : Tab w) (h0 : 3 < w.heap.size) :
    Calls Tryz.prog 58 #[.agg #[vm], vb] w (RetBytesOk 5 w (slvR L b) (slvOk L b)) := by
  by_cases hgb : squareM L = true ∧ b.length = L.length
  · have hg := hgb.1
    have hgg : goodM L = true ∧ L.length = wid L := by simpa [squareM] using hg
    obtain ⟨g1, g2, g3, g4, _⟩ := (goodM_iff L).1 hgg.1
    have e : L = mkM L.length L.length (ent L) := by
      have e := good_eq hgg.1
      rw [← hgg.2] at e
      exact e
    have e1 : slvOk L b = solB (ent L) L.length := by unfold slvOk; rw [hg]; simp [hgb.2]
    have e2 : slvR L b = slvF' (ent L) L.length b := by unfold slvR slvF'; rw [e1]
    rw [e1, e2]
    exact solveF_own L.length (ent L) vm vb b w (e ▸ hs) hb g1 g2 hgb.2 htab h0
  obtain ⟨qa, qb⟩ := boxes2c (w := w) (v := vm) (v' := vb) (T := 70) (T' := 22)
  have kB : TurnIn 0 0 w ((w.alloc (.cells #[vm] 70)).alloc (.cells #[vb] 22)) := turn_trans (turn_alloc _ _) (turn_alloc _ _) (by omega)
  have zB : ((w.alloc (.cells #[vm] 70)).alloc (.cells #[vb] 22)).heap.size = w.heap.size + 2 := by simp
  have HS := Lib.hid (hs.touch kB)
  have HV := Lib.hid (hb.touch kB)
  have HTAB := Lib.hid htab
  obtain ⟨A, cp, rfl, hlc, hcm⟩ := hs.len
  obtain ⟨A', c', hvv⟩ := hb.len
  rw [bys_length] at hvv
  subst hvv
  unfold maxLen at hcm
  have hbm : b.length ≤ 9223372036854775807 := by
    obtain ⟨_, _, e, h1, h2, _⟩ := hb
    simp only [Value.slice.injEq, bys_length] at e h1
    unfold maxLen at h2; omega
  have KB := Lib.hid kB
  clear hs hb htab kB
  have HFAIL : Hid (slvOk L b = false → slvR L b = []) := fun h => if_neg (by rw [h]; simp)
  by_cases hg : squareM L = true
  · have hgg : goodM L = true ∧ L.length = wid L := by simpa [squareM] using hg
    obtain ⟨g1, g2, g3, g4, _⟩ := (goodM_iff L).1 hgg.1
    have HLE : Hid (L = mkM L.length L.length (ent L)) := by
      show L = mkM L.length L.length (ent L)
      have e := good_eq hgg.1
      rw [← hgg.2] at e
      exact e
    have HSQ := Lib.hid hg
    have HOK : Hid (slvOk L b = (decide (b.length = L.length) && solB (ent L) L.length)) := by show _ = _; unfold slvOk; rw [hg]; rfl
    have HSM : Hid (∀ W, SeenM W (.slice A L.length cp) L → SeenM W (.slice A L.length cp) (mkM L.length L.length (ent L))) := fun W h => by rw [← HLE.out]; exact h
    have HR : Hid (slvOk L b = true → slvR L b = slvL (ent L) L.length b) := fun h => if_pos h
    clear hg hgg
    generalize hm : b.length = m at *
    generalize hn : L.length = n at *
    have HN := Lib.hid hn
    have HBN := Lib.hid hm
    clear hn hm
    have hbn : m ≠ n := fun e => hgb ⟨HSQ.out, e⟩
    have HO : Hid (slvOk L b = false) := by show _ = _; rw [HOK.out]; simp [hbn]
    have hnn : ((m : Int) != (n : Int)) = true := by rw [bne_iff_ne]; omega
    go_enter Tryz.func58, Tryz.ntmps58
    go_wp2_with fail
    generalize hw2 : ((w.alloc (.cells #[.slice A n cp] 70)).alloc (.cells #[.slice A' m c'] 22)) = w2 at *
    clear hw2
    refine (squareMatrix_any _ L _ HS.out).mono ?_
    rintro e w3 ⟨rfl, k3⟩
    rw [HSQ.out]
    have qa3 := cell_turn k3 qa (by omega)
    have qb3 := cell_turn k3 qb (by omega)
    have kk3 := turn_trans KB.out k3 (by omega)
    clear k3 qa qb
    go_wp2_with fail
    go_ret2
    exact ⟨.slice none 0 0, by rw [HO.out]; rfl, by rw [HFAIL.out HO.out]; exact OwnBytes.nil _ _ _, kk3⟩
  · have HSQ : Hid (squareM L = false) := by show _ = _; simpa using hg
    have HO : Hid (slvOk L b = false) := by show _ = _; unfold slvOk; rw [HSQ.out]; rfl
    clear hg
    generalize b.length = m at *
    go_enter Tryz.func58, Tryz.ntmps58
    go_wp2_with fail
    generalize hw2 : ((w.alloc (.cells #[.slice A L.length cp] 70)).alloc (.cells #[.slice A' m c'] 22)) = w2 at *
    clear hw2
    refine (squareMatrix_any _ L _ HS.out).mono ?_
    rintro e w3 ⟨rfl, k3⟩
    rw [HSQ.out]
    have kk3 := turn_trans KB.out k3 (by omega)
    clear k3
    go_wp2_with fail
    go_ret2
    exact ⟨.slice none 0 0, by rw [HO.out]; rfl, by rw [HFAIL.out HO.out]; exact OwnBytes.nil _ _ _, kk3⟩

end Go.Proofs.YtfglkgeeelapgaaGreatDoor

/- Cauchy's matrix has no kernel; any k rows of the code's matrix have none. -/
namespace G294
theorem gmul_left_comm (a b c : UInt8) : gmul a (gmul b c) = gmul b (gmul a c) := by rw [← gmul_assoc, gmul_comm a b, gmul_assoc]
/-- a sum over a list -/
def sumL {α : Type} (l : List α) (f : α → UInt8) : UInt8 := l.foldr (fun x s => f x ^^^ s) 0
@[simp] theorem sumL_nil {α : Type} (f : α → UInt8) : sumL [] f = 0 := rfl
@[simp] theorem sumL_cons {α : Type} (x : α) (l : List α) (f : α → UInt8) : sumL (x :: l) f = f x ^^^ sumL l f := rfl
theorem sumL_append {α : Type} (l m : List α) (f : α → UInt8) : sumL (l ++ m) f = sumL l f ^^^ sumL m f := by
  induction l with
  | nil => simp
  | cons x l ih => simp [ih, UInt8.xor_assoc]
theorem sumL_range (n : Nat) (f : Nat → UInt8) : sumL (List.range n) f = sumK n f := by
  induction n with
  | zero => rfl
  | succ n ih => rw [List.range_succ, sumL_append, ih]; simp [sumK]
theorem sumL_congr {α : Type} {l : List α} {f g : α → UInt8} (h : ∀ x ∈ l, f x = g x) : sumL l f = sumL l g := by
  induction l with
  | nil => rfl
  | cons x l ih => simp [h x (by simp), ih fun y hy => h y (by simp [hy])]
theorem sumL_xor {α : Type} (l : List α) (f g : α → UInt8) : sumL l (fun x => f x ^^^ g x) = sumL l f ^^^ sumL l g := by
  induction l with
  | nil => simp
  | cons x l ih => simp only [sumL_cons, ih]; exact x4 _ _ _ _
theorem sumL_mul {α : Type} (a : UInt8) (l : List α) (f : α → UInt8) : sumL l (fun x => gmul a (f x)) = gmul a (sumL l f) := by
  induction l with
  | nil => simp [gmul_zero]
  | cons x l ih => simp only [sumL_cons, ih, gmul_xor]
theorem sumL_filter {α : Type} (p : α → Bool) (l : List α) (f : α → UInt8) (h : ∀ x ∈ l, p x = false → f x = 0) : sumL (l.filter p) f = sumL l f := by
  induction l with
  | nil => rfl
  | cons x l ih =>
    have ih := ih fun y hy => h y (by simp [hy])
    cases e : p x with
    | true => simp [List.filter_cons, e, ih]
    | false => simp [List.filter_cons, e, ih, h x (by simp) e]
theorem sumL_zero {α : Type} (l : List α) : sumL l (fun _ => 0) = 0 := by
  induction l with
  | nil => rfl
  | cons x l ih => simp [ih]
theorem sumL_map {α β : Type} (g : α → β) (l : List α) (f : β → UInt8) : sumL (l.map g) f = sumL l (fun x => f (g x)) := by
  induction l with
  | nil => rfl
  | cons x l ih => simp [ih]
theorem cau_term {u v d : UInt8} (hu : u ≠ 0) (hv : v ≠ 0) : gmul (u ^^^ d) (ginv u) ^^^ gmul (v ^^^ d) (ginv v) = gmul (u ^^^ v) (gmul d (gmul (ginv v) (ginv u))) := by
  have e1 : gmul u (gmul d (gmul (ginv v) (ginv u))) = gmul d (ginv v) := by
    rw [gmul_left_comm u d, gmul_left_comm u (ginv v), gmul_ginv hu, gmul_one]
  have e2 : gmul v (gmul d (gmul (ginv v) (ginv u))) = gmul d (ginv u) := by
    rw [gmul_left_comm v d, ← gmul_assoc v, gmul_ginv hv, one_gmul]
  rw [xor_gmul, xor_gmul, xor_gmul, gmul_ginv hu, gmul_ginv hv, e1, e2, x4, x_self, UInt8.zero_xor, UInt8.xor_comm]
/-- Cauchy's matrix has no kernel -/
theorem cau_list : ∀ (ys xs : List UInt8) (a : UInt8 → UInt8), ys.length ≤ xs.length → xs.Nodup → ys.Nodup → (∀ x ∈ xs, ∀ y ∈ ys, x ≠ y) →
    (∀ x ∈ xs, sumL ys (fun y => gmul (a y) (ginv (x ^^^ y))) = 0) → ∀ y ∈ ys, a y = 0
  | [], _, _, _, _, _, _, _ => by simp
  | Y :: ys, [], _, h, _, _, _, _ => by simp at h
  | Y :: ys, X :: xs, a, hl, hx, hy, hd, hs => by
    have hx' := List.nodup_cons.1 hx
    have hy' := List.nodup_cons.1 hy
    have hXY : X ^^^ Y ≠ 0 := x_ne (hd X (by simp) Y (by simp))
    have mul : ∀ x ∈ X :: xs, a Y = sumL ys (fun y => gmul (a y) (gmul (x ^^^ Y) (ginv (x ^^^ y)))) := by
      intro x hx1
      have h1 := hs x hx1
      have hxY : x ^^^ Y ≠ 0 := x_ne (hd x hx1 Y (by simp))
      have h2 := congrArg (gmul (x ^^^ Y)) h1
      rw [sumL_cons, gmul_xor, gmul_zero, gmul_left_comm, gmul_ginv hxY, gmul_one, ← sumL_mul] at h2
      rw [x_eq h2]
      exact sumL_congr fun y _ => gmul_left_comm _ _ _
    have hb : ∀ y ∈ ys, gmul (a y) (gmul (y ^^^ Y) (ginv (X ^^^ y))) = 0 := by
      refine cau_list ys xs (fun y => gmul (a y) (gmul (y ^^^ Y) (ginv (X ^^^ y)))) (by simpa using hl) hx'.2 hy'.2 (fun x h1 y h2 => hd x (by simp [h1]) y (by simp [h2])) ?_
      intro x h1
      have hxX : x ^^^ X ≠ 0 := x_ne fun e => hx'.1 (e ▸ h1)
      have e := (mul x (by simp [h1])).symm.trans (mul X (by simp))
      have e2 : sumL ys (fun y => gmul (a y) (gmul (x ^^^ Y) (ginv (x ^^^ y))) ^^^ gmul (a y) (gmul (X ^^^ Y) (ginv (X ^^^ y)))) = 0 := by rw [sumL_xor, e, x_self]
      have e3 : sumL ys (fun y => gmul (x ^^^ X) (gmul (gmul (a y) (gmul (y ^^^ Y) (ginv (X ^^^ y)))) (ginv (x ^^^ y)))) = 0 := by
        rw [← e2]
        refine sumL_congr fun y h2 => ?_
        have n1 : x ^^^ y ≠ 0 := x_ne (hd x (by simp [h1]) y (by simp [h2]))
        have n2 : X ^^^ y ≠ 0 := x_ne (hd X (by simp) y (by simp [h2]))
        have t := cau_term (d := y ^^^ Y) n1 n2
        have w1 : x ^^^ y ^^^ (y ^^^ Y) = x ^^^ Y := by rw [UInt8.xor_assoc, ← UInt8.xor_assoc y y Y, x_self, UInt8.zero_xor]
        have w2 : X ^^^ y ^^^ (y ^^^ Y) = X ^^^ Y := by rw [UInt8.xor_assoc, ← UInt8.xor_assoc y y Y, x_self, UInt8.zero_xor]
        have w3 : x ^^^ y ^^^ (X ^^^ y) = x ^^^ X := by rw [x4, x_self, UInt8.xor_zero]
        rw [w1, w2, w3] at t
        rw [← gmul_xor, t]
        rw [gmul_assoc, gmul_assoc, gmul_left_comm (x ^^^ X) (a y)]
      rw [sumL_mul] at e3
      exact g_cancel hxX e3
    have ha : ∀ y ∈ ys, a y = 0 := fun y h2 => by
      have n1 : y ^^^ Y ≠ 0 := x_ne fun e => hy'.1 (e ▸ h2)
      have n2 : X ^^^ y ≠ 0 := x_ne (hd X (by simp) y (by simp [h2]))
      have := hb y h2
      rw [gmul_comm] at this
      exact g_cancel (g_ne n1 (ginv_ne n2)) this
    intro y h2
    rcases List.mem_cons.1 h2 with rfl | h2
    · rw [mul X (by simp), sumL_congr (g := fun _ => 0) (fun z hz => by rw [ha z hz, zero_gmul])]
      exact sumL_zero ys
    · exact ha y h2
theorem len_sub {α : Type} [DecidableEq α] : ∀ {l l' : List α}, l.Nodup → (∀ x ∈ l, x ∈ l') → l.length ≤ l'.length
  | [], _, _, _ => by simp
  | x :: l, l', hn, hs => by
    have h1 := List.nodup_cons.1 hn
    have hx := hs x (by simp)
    have := len_sub (l' := l'.erase x) h1.2 fun y hy => (List.mem_erase_of_ne (show y ≠ x from fun e => h1.1 (by rw [← e]; exact hy))).2 (hs y (by simp [hy]))
    rw [List.length_erase_of_mem hx] at this
    have : 0 < l'.length := List.length_pos_of_mem hx
    simp; omega
theorem len_parts {α : Type} (p : α → Bool) (l : List α) : (l.filter p).length + (l.filter fun x => !p x).length = l.length := by
  induction l with
  | nil => rfl
  | cons x l ih => cases e : p x <;> simp [List.filter_cons, e] <;> omega
end G294

/- Chapter 8's mathematics: code words and their distance, located and corrected errors (Peterson; Gorenstein and Zierler). -/
namespace G294
theorem powB_add (x : UInt8) (m n : Nat) : powB x (m + n) = gmul (powB x m) (powB x n) := by
  induction n with
  | zero => rw [Nat.add_zero, powB_zero, gmul_one]
  | succ n ih => rw [← Nat.add_assoc, powB_succ, ih, powB_succ, gmul_assoc]
theorem powB_pow (x : UInt8) (m n : Nat) : powB (powB x m) n = powB x (m * n) := by
  induction n with
  | zero => rw [Nat.mul_zero, powB_zero, powB_zero]
  | succ n ih => rw [powB_succ, ih, Nat.mul_succ, powB_add]
theorem powB_swap (x : UInt8) (m n : Nat) : powB (powB x m) n = powB (powB x n) m := by rw [powB_pow, powB_pow, Nat.mul_comm]
theorem powB_ne {x : UInt8} (h : x ≠ 0) (n : Nat) : powB x n ≠ 0 := by
  induction n with
  | zero => rw [powB_zero]; decide
  | succ n ih => rw [powB_succ]; exact g_ne ih h
theorem powB_inv {x : UInt8} (h : x ≠ 0) (n : Nat) : gmul (powB x n) (powB (ginv x) n) = 1 := by
  induction n with
  | zero => rw [powB_zero, powB_zero, gmul_one]
  | succ n ih =>
    rw [powB_succ, powB_succ, gmul_assoc, gmul_comm (powB (ginv x) n), ← gmul_assoc x, gmul_ginv h, one_gmul, ih]
theorem pow3_ne (n : Nat) : powB 3 n ≠ 0 := powB_ne (by decide) n
theorem pow3_inj {i j : Nat} (hi : i < 255) (hj : j < 255) (h : powB 3 i = powB 3 j) : i = j := by
  have := congrArg UInt8.toNat h
  rw [powB_toNat, powB_toNat] at this
  exact gp_inj hi hj this
theorem hor_sum (x : UInt8) (l : List UInt8) : hor x l = sumK l.length fun p => gmul (l.getD p 0) (powB x p) := by
  conv => lhs; rw [eq_mkRow l]
  rw [hor_mk]
  exact sumK_congr fun p _ => gmul_comm _ _
theorem hor_sum' (x : UInt8) (n : Nat) (f : Nat → UInt8) : hor x (mkRow n f) = sumK n fun p => gmul (f p) (powB x p) := by
  rw [hor_mk]; exact sumK_congr fun p _ => gmul_comm _ _
/-- a sum of powers that vanishes for the first m exponents vanishes for every polynomial -/
theorem poly_sum {n m : Nat} (c X : Nat → UInt8) (h : ∀ i, i < m → sumK n (fun p => gmul (c p) (powB (X p) (i + 1))) = 0) (l : List UInt8) (hl : l.length ≤ m) :
    sumK n (fun p => gmul (c p) (gmul (X p) (hor (X p) l))) = 0 := by
  have e : ∀ p, gmul (c p) (gmul (X p) (hor (X p) l)) = sumK l.length fun j => gmul (l.getD j 0) (gmul (c p) (powB (X p) (j + 1))) := fun p => by
    rw [gmul_comm (X p)]
    conv => lhs; rw [eq_mkRow l]
    rw [hor_up, ← sumK_mul]
    exact sumK_congr fun j _ => by rw [gmul_comm _ (l.getD j 0), gmul_left_comm]
  rw [sumK_congr (g := fun p => sumK l.length fun j => gmul (l.getD j 0) (gmul (c p) (powB (X p) (j + 1)))) (fun p _ => e p), sumK_swap]
  rw [sumK_congr (g := fun _ => 0) (fun j hj => by rw [sumK_mul, h j (by omega), gmul_zero]), sumK_zero]
/-- so every term of it vanishes -/
theorem dual_zero {n m : Nat} {c X : Nat → UInt8} (ha : apartX X n) (h0 : ∀ p, p < n → X p ≠ 0) (h : ∀ i, i < m → sumK n (fun p => gmul (c p) (powB (X p) (i + 1))) = 0) (hnm : n ≤ m) :
    ∀ q, q < n → c q = 0 := by
  intro q hq
  obtain ⟨l, hl, hv⟩ := (upK_poly X q n).2 hq
  replace hv : ∀ x, upK X q x n = hor x l := hv
  have hs := poly_sum c X h l (by omega)
  rw [sumK_one _ hq (fun p hp hne => by rw [← hv, upK_zero hne n hp, gmul_zero, gmul_zero]), ← hv, gmul_comm] at hs
  exact g_cancel (g_ne (h0 q hq) (upK_ne n fun j hj hne => apart_ne ha hq hj (Ne.symm hne))) hs
theorem full_ker {F : Ents} {n : Nat} {u : Nat → UInt8} (h : (est F n n).2 = n) (hk : kerAt F n n u) : ∀ j, j < n → u j = 0 := by
  intro j hj
  have e : sumK n (fun l => gmul (idF j l) (u l)) = u j := by
    rw [sumK_one _ hj (fun l _ hne => by simp [idF, show ¬ j = l from fun e => hne e.symm, zero_gmul])]
    simp [idF, one_gmul]
  rw [← e, sumK_congr (g := fun l => sumK n fun i => gmul (bst F idF n n j i) (gmul (F i l) (u l))) (fun l hl => by
    rw [← inv_left h hj hl, ← sumK_mulr]; exact sumK_congr fun i _ => gmul_assoc _ _ _), sumK_swap]
  rw [sumK_congr (g := fun _ => 0) (fun i hi => by rw [sumK_mul, hk i hi, gmul_zero]), sumK_zero]
/-- the one solution -/
theorem full_sol {F : Ents} {n : Nat} {b x : Nat → UInt8} (h : (est F n n).2 = n) (hx : ∀ i, i < n → sumK n (fun j => gmul (F i j) (x j)) = b i) {i : Nat} (hi : i < n) :
    bst F (fun i _ => b i) n n i 0 = x i := by
  rw [bst_lin F _ n n i 0 hi, sumK_congr (g := fun l => sumK n fun j => gmul (bst F idF n n i l) (gmul (F l j) (x j))) (fun l hl => by
    show gmul _ (b l) = _
    rw [← hx l hl, sumK_mul]), sumK_swap]
  rw [sumK_congr (g := fun j => gmul (idF i j) (x j)) (fun j hj => by
    rw [← inv_left h hi hj, ← sumK_mulr]; exact sumK_congr fun l _ => (gmul_assoc _ _ _).symm)]
  rw [sumK_one _ hi (fun l _ hne => by simp [idF, show ¬ i = l from fun e => hne e.symm, zero_gmul])]
  simp [idF, one_gmul]
/-- a polynomial times x + r has that value -/
theorem hor_mulR (x r : UInt8) (a : List UInt8) : hor x (mulR r a) = gmul (hor x a) (x ^^^ r) := by
  have e : mulR r a = addL (0 :: a) (scaleL r a ++ [0]) := by
    refine ext_getD (by rw [addL_lenS _ _ (by simp [scaleL])]; simp) fun j hj => ?_
    rw [mulR_getD r a j (by simpa using hj), addL_getD _ _ (by simp [scaleL])]
    congr 1
    · cases j <;> simp [List.getD]
    · rw [gmul_comm]
      rcases Nat.lt_or_ge j a.length with h | h
      · rw [← getD_scale]; simp [List.getD, List.getElem?_append, scaleL, h]
      · have hj' : j = a.length := by have : j < a.length + 1 := by simpa using hj
                                      omega
        subst hj'
        simp [List.getD, List.getElem?_append, scaleL, gmul_zero]
  rw [e, hor_addL _ _ _ (by simp [scaleL]), hor_cons0]
  have e2 : hor x (scaleL r a ++ [0]) = gmul r (hor x a) := by
    rw [hor_snoc, gmul_zero, UInt8.xor_zero, hor_scaleL]
  rw [e2, gmul_xor, gmul_comm r]
theorem mulR_monic (r : UInt8) (q : List UInt8) : ∃ q', q'.length = q.length + 1 ∧ mulR r (q ++ [1]) = q' ++ [1] := by
  refine ⟨(mulR r (q ++ [1])).take (q.length + 1), by simp, ?_⟩
  have hl : (mulR r (q ++ [1])).length = q.length + 1 + 1 := by simp
  have h1 : (mulR r (q ++ [1])).getD (q.length + 1) 0 = 1 := by
    rw [mulR_getD _ _ _ (by simp), if_neg (by omega)]
    simp [List.getD, zero_gmul]
  conv => lhs; rw [← List.take_append_drop (q.length + 1) (mulR r (q ++ [1]))]
  congr 1
  rw [List.drop_eq_getElem_cons (by omega), List.drop_of_length_le (by omega)]
  have : (mulR r (q ++ [1]))[q.length + 1]'(by omega) = 1 := by simpa [List.getD, hl] using h1
  rw [this]
/-- the product of all x + X k is monic -/
theorem prK_monic (X : Nat → UInt8) : ∀ v, ∃ q : List UInt8, q.length = v ∧ ∀ x, prK X x v = hor x (q ++ [1])
  | 0 => ⟨[], rfl, fun x => by simp [prK, hor, zero_gmul]⟩
  | v + 1 => by
    obtain ⟨q, hq, h⟩ := prK_monic X v
    obtain ⟨q', hq', h'⟩ := mulR_monic (X v) q
    refine ⟨q', by omega, fun x => ?_⟩
    rw [← h', hor_mulR, ← h, prK]
theorem genL_monic : ∀ n, ∃ q : List UInt8, q.length = n ∧ genL n = q ++ [1]
  | 0 => ⟨[], rfl, rfl⟩
  | n + 1 => by
    obtain ⟨q, hq, h⟩ := genL_monic n
    obtain ⟨q', hq', h'⟩ := mulR_monic (powB 3 (n + 1)) q
    exact ⟨q', by omega, by rw [genL, h, h']⟩
theorem genL_root : ∀ n i, i < n → hor (powB 3 (i + 1)) (genL n) = 0
  | 0, i, h => by omega
  | n + 1, i, h => by
    rw [genL, hor_mulR]
    by_cases e : i = n
    · subst e; rw [UInt8.xor_self, gmul_zero]
    · rw [genL_root n i (by omega), zero_gmul]
/-- the syndromes s are those of v errors c at the places X -/
structure Errs (s : List UInt8) (v : Nat) (c X : Nat → UInt8) : Prop where
  apart : apartX X v
  ne : ∀ k, k < v → X k ≠ 0
  cne : ∀ k, k < v → c k ≠ 0
  at' : ∀ i, i < s.length → s.getD i 0 = sumK v fun k => gmul (c k) (powB (X k) (i + 1))
def hanF (s : List UInt8) : Ents := fun i j => s.getD (i + j) 0
theorem han_sum {s : List UInt8} {v : Nat} {c X : Nat → UInt8} (h : Errs s v c X) (u : Nat → UInt8) {i n : Nat} (hn : i + n ≤ s.length) :
    sumK n (fun j => gmul (hanF s i j) (u j)) = sumK v fun k => gmul (gmul (c k) (hor (X k) (mkRow n u))) (powB (X k) (i + 1)) := by
  rw [sumK_congr (g := fun j => sumK v fun k => gmul (gmul (c k) (powB (X k) (i + j + 1))) (u j)) (fun j hj => by
    show gmul (s.getD (i + j) 0) (u j) = _
    rw [h.at' (i + j) (by omega), ← sumK_mulr]), sumK_swap]
  refine sumK_congr fun k _ => ?_
  rw [hor_sum', gmul_assoc, ← sumK_mulr, ← sumK_mul]
  refine sumK_congr fun j _ => ?_
  rw [show i + j + 1 = j + (i + 1) by omega, powB_add, gmul_assoc, gmul_assoc, gmul_comm (u j), gmul_assoc, gmul_comm (powB (X k) (i + 1)) (u j), ← gmul_assoc (powB (X k) j)]
theorem han_many {s : List UInt8} {v : Nat} {c X : Nat → UInt8} (h : Errs s v c X) {n : Nat} (hn : v < n) (hs : 2 * n ≤ s.length) : (est (hanF s) n n).2 ≠ n := by
  intro hf
  obtain ⟨q, hq, hp⟩ := prK_monic X v
  have hk : kerAt (hanF s) n n (fun j => (q ++ [1]).getD j 0) := fun i hi => by
    rw [han_sum h _ (by omega), sumK_congr (g := fun _ => 0) (fun k hk => by
      have e : hor (X k) (mkRow n fun j => (q ++ [1]).getD j 0) = 0 := by
        have hm : mkRow n (fun j => (q ++ [1]).getD j 0) = (q ++ [1]) ++ List.replicate (n - (v + 1)) 0 := by
          refine ext_getD (by simp; omega) fun j hj => ?_
          rw [mkRow_getD _ _ _ (by simpa using hj)]
          simp only [List.getD, List.getElem?_append (l₁ := q ++ [1])]
          split
          · rfl
          · rename_i hh
            rw [List.getElem?_eq_none (by omega)]
            simp only [List.getElem?_replicate]
            split <;> rfl
        rw [hm, hor_pad, ← hp, prK_zero v hk]
      rw [e, gmul_zero, zero_gmul]), sumK_zero]
  have hz := full_ker hf hk 0 (by omega)
  have h0 : prK X 0 v ≠ 0 := prK_ne v fun j hj e => h.ne j hj e.symm
  rw [hp] at h0
  cases hqq : q ++ [1] with
  | nil => simp at hqq
  | cons a l =>
    rw [hqq] at h0 hz
    rw [hor_at0] at h0
    exact h0 (by simpa using hz)
theorem han_full {s : List UInt8} {v : Nat} {c X : Nat → UInt8} (h : Errs s v c X) (hs : 2 * v ≤ s.length) : (est (hanF s) v v).2 = v := by
  refine rank_full (Nat.le_refl _) fun u hu j hj => ?_
  have hd := dual_zero (c := fun k => gmul (c k) (hor (X k) (mkRow v u))) h.apart h.ne (m := v) (fun i hi => by
    have := hu i hi
    rwa [han_sum h _ (by omega)] at this) (Nat.le_refl _)
  have hz := hor_root ((List.range v).map X) (mkRow v u) (by simp) (apart_nodup h.apart) (fun x hx => by
    obtain ⟨i, hi, rfl⟩ := List.mem_map.1 hx
    have hi := List.mem_range.1 hi
    exact g_cancel (h.cne i hi) (hd i hi))
  have hl : j < (mkRow v u).length := by simpa using hj
  have := hz _ (List.getElem_mem hl)
  rwa [mkRow_get] at this
/-- the equations' solution is the product of all x + X k, but for its leading 1 -/
theorem han_sol {s : List UInt8} {v : Nat} {c X : Nat → UInt8} (h : Errs s v c X) (hs : 2 * v ≤ s.length) :
    ∃ q : List UInt8, q.length = v ∧ (∀ x, prK X x v = hor x (q ++ [1])) ∧ ∀ i, i < v → bst (hanF s) (fun i _ => s.getD (v + i) 0) v v i 0 = q.getD i 0 := by
  obtain ⟨q, hq, hp⟩ := prK_monic X v
  refine ⟨q, hq, hp, fun i hi => full_sol (b := fun i => s.getD (v + i) 0) (x := fun i => q.getD i 0) (han_full h hs) (fun l hl => ?_) hi⟩
  have hk : sumK (v + 1) (fun j => gmul (hanF s l j) ((q ++ [1]).getD j 0)) = 0 := by
    rw [han_sum h _ (by omega), sumK_congr (g := fun _ => 0) (fun k hk => by
      have hm : mkRow (v + 1) (fun j => (q ++ [1]).getD j 0) = q ++ [1] := by
        have := eq_mkRow (q ++ [1])
        rw [show (q ++ [(1 : UInt8)]).length = v + 1 by simp [hq]] at this
        exact this.symm
      rw [hm, ← hp, prK_zero v hk, gmul_zero, zero_gmul]), sumK_zero]
  rw [sumK] at hk
  have e1 : (q ++ [1]).getD v 0 = 1 := by simp [List.getD, ← hq]
  rw [e1, gmul_one] at hk
  have := x_eq hk
  rw [show v + l = l + v by omega]
  show _ = hanF s l v
  rw [← this]
  exact sumK_congr fun j hj => by simp [List.getD, List.getElem?_append, hq, hj]
theorem hor_rev {x : UInt8} (hx : x ≠ 0) : ∀ l : List UInt8, gmul (powB x l.length) (hor (ginv x) l.reverse) = gmul x (hor x l)
  | [] => by simp [hor, gmul_zero]
  | c :: l => by
    rw [List.reverse_cons, hor_snoc, gmul_xor, List.length_cons, List.length_reverse, powB_succ, gmul_comm (powB x l.length) x, gmul_assoc x, gmul_assoc x, hor_rev hx l, ← gmul_assoc (powB x l.length), powB_inv hx, one_gmul, hor, gmul_xor, gmul_comm x (hor x l)]
theorem rev_root {x : UInt8} (hx : x ≠ 0) (l : List UInt8) : hor (ginv x) l.reverse = 0 ↔ hor x l = 0 := by
  have h := hor_rev hx l
  constructor
  · intro e
    rw [e, gmul_zero] at h
    exact g_cancel hx h.symm
  · intro e
    rw [e, gmul_zero] at h
    exact g_cancel (powB_ne hx _) h
/-- the powers of the places, as a square matrix -/
def plcF (X : Nat → UInt8) : Ents := fun i j => powB (X j) (i + 1)
theorem plc_full {X : Nat → UInt8} {v : Nat} (ha : apartX X v) (h0 : ∀ k, k < v → X k ≠ 0) : (est (plcF X) v v).2 = v := by
  refine rank_full (Nat.le_refl _) fun u hu => dual_zero ha h0 (m := v) (fun i hi => ?_) (Nat.le_refl _)
  rw [← hu i hi]
  exact sumK_congr fun j _ => gmul_comm _ _
theorem plc_sol {s : List UInt8} {v : Nat} {c X : Nat → UInt8} (h : Errs s v c X) (hs : v ≤ s.length) {i : Nat} (hi : i < v) : bst (plcF X) (fun i _ => s.getD i 0) v v i 0 = c i :=
  full_sol (plc_full h.apart h.ne) (fun l hl => by
    rw [h.at' l (by omega)]; exact sumK_congr fun j _ => gmul_comm _ _) hi
end G294
