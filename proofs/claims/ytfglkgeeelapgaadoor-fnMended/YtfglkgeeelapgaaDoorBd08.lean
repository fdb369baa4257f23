/- Joined texts: SpecInv, Shape, CodeM, VecDot. -/
import Derived.Test.YtfglkgeeelapgaaDoorBd07
import Derived.Test.YtfglkgeeelapgaaDoorBd04
import Derived.RangeFuncBox
import Derived.RangeFuncNested
import Derived.Test.YtfglkgeeelapgaaDoorBd03
import Derived.Test.YtfglkgeeelapgaaDoorBd01
import Derived.Deep.DeepMust
import Derived.Deep.RegionHeldLaw
import Derived.Test.YtfglkgeeelapgaaDoorBd06
import Derived.Test.YtfglkgeeelapgaaDoorBd05
set_option linter.unusedSimpArgs false
set_option linter.unusedVariables false
/- The model's l2Inverse. -/
namespace G294
open Go Go.RowKit
theorem sAlloc {w2 W : World} {a : Addr} {x : Value} (h : Below w2.heap.size w2 W ∧ W.cell? a = some x) (ha : a.block < w2.heap.size) (o : Obj) : Below w2.heap.size w2 (W.alloc o) ∧ (W.alloc o).cell? a = some x := by
  have hb := h.1.alloc h.1.size o
  exact ⟨hb, (((Below.refl _ W).alloc (Nat.le_refl _) o).cell (p := a) (Nat.lt_of_lt_of_le ha h.1.size)).trans h.2⟩
theorem sTurn {w2 W W' : World} {a : Addr} {x : Value} (h : Below w2.heap.size w2 W ∧ W.cell? a = some x) (ha : a.block < w2.heap.size) (k : TurnIn 0 0 W W') : Below w2.heap.size w2 W' ∧ W'.cell? a = some x :=
  ⟨k.base h.1 h.1.size (by omega), (k.to_below.cell (p := a) (Nat.lt_of_lt_of_le ha h.1.size)).trans h.2⟩
theorem sSet {w2 W : World} {a : Addr} {x : Value} (h : Below w2.heap.size w2 W ∧ W.cell? a = some x) (ha : a.block < w2.heap.size) {B : Nat} (hB : w2.heap.size ≤ B) (u : Value) : Below w2.heap.size w2 (W.setCell ⟨B, 0, none⟩ u) ∧ (W.setCell ⟨B, 0, none⟩ u).cell? a = some x :=
  ⟨h.1.setCell (p := ⟨B, 0, none⟩) hB u, (World.cell?_setCell_other _ _ _ _ (fun e => by rw [← e] at ha; simp at ha; omega)).trans h.2⟩
theorem natInt_beq (a b : Nat) : ((a : Int) == (b : Int)) = decide (a = b) := by
  by_cases h : a = b
  · subst h; simp
  · have h2 : ((a : Int) == (b : Int)) = false := by rw [beq_eq_false_iff_ne]; omega
    rw [h2]; simp [h]
theorem Boxed.turn {W W' : World} {B : Nat} {T : TypeId} {v : Value} (h : Boxed W B T v) (k : TurnIn 0 0 W W') : Boxed W' B T v := (k.block B h.lt (by omega)).trans h
theorem boxes1 {w w' : World} {v : Value} {T : TypeId} (k : TurnIn 0 0 (w.alloc (.cells #[v] T)) w') : Boxed w' w.heap.size T v := Boxed.turn (Boxed.new w T v) k
theorem boxes2 {w w' : World} {v v' : Value} {T T' : TypeId} (k : TurnIn 0 0 ((w.alloc (.cells #[v] T)).alloc (.cells #[v'] T')) w') : Boxed w' w.heap.size T v ∧ Boxed w' (w.heap.size + 1) T' v' := by
  refine ⟨Boxed.turn ((Boxed.new w T v).alloc _) k, ?_⟩
  have h := Boxed.turn (Boxed.new (w.alloc (.cells #[v] T)) T' v') k
  rwa [World.size_alloc] at h
end G294
namespace Go.Proofs.YtfglkgeeelapgaaDoor
open Go.RowKit G294

set_option maxRecDepth 100000 in
set_option maxHeartbeats 4000000 in
theorem l2Inverse_own (n : Nat) (F : Ents) (v : Value) (w : World) (hs : SeenM w v (mkM n n F)) (hn1 : 1 ≤ n) (hn : n ≤ 1000) :
    Calls Tryd.prog 80 #[.agg #[v]] w (RetMatOk 5 22 w (mkM n n (bst F idF n n)) (decide ((est F n n).2 = n))) := by
  obtain ⟨A, cp, rfl, hlc, hcm⟩ := hs.len
  rw [mkM_length] at *
  unfold maxLen at hcm
  have kB : TurnIn 0 0 w ((w.alloc (.cells #[.slice A n cp] 39)).alloc (.cells #[.slice none 0 0] 39)) := turn_trans (turn_alloc _ _) (turn_alloc _ _) (by omega)
  have zB : ((w.alloc (.cells #[.slice A n cp] 39)).alloc (.cells #[.slice none 0 0] 39)).heap.size = w.heap.size + 2 := by simp
  have q0 : ((w.alloc (.cells #[.slice A n cp] 39)).alloc (.cells #[.slice none 0 0] 39)).cell? ⟨w.heap.size, 0, none⟩ = some (.slice A n cp) := by simp
  have q1 : ((w.alloc (.cells #[.slice A n cp] 39)).alloc (.cells #[.slice none 0 0] 39)).cell? ⟨w.heap.size + 1, 0, none⟩ = some (.slice none 0 0) := by simp
  have q1f : ((w.alloc (.cells #[.slice A n cp] 39)).alloc (.cells #[.slice none 0 0] 39)).frozen? ⟨w.heap.size + 1, 0, none⟩ = false := by simp
  have HS := Lib.hid (hs.touch kB)
  go_enter Tryd.func80, Tryd.ntmps80
  go_wp2_with fail
  generalize ((w.alloc (.cells #[.slice A n cp] 39)).alloc (.cells #[.slice none 0 0] 39)) = w2 at *
  have hB2 : Below w2.heap.size w2 w2 := Below.refl _ _
  have l0 : (⟨w.heap.size, 0, none⟩ : Addr).block < w2.heap.size := by show w.heap.size < w2.heap.size; omega
  have l1 : (⟨w.heap.size + 1, 0, none⟩ : Addr).block < w2.heap.size := by show w.heap.size + 1 < w2.heap.size; omega
  have HZB := Lib.hid zB
  clear zB
  go_region_held3 (fun w' => Below w2.heap.size w2 w' ∧ w'.cell? ⟨w.heap.size, 0, none⟩ = some (.slice A n cp))
    (first | exact ⟨hB2.drew, q0⟩ | exact hS4 | exact sAlloc (by assumption) l0 _ | exact sTurn (by assumption) l0 (by assumption) | exact sSet (by assumption) l0 (by omega) _ | exact sSet (by assumption) l0 (by simp; omega) _ | exact sAlloc (sAlloc hS4 l0 _) l0 _ | exact sAlloc hS4 l0 _ | exact sAlloc (sSet hS4 l0 (by omega) _) l0 _ | exact sSet (sSet hS4 l0 (by omega) _) l0 (by omega) _)
    (first
      | (go_at_call 119; refine (l2Identity_own n _ hn1 hn).mono ?_; rintro e w3 ⟨vI, vsI, rfl, hI, k3⟩; obtain ⟨gI, cpI, rfl, hgI, hgI', hpI, hpI'⟩ := hI.sliceF (by omega); have hz3 := (sTurn (by assumption) l0 k3).1.size; have hk3 := k3.size; (first | (have fA := boxes2 (undrew k3)) | (have fA := boxes1 (undrew k3)) | skip))
      | (go_at_call 118; refine (l2Reduce_own n n n F idF _ _ _ (HS.out.below (And.left (by assumption))) (by first | exact hI.seen | exact (hI.keep (turn_alloc _ _) (by omega)).seen | exact ((hI.keep (turn_alloc _ _) (by omega)).keep (turn_alloc _ _) (by omega)).seen) hn1 hn hn1 hn hn1 hn).mono ?_; rintro e w4 ⟨Aa, na, ca, vb, us, rfl, hO, k4⟩; obtain ⟨gB, cpB, rfl, hgB, hgB', hpB, hpB'⟩ := hO.sliceF (by omega); have hS4 := sTurn (by assumption) l0 k4; have hz4 := hS4.1.size; have hk4 := k4.size; have k34 : TurnIn 0 0 w3 w4 := (by first | exact k4 | exact turn_trans (turn_alloc _ _) k4 (by omega) | exact turn_trans (turn_trans (turn_alloc _ _) (turn_alloc _ _) (by omega)) k4 (by omega)); (try have fac0 : w4.cell? ⟨w2.heap.size, 0, none⟩ = some (.slice none 0 0) := Boxed.cell (Boxed.turn fA k34)); (try have faf0 : w4.frozen? ⟨w2.heap.size, 0, none⟩ = false := Boxed.frozen (Boxed.turn fA k34)); (try have fac1 : (w4.alloc (.cells #[.slice none 0 0] 39)).cell? ⟨w2.heap.size, 0, none⟩ = some (.slice none 0 0) := Boxed.cell (Boxed.alloc (Boxed.turn fA k34) _)); (try have faf1 : (w4.alloc (.cells #[.slice none 0 0] 39)).frozen? ⟨w2.heap.size, 0, none⟩ = false := Boxed.frozen (Boxed.alloc (Boxed.turn fA k34) _)); (try have fbc0 : w4.cell? ⟨w2.heap.size, 0, none⟩ = some (.slice none 0 0) := Boxed.cell (Boxed.turn fA.1 k34)); (try have fbf0 : w4.frozen? ⟨w2.heap.size, 0, none⟩ = false := Boxed.frozen (Boxed.turn fA.1 k34)); (try have fbc1 : (w4.alloc (.cells #[.slice none 0 0] 39)).cell? ⟨w2.heap.size, 0, none⟩ = some (.slice none 0 0) := Boxed.cell (Boxed.alloc (Boxed.turn fA.1 k34) _)); (try have fbf1 : (w4.alloc (.cells #[.slice none 0 0] 39)).frozen? ⟨w2.heap.size, 0, none⟩ = false := Boxed.frozen (Boxed.alloc (Boxed.turn fA.1 k34) _)); (try have fcc0 : w4.cell? ⟨w2.heap.size + 1, 0, none⟩ = some (.slice none 0 0) := Boxed.cell (Boxed.turn fA.2 k34)); (try have fcf0 : w4.frozen? ⟨w2.heap.size + 1, 0, none⟩ = false := Boxed.frozen (Boxed.turn fA.2 k34)); (try have fcc1 : (w4.alloc (.cells #[.slice none 0 0] 39)).cell? ⟨w2.heap.size + 1, 0, none⟩ = some (.slice none 0 0) := Boxed.cell (Boxed.alloc (Boxed.turn fA.2 k34) _)); (try have fcf1 : (w4.alloc (.cells #[.slice none 0 0] 39)).frozen? ⟨w2.heap.size + 1, 0, none⟩ = false := Boxed.frozen (Boxed.alloc (Boxed.turn fA.2 k34) _)); (try have n1 : w2.heap.size ≠ w3.heap.size := Nat.ne_of_lt (Boxed.lt fA)); (try have n2 : w3.heap.size ≠ w2.heap.size := Nat.ne_of_gt (Boxed.lt fA)); (try have gA := boxes2 k4); (try have gD := boxes1 k4); (try have gac0 : w4.cell? ⟨w3.heap.size, 0, none⟩ = some (.slice none 0 0) := Boxed.cell (gA.1)); (try have gaf0 : w4.frozen? ⟨w3.heap.size, 0, none⟩ = false := Boxed.frozen (gA.1)); (try have gac1 : (w4.alloc (.cells #[.slice none 0 0] 39)).cell? ⟨w3.heap.size, 0, none⟩ = some (.slice none 0 0) := Boxed.cell (Boxed.alloc (gA.1) _)); (try have gaf1 : (w4.alloc (.cells #[.slice none 0 0] 39)).frozen? ⟨w3.heap.size, 0, none⟩ = false := Boxed.frozen (Boxed.alloc (gA.1) _)); (try have gbc0 : w4.cell? ⟨w3.heap.size + 1, 0, none⟩ = some (.slice none 0 0) := Boxed.cell (gA.2)); (try have gbf0 : w4.frozen? ⟨w3.heap.size + 1, 0, none⟩ = false := Boxed.frozen (gA.2)); (try have gbc1 : (w4.alloc (.cells #[.slice none 0 0] 39)).cell? ⟨w3.heap.size + 1, 0, none⟩ = some (.slice none 0 0) := Boxed.cell (Boxed.alloc (gA.2) _)); (try have gbf1 : (w4.alloc (.cells #[.slice none 0 0] 39)).frozen? ⟨w3.heap.size + 1, 0, none⟩ = false := Boxed.frozen (Boxed.alloc (gA.2) _)); (try have gcc0 : w4.cell? ⟨w3.heap.size, 0, none⟩ = some (.slice none 0 0) := Boxed.cell (gD)); (try have gcf0 : w4.frozen? ⟨w3.heap.size, 0, none⟩ = false := Boxed.frozen (gD)); (try have gcc1 : (w4.alloc (.cells #[.slice none 0 0] 39)).cell? ⟨w3.heap.size, 0, none⟩ = some (.slice none 0 0) := Boxed.cell (Boxed.alloc (gD) _)); (try have gcf1 : (w4.alloc (.cells #[.slice none 0 0] 39)).frozen? ⟨w3.heap.size, 0, none⟩ = false := Boxed.frozen (Boxed.alloc (gD) _)); (try have n3 : w3.heap.size ≠ w4.heap.size := Nat.ne_of_lt (Boxed.lt gD)); (try have n4 : w4.heap.size ≠ w3.heap.size := Nat.ne_of_gt (Boxed.lt gD)); (try have n5 : w2.heap.size ≠ w4.heap.size := Nat.ne_of_lt (Boxed.lt (Boxed.turn fA k34))); (try have n6 : w4.heap.size ≠ w2.heap.size := Nat.ne_of_gt (Boxed.lt (Boxed.turn fA k34))); (try have xa1 : (w4.alloc (.cells #[.slice Aa na ca] 39)).cell? ⟨w2.heap.size, 0, none⟩ = some (.slice none 0 0) := Boxed.cell (Boxed.alloc (Boxed.turn fA k34) _)); (try have xb1 : (w4.alloc (.cells #[.slice Aa na ca] 39)).frozen? ⟨w2.heap.size, 0, none⟩ = false := Boxed.frozen (Boxed.alloc (Boxed.turn fA k34) _)); (try have xc2 : (w4.setCell ⟨w2.heap.size + 1, 0, none⟩ (.slice Aa na ca)).cell? ⟨w2.heap.size, 0, none⟩ = some (.slice none 0 0) := Boxed.cell (Boxed.other (Boxed.turn fA k34) (by first | omega | exact n1 | exact n2 | exact n3 | exact n4 | exact n5 | exact n6) _)); (try have xd2 : (w4.setCell ⟨w2.heap.size + 1, 0, none⟩ (.slice Aa na ca)).frozen? ⟨w2.heap.size, 0, none⟩ = false := Boxed.frozen (Boxed.other (Boxed.turn fA k34) (by first | omega | exact n1 | exact n2 | exact n3 | exact n4 | exact n5 | exact n6) _)); (try have xc3 : (w4.setCell ⟨w3.heap.size, 0, none⟩ (.slice Aa na ca)).cell? ⟨w2.heap.size, 0, none⟩ = some (.slice none 0 0) := Boxed.cell (Boxed.other (Boxed.turn fA k34) (by first | omega | exact n1 | exact n2 | exact n3 | exact n4 | exact n5 | exact n6) _)); (try have xd3 : (w4.setCell ⟨w3.heap.size, 0, none⟩ (.slice Aa na ca)).frozen? ⟨w2.heap.size, 0, none⟩ = false := Boxed.frozen (Boxed.other (Boxed.turn fA k34) (by first | omega | exact n1 | exact n2 | exact n3 | exact n4 | exact n5 | exact n6) _)); (try have xc4 : (w4.setCell ⟨w3.heap.size + 1, 0, none⟩ (.slice Aa na ca)).cell? ⟨w2.heap.size, 0, none⟩ = some (.slice none 0 0) := Boxed.cell (Boxed.other (Boxed.turn fA k34) (by first | omega | exact n1 | exact n2 | exact n3 | exact n4 | exact n5 | exact n6) _)); (try have xd4 : (w4.setCell ⟨w3.heap.size + 1, 0, none⟩ (.slice Aa na ca)).frozen? ⟨w2.heap.size, 0, none⟩ = false := Boxed.frozen (Boxed.other (Boxed.turn fA k34) (by first | omega | exact n1 | exact n2 | exact n3 | exact n4 | exact n5 | exact n6) _)); (try have xa5 : (w4.alloc (.cells #[.slice Aa na ca] 39)).cell? ⟨w2.heap.size, 0, none⟩ = some (.slice none 0 0) := Boxed.cell (Boxed.alloc (Boxed.turn fA.1 k34) _)); (try have xb5 : (w4.alloc (.cells #[.slice Aa na ca] 39)).frozen? ⟨w2.heap.size, 0, none⟩ = false := Boxed.frozen (Boxed.alloc (Boxed.turn fA.1 k34) _)); (try have xc6 : (w4.setCell ⟨w2.heap.size + 1, 0, none⟩ (.slice Aa na ca)).cell? ⟨w2.heap.size, 0, none⟩ = some (.slice none 0 0) := Boxed.cell (Boxed.other (Boxed.turn fA.1 k34) (by first | omega | exact n1 | exact n2 | exact n3 | exact n4 | exact n5 | exact n6) _)); (try have xd6 : (w4.setCell ⟨w2.heap.size + 1, 0, none⟩ (.slice Aa na ca)).frozen? ⟨w2.heap.size, 0, none⟩ = false := Boxed.frozen (Boxed.other (Boxed.turn fA.1 k34) (by first | omega | exact n1 | exact n2 | exact n3 | exact n4 | exact n5 | exact n6) _)); (try have xc7 : (w4.setCell ⟨w3.heap.size, 0, none⟩ (.slice Aa na ca)).cell? ⟨w2.heap.size, 0, none⟩ = some (.slice none 0 0) := Boxed.cell (Boxed.other (Boxed.turn fA.1 k34) (by first | omega | exact n1 | exact n2 | exact n3 | exact n4 | exact n5 | exact n6) _)); (try have xd7 : (w4.setCell ⟨w3.heap.size, 0, none⟩ (.slice Aa na ca)).frozen? ⟨w2.heap.size, 0, none⟩ = false := Boxed.frozen (Boxed.other (Boxed.turn fA.1 k34) (by first | omega | exact n1 | exact n2 | exact n3 | exact n4 | exact n5 | exact n6) _)); (try have xc8 : (w4.setCell ⟨w3.heap.size + 1, 0, none⟩ (.slice Aa na ca)).cell? ⟨w2.heap.size, 0, none⟩ = some (.slice none 0 0) := Boxed.cell (Boxed.other (Boxed.turn fA.1 k34) (by first | omega | exact n1 | exact n2 | exact n3 | exact n4 | exact n5 | exact n6) _)); (try have xd8 : (w4.setCell ⟨w3.heap.size + 1, 0, none⟩ (.slice Aa na ca)).frozen? ⟨w2.heap.size, 0, none⟩ = false := Boxed.frozen (Boxed.other (Boxed.turn fA.1 k34) (by first | omega | exact n1 | exact n2 | exact n3 | exact n4 | exact n5 | exact n6) _)); (try have xa9 : (w4.alloc (.cells #[.slice Aa na ca] 39)).cell? ⟨w2.heap.size + 1, 0, none⟩ = some (.slice none 0 0) := Boxed.cell (Boxed.alloc (Boxed.turn fA.2 k34) _)); (try have xb9 : (w4.alloc (.cells #[.slice Aa na ca] 39)).frozen? ⟨w2.heap.size + 1, 0, none⟩ = false := Boxed.frozen (Boxed.alloc (Boxed.turn fA.2 k34) _)); (try have xc10 : (w4.setCell ⟨w2.heap.size, 0, none⟩ (.slice Aa na ca)).cell? ⟨w2.heap.size + 1, 0, none⟩ = some (.slice none 0 0) := Boxed.cell (Boxed.other (Boxed.turn fA.2 k34) (by first | omega | exact n1 | exact n2 | exact n3 | exact n4 | exact n5 | exact n6) _)); (try have xd10 : (w4.setCell ⟨w2.heap.size, 0, none⟩ (.slice Aa na ca)).frozen? ⟨w2.heap.size + 1, 0, none⟩ = false := Boxed.frozen (Boxed.other (Boxed.turn fA.2 k34) (by first | omega | exact n1 | exact n2 | exact n3 | exact n4 | exact n5 | exact n6) _)); (try have xc11 : (w4.setCell ⟨w3.heap.size, 0, none⟩ (.slice Aa na ca)).cell? ⟨w2.heap.size + 1, 0, none⟩ = some (.slice none 0 0) := Boxed.cell (Boxed.other (Boxed.turn fA.2 k34) (by first | omega | exact n1 | exact n2 | exact n3 | exact n4 | exact n5 | exact n6) _)); (try have xd11 : (w4.setCell ⟨w3.heap.size, 0, none⟩ (.slice Aa na ca)).frozen? ⟨w2.heap.size + 1, 0, none⟩ = false := Boxed.frozen (Boxed.other (Boxed.turn fA.2 k34) (by first | omega | exact n1 | exact n2 | exact n3 | exact n4 | exact n5 | exact n6) _)); (try have xc12 : (w4.setCell ⟨w3.heap.size + 1, 0, none⟩ (.slice Aa na ca)).cell? ⟨w2.heap.size + 1, 0, none⟩ = some (.slice none 0 0) := Boxed.cell (Boxed.other (Boxed.turn fA.2 k34) (by first | omega | exact n1 | exact n2 | exact n3 | exact n4 | exact n5 | exact n6) _)); (try have xd12 : (w4.setCell ⟨w3.heap.size + 1, 0, none⟩ (.slice Aa na ca)).frozen? ⟨w2.heap.size + 1, 0, none⟩ = false := Boxed.frozen (Boxed.other (Boxed.turn fA.2 k34) (by first | omega | exact n1 | exact n2 | exact n3 | exact n4 | exact n5 | exact n6) _)); (try have xa13 : (w4.alloc (.cells #[.slice Aa na ca] 39)).cell? ⟨w3.heap.size, 0, none⟩ = some (.slice none 0 0) := Boxed.cell (Boxed.alloc (gD) _)); (try have xb13 : (w4.alloc (.cells #[.slice Aa na ca] 39)).frozen? ⟨w3.heap.size, 0, none⟩ = false := Boxed.frozen (Boxed.alloc (gD) _)); (try have xc14 : (w4.setCell ⟨w2.heap.size, 0, none⟩ (.slice Aa na ca)).cell? ⟨w3.heap.size, 0, none⟩ = some (.slice none 0 0) := Boxed.cell (Boxed.other (gD) (by first | omega | exact n1 | exact n2 | exact n3 | exact n4 | exact n5 | exact n6) _)); (try have xd14 : (w4.setCell ⟨w2.heap.size, 0, none⟩ (.slice Aa na ca)).frozen? ⟨w3.heap.size, 0, none⟩ = false := Boxed.frozen (Boxed.other (gD) (by first | omega | exact n1 | exact n2 | exact n3 | exact n4 | exact n5 | exact n6) _)); (try have xc15 : (w4.setCell ⟨w2.heap.size + 1, 0, none⟩ (.slice Aa na ca)).cell? ⟨w3.heap.size, 0, none⟩ = some (.slice none 0 0) := Boxed.cell (Boxed.other (gD) (by first | omega | exact n1 | exact n2 | exact n3 | exact n4 | exact n5 | exact n6) _)); (try have xd15 : (w4.setCell ⟨w2.heap.size + 1, 0, none⟩ (.slice Aa na ca)).frozen? ⟨w3.heap.size, 0, none⟩ = false := Boxed.frozen (Boxed.other (gD) (by first | omega | exact n1 | exact n2 | exact n3 | exact n4 | exact n5 | exact n6) _)); (try have xc16 : (w4.setCell ⟨w3.heap.size + 1, 0, none⟩ (.slice Aa na ca)).cell? ⟨w3.heap.size, 0, none⟩ = some (.slice none 0 0) := Boxed.cell (Boxed.other (gD) (by first | omega | exact n1 | exact n2 | exact n3 | exact n4 | exact n5 | exact n6) _)); (try have xd16 : (w4.setCell ⟨w3.heap.size + 1, 0, none⟩ (.slice Aa na ca)).frozen? ⟨w3.heap.size, 0, none⟩ = false := Boxed.frozen (Boxed.other (gD) (by first | omega | exact n1 | exact n2 | exact n3 | exact n4 | exact n5 | exact n6) _)); (try have xa17 : (w4.alloc (.cells #[.slice Aa na ca] 39)).cell? ⟨w3.heap.size, 0, none⟩ = some (.slice none 0 0) := Boxed.cell (Boxed.alloc (gA.1) _)); (try have xb17 : (w4.alloc (.cells #[.slice Aa na ca] 39)).frozen? ⟨w3.heap.size, 0, none⟩ = false := Boxed.frozen (Boxed.alloc (gA.1) _)); (try have xc18 : (w4.setCell ⟨w2.heap.size, 0, none⟩ (.slice Aa na ca)).cell? ⟨w3.heap.size, 0, none⟩ = some (.slice none 0 0) := Boxed.cell (Boxed.other (gA.1) (by first | omega | exact n1 | exact n2 | exact n3 | exact n4 | exact n5 | exact n6) _)); (try have xd18 : (w4.setCell ⟨w2.heap.size, 0, none⟩ (.slice Aa na ca)).frozen? ⟨w3.heap.size, 0, none⟩ = false := Boxed.frozen (Boxed.other (gA.1) (by first | omega | exact n1 | exact n2 | exact n3 | exact n4 | exact n5 | exact n6) _)); (try have xc19 : (w4.setCell ⟨w2.heap.size + 1, 0, none⟩ (.slice Aa na ca)).cell? ⟨w3.heap.size, 0, none⟩ = some (.slice none 0 0) := Boxed.cell (Boxed.other (gA.1) (by first | omega | exact n1 | exact n2 | exact n3 | exact n4 | exact n5 | exact n6) _)); (try have xd19 : (w4.setCell ⟨w2.heap.size + 1, 0, none⟩ (.slice Aa na ca)).frozen? ⟨w3.heap.size, 0, none⟩ = false := Boxed.frozen (Boxed.other (gA.1) (by first | omega | exact n1 | exact n2 | exact n3 | exact n4 | exact n5 | exact n6) _)); (try have xc20 : (w4.setCell ⟨w3.heap.size + 1, 0, none⟩ (.slice Aa na ca)).cell? ⟨w3.heap.size, 0, none⟩ = some (.slice none 0 0) := Boxed.cell (Boxed.other (gA.1) (by first | omega | exact n1 | exact n2 | exact n3 | exact n4 | exact n5 | exact n6) _)); (try have xd20 : (w4.setCell ⟨w3.heap.size + 1, 0, none⟩ (.slice Aa na ca)).frozen? ⟨w3.heap.size, 0, none⟩ = false := Boxed.frozen (Boxed.other (gA.1) (by first | omega | exact n1 | exact n2 | exact n3 | exact n4 | exact n5 | exact n6) _)); (try have xa21 : (w4.alloc (.cells #[.slice Aa na ca] 39)).cell? ⟨w3.heap.size + 1, 0, none⟩ = some (.slice none 0 0) := Boxed.cell (Boxed.alloc (gA.2) _)); (try have xb21 : (w4.alloc (.cells #[.slice Aa na ca] 39)).frozen? ⟨w3.heap.size + 1, 0, none⟩ = false := Boxed.frozen (Boxed.alloc (gA.2) _)); (try have xc22 : (w4.setCell ⟨w2.heap.size, 0, none⟩ (.slice Aa na ca)).cell? ⟨w3.heap.size + 1, 0, none⟩ = some (.slice none 0 0) := Boxed.cell (Boxed.other (gA.2) (by first | omega | exact n1 | exact n2 | exact n3 | exact n4 | exact n5 | exact n6) _)); (try have xd22 : (w4.setCell ⟨w2.heap.size, 0, none⟩ (.slice Aa na ca)).frozen? ⟨w3.heap.size + 1, 0, none⟩ = false := Boxed.frozen (Boxed.other (gA.2) (by first | omega | exact n1 | exact n2 | exact n3 | exact n4 | exact n5 | exact n6) _)); (try have xc23 : (w4.setCell ⟨w2.heap.size + 1, 0, none⟩ (.slice Aa na ca)).cell? ⟨w3.heap.size + 1, 0, none⟩ = some (.slice none 0 0) := Boxed.cell (Boxed.other (gA.2) (by first | omega | exact n1 | exact n2 | exact n3 | exact n4 | exact n5 | exact n6) _)); (try have xd23 : (w4.setCell ⟨w2.heap.size + 1, 0, none⟩ (.slice Aa na ca)).frozen? ⟨w3.heap.size + 1, 0, none⟩ = false := Boxed.frozen (Boxed.other (gA.2) (by first | omega | exact n1 | exact n2 | exact n3 | exact n4 | exact n5 | exact n6) _)); (try have xc24 : (w4.setCell ⟨w3.heap.size, 0, none⟩ (.slice Aa na ca)).cell? ⟨w3.heap.size + 1, 0, none⟩ = some (.slice none 0 0) := Boxed.cell (Boxed.other (gA.2) (by first | omega | exact n1 | exact n2 | exact n3 | exact n4 | exact n5 | exact n6) _)); (try have xd24 : (w4.setCell ⟨w3.heap.size, 0, none⟩ (.slice Aa na ca)).frozen? ⟨w3.heap.size + 1, 0, none⟩ = false := Boxed.frozen (Boxed.other (gA.2) (by first | omega | exact n1 | exact n2 | exact n3 | exact n4 | exact n5 | exact n6) _)); (try have xe25 : ((w4.setCell ⟨w2.heap.size, 0, none⟩ (.slice Aa na ca)).alloc (.cells #[.slice none 0 0] 39)).cell? ⟨w4.heap.size, 0, none⟩ = some (.slice none 0 0) := by simp); (try have xf25 : ((w4.setCell ⟨w2.heap.size, 0, none⟩ (.slice Aa na ca)).alloc (.cells #[.slice none 0 0] 39)).frozen? ⟨w4.heap.size, 0, none⟩ = false := by simp); (try have xg25 : ((w4.alloc (.cells #[.slice none 0 0] 39)).setCell ⟨w2.heap.size, 0, none⟩ (.slice Aa na ca)).cell? ⟨w4.heap.size, 0, none⟩ = some (.slice none 0 0) := Boxed.cell (Boxed.other (Boxed.new w4 _ _) (by first | omega | exact n1 | exact n2 | exact n3 | exact n4 | exact n5 | exact n6) _)); (try have xh25 : ((w4.alloc (.cells #[.slice none 0 0] 39)).setCell ⟨w2.heap.size, 0, none⟩ (.slice Aa na ca)).frozen? ⟨w4.heap.size, 0, none⟩ = false := Boxed.frozen (Boxed.other (Boxed.new w4 _ _) (by first | omega | exact n1 | exact n2 | exact n3 | exact n4 | exact n5 | exact n6) _)); (try have xe26 : ((w4.setCell ⟨w2.heap.size + 1, 0, none⟩ (.slice Aa na ca)).alloc (.cells #[.slice none 0 0] 39)).cell? ⟨w4.heap.size, 0, none⟩ = some (.slice none 0 0) := by simp); (try have xf26 : ((w4.setCell ⟨w2.heap.size + 1, 0, none⟩ (.slice Aa na ca)).alloc (.cells #[.slice none 0 0] 39)).frozen? ⟨w4.heap.size, 0, none⟩ = false := by simp); (try have xg26 : ((w4.alloc (.cells #[.slice none 0 0] 39)).setCell ⟨w2.heap.size + 1, 0, none⟩ (.slice Aa na ca)).cell? ⟨w4.heap.size, 0, none⟩ = some (.slice none 0 0) := Boxed.cell (Boxed.other (Boxed.new w4 _ _) (by first | omega | exact n1 | exact n2 | exact n3 | exact n4 | exact n5 | exact n6) _)); (try have xh26 : ((w4.alloc (.cells #[.slice none 0 0] 39)).setCell ⟨w2.heap.size + 1, 0, none⟩ (.slice Aa na ca)).frozen? ⟨w4.heap.size, 0, none⟩ = false := Boxed.frozen (Boxed.other (Boxed.new w4 _ _) (by first | omega | exact n1 | exact n2 | exact n3 | exact n4 | exact n5 | exact n6) _)); (try have xe27 : ((w4.setCell ⟨w3.heap.size, 0, none⟩ (.slice Aa na ca)).alloc (.cells #[.slice none 0 0] 39)).cell? ⟨w4.heap.size, 0, none⟩ = some (.slice none 0 0) := by simp); (try have xf27 : ((w4.setCell ⟨w3.heap.size, 0, none⟩ (.slice Aa na ca)).alloc (.cells #[.slice none 0 0] 39)).frozen? ⟨w4.heap.size, 0, none⟩ = false := by simp); (try have xg27 : ((w4.alloc (.cells #[.slice none 0 0] 39)).setCell ⟨w3.heap.size, 0, none⟩ (.slice Aa na ca)).cell? ⟨w4.heap.size, 0, none⟩ = some (.slice none 0 0) := Boxed.cell (Boxed.other (Boxed.new w4 _ _) (by first | omega | exact n1 | exact n2 | exact n3 | exact n4 | exact n5 | exact n6) _)); (try have xh27 : ((w4.alloc (.cells #[.slice none 0 0] 39)).setCell ⟨w3.heap.size, 0, none⟩ (.slice Aa na ca)).frozen? ⟨w4.heap.size, 0, none⟩ = false := Boxed.frozen (Boxed.other (Boxed.new w4 _ _) (by first | omega | exact n1 | exact n2 | exact n3 | exact n4 | exact n5 | exact n6) _)); (try have xe28 : ((w4.setCell ⟨w3.heap.size + 1, 0, none⟩ (.slice Aa na ca)).alloc (.cells #[.slice none 0 0] 39)).cell? ⟨w4.heap.size, 0, none⟩ = some (.slice none 0 0) := by simp); (try have xf28 : ((w4.setCell ⟨w3.heap.size + 1, 0, none⟩ (.slice Aa na ca)).alloc (.cells #[.slice none 0 0] 39)).frozen? ⟨w4.heap.size, 0, none⟩ = false := by simp); (try have xg28 : ((w4.alloc (.cells #[.slice none 0 0] 39)).setCell ⟨w3.heap.size + 1, 0, none⟩ (.slice Aa na ca)).cell? ⟨w4.heap.size, 0, none⟩ = some (.slice none 0 0) := Boxed.cell (Boxed.other (Boxed.new w4 _ _) (by first | omega | exact n1 | exact n2 | exact n3 | exact n4 | exact n5 | exact n6) _)); (try have xh28 : ((w4.alloc (.cells #[.slice none 0 0] 39)).setCell ⟨w3.heap.size + 1, 0, none⟩ (.slice Aa na ca)).frozen? ⟨w4.heap.size, 0, none⟩ = false := Boxed.frozen (Boxed.other (Boxed.new w4 _ _) (by first | omega | exact n1 | exact n2 | exact n3 | exact n4 | exact n5 | exact n6) _))))
  · have hBW : Below w2.heap.size w2 (World.alloc (World.alloc w4 (.cells #[.slice Aa na ca] 39)) (.cells #[.slice (some ⟨gB, 0, none⟩) n cpB] 39)) := And.left (by assumption)
    have hc6 : World.cell? (World.alloc (World.alloc w4 (.cells #[.slice Aa na ca] 39)) (.cells #[.slice (some ⟨gB, 0, none⟩) n cpB] 39)) ⟨w4.heap.size + 1, 0, none⟩ = some (.slice (some ⟨gB, 0, none⟩) n cpB) := by first | (simp; done) | exact World.cell?_setCell_same _ _ _ (by assumption)
    have hO6 : OwnM 5 22 (World.alloc (World.alloc w4 (.cells #[.slice Aa na ca] 39)) (.cells #[.slice (some ⟨gB, 0, none⟩) n cpB] 39)) w2.heap.size (World.heap (World.alloc (World.alloc w4 (.cells #[.slice Aa na ca] 39)) (.cells #[.slice (some ⟨gB, 0, none⟩) n cpB] 39))).size (.slice (some ⟨gB, 0, none⟩) n cpB) (mkM n n (bst F idF n n)) us := OwnM.wider ((hO.keep (turn_alloc _ _) (by first | omega | (simp at * <;> omega))).keep (turn_alloc _ _) (by first | omega | (simp at * <;> omega))) (by first | omega | (simp at * <;> omega)) (by first | (simp; done) | (simp; omega)) (Nat.le_refl _)
    have r1 := (hBW.cell (p := ⟨w.heap.size + 1, 0, none⟩) l1).trans q1
    have r1f := (hBW.frozen (p := ⟨w.heap.size + 1, 0, none⟩) l1).trans q1f
    have HO6 := Lib.hid hO6
    have HBB := Lib.hid (kB.to_below.trans (hBW.mono kB.size))
    clear hO6 hBW
    generalize (World.alloc (World.alloc w4 (.cells #[.slice Aa na ca] 39)) (.cells #[.slice (some ⟨gB, 0, none⟩) n cpB] 39)) = Wf at *
    generalize (w4.heap.size + 1) = b6 at *
    have HEQ : (((est F n n).2 : Int) == (n : Int)) = decide ((est F n n).2 = n) := natInt_beq _ _
    generalize hee : decide ((est F n n).2 = n) = db at *
    generalize (est F n n).2 = ee at *
    go_wp2_with fail
    refine bodyPost_ret (v := .tuple #[.agg #[.slice (some ⟨gB, 0, none⟩) n cpB], .bool db]) (by simp [results, Tryd.results80, go_sem, r1]) rfl ?_
    have kk := turn_setCell Wf (w.heap.size + 1) 0 (.slice (some ⟨gB, 0, none⟩) n cpB)
    have hzb := HZB.out
    have hbw := HBB.out.setCell (p := ⟨w.heap.size + 1, 0, none⟩) (Nat.le_succ _) (.slice (some ⟨gB, 0, none⟩) n cpB)
    exact ⟨_, us, rfl, (HO6.out.keep kk (by omega)).wider (by omega) (by simp) (by simp), TurnIn.of_below hbw⟩
  · have hBW : Below w2.heap.size w2 (World.alloc (World.alloc w4 (.cells #[.slice (some ⟨gB, 0, none⟩) n cpB] 39)) (.cells #[.slice Aa na ca] 39)) := And.left (by assumption)
    have hc6 : World.cell? (World.alloc (World.alloc w4 (.cells #[.slice (some ⟨gB, 0, none⟩) n cpB] 39)) (.cells #[.slice Aa na ca] 39)) ⟨w4.heap.size, 0, none⟩ = some (.slice (some ⟨gB, 0, none⟩) n cpB) := by first | (simp; done) | exact World.cell?_setCell_same _ _ _ (by assumption)
    have hO6 : OwnM 5 22 (World.alloc (World.alloc w4 (.cells #[.slice (some ⟨gB, 0, none⟩) n cpB] 39)) (.cells #[.slice Aa na ca] 39)) w2.heap.size (World.heap (World.alloc (World.alloc w4 (.cells #[.slice (some ⟨gB, 0, none⟩) n cpB] 39)) (.cells #[.slice Aa na ca] 39))).size (.slice (some ⟨gB, 0, none⟩) n cpB) (mkM n n (bst F idF n n)) us := OwnM.wider ((hO.keep (turn_alloc _ _) (by first | omega | (simp at * <;> omega))).keep (turn_alloc _ _) (by first | omega | (simp at * <;> omega))) (by first | omega | (simp at * <;> omega)) (by first | (simp; done) | (simp; omega)) (Nat.le_refl _)
    have r1 := (hBW.cell (p := ⟨w.heap.size + 1, 0, none⟩) l1).trans q1
    have r1f := (hBW.frozen (p := ⟨w.heap.size + 1, 0, none⟩) l1).trans q1f
    have HO6 := Lib.hid hO6
    have HBB := Lib.hid (kB.to_below.trans (hBW.mono kB.size))
    clear hO6 hBW
    generalize (World.alloc (World.alloc w4 (.cells #[.slice (some ⟨gB, 0, none⟩) n cpB] 39)) (.cells #[.slice Aa na ca] 39)) = Wf at *
    generalize (w4.heap.size) = b6 at *
    have HEQ : (((est F n n).2 : Int) == (n : Int)) = decide ((est F n n).2 = n) := natInt_beq _ _
    generalize hee : decide ((est F n n).2 = n) = db at *
    generalize (est F n n).2 = ee at *
    go_wp2_with fail
    refine bodyPost_ret (v := .tuple #[.agg #[.slice (some ⟨gB, 0, none⟩) n cpB], .bool db]) (by simp [results, Tryd.results80, go_sem, r1]) rfl ?_
    have kk := turn_setCell Wf (w.heap.size + 1) 0 (.slice (some ⟨gB, 0, none⟩) n cpB)
    have hzb := HZB.out
    have hbw := HBB.out.setCell (p := ⟨w.heap.size + 1, 0, none⟩) (Nat.le_succ _) (.slice (some ⟨gB, 0, none⟩) n cpB)
    exact ⟨_, us, rfl, (HO6.out.keep kk (by omega)).wider (by omega) (by simp) (by simp), TurnIn.of_below hbw⟩
  · have hBW : Below w2.heap.size w2 (World.setCell (World.setCell (World.alloc w4 (.cells #[.slice none 0 0] 39)) ⟨w3.heap.size, 0, none⟩ (.slice Aa na ca)) ⟨w4.heap.size, 0, none⟩ (.slice (some ⟨gB, 0, none⟩) n cpB)) := And.left (by assumption)
    have hc6 : World.cell? (World.setCell (World.setCell (World.alloc w4 (.cells #[.slice none 0 0] 39)) ⟨w3.heap.size, 0, none⟩ (.slice Aa na ca)) ⟨w4.heap.size, 0, none⟩ (.slice (some ⟨gB, 0, none⟩) n cpB)) ⟨w4.heap.size, 0, none⟩ = some (.slice (some ⟨gB, 0, none⟩) n cpB) := by first | (simp; done) | exact World.cell?_setCell_same _ _ _ (by assumption)
    have hO6 : OwnM 5 22 (World.setCell (World.setCell (World.alloc w4 (.cells #[.slice none 0 0] 39)) ⟨w3.heap.size, 0, none⟩ (.slice Aa na ca)) ⟨w4.heap.size, 0, none⟩ (.slice (some ⟨gB, 0, none⟩) n cpB)) w2.heap.size (World.heap (World.setCell (World.setCell (World.alloc w4 (.cells #[.slice none 0 0] 39)) ⟨w3.heap.size, 0, none⟩ (.slice Aa na ca)) ⟨w4.heap.size, 0, none⟩ (.slice (some ⟨gB, 0, none⟩) n cpB))).size (.slice (some ⟨gB, 0, none⟩) n cpB) (mkM n n (bst F idF n n)) us := OwnM.wider (((hO.keep (turn_alloc _ _) (by first | omega | (simp at * <;> omega))).keep (turn_setCell _ _ 0 _) (by first | omega | (simp at * <;> omega))).keep (turn_setCell _ _ 0 _) (by first | omega | (simp at * <;> omega))) (by first | omega | (simp at * <;> omega)) (by first | (simp; done) | (simp; omega)) (Nat.le_refl _)
    have r1 := (hBW.cell (p := ⟨w.heap.size + 1, 0, none⟩) l1).trans q1
    have r1f := (hBW.frozen (p := ⟨w.heap.size + 1, 0, none⟩) l1).trans q1f
    have HO6 := Lib.hid hO6
    have HBB := Lib.hid (kB.to_below.trans (hBW.mono kB.size))
    clear hO6 hBW
    generalize (World.setCell (World.setCell (World.alloc w4 (.cells #[.slice none 0 0] 39)) ⟨w3.heap.size, 0, none⟩ (.slice Aa na ca)) ⟨w4.heap.size, 0, none⟩ (.slice (some ⟨gB, 0, none⟩) n cpB)) = Wf at *
    generalize (w4.heap.size) = b6 at *
    have HEQ : (((est F n n).2 : Int) == (n : Int)) = decide ((est F n n).2 = n) := natInt_beq _ _
    generalize hee : decide ((est F n n).2 = n) = db at *
    generalize (est F n n).2 = ee at *
    go_wp2_with fail
    refine bodyPost_ret (v := .tuple #[.agg #[.slice (some ⟨gB, 0, none⟩) n cpB], .bool db]) (by simp [results, Tryd.results80, go_sem, r1]) rfl ?_
    have kk := turn_setCell Wf (w.heap.size + 1) 0 (.slice (some ⟨gB, 0, none⟩) n cpB)
    have hzb := HZB.out
    have hbw := HBB.out.setCell (p := ⟨w.heap.size + 1, 0, none⟩) (Nat.le_succ _) (.slice (some ⟨gB, 0, none⟩) n cpB)
    exact ⟨_, us, rfl, (HO6.out.keep kk (by omega)).wider (by omega) (by simp) (by simp), TurnIn.of_below hbw⟩
  · have hBW : Below w2.heap.size w2 (World.setCell (World.setCell w4 ⟨w3.heap.size, 0, none⟩ (.slice Aa na ca)) ⟨w3.heap.size + 1, 0, none⟩ (.slice (some ⟨gB, 0, none⟩) n cpB)) := And.left (by assumption)
    have hc6 : World.cell? (World.setCell (World.setCell w4 ⟨w3.heap.size, 0, none⟩ (.slice Aa na ca)) ⟨w3.heap.size + 1, 0, none⟩ (.slice (some ⟨gB, 0, none⟩) n cpB)) ⟨w3.heap.size + 1, 0, none⟩ = some (.slice (some ⟨gB, 0, none⟩) n cpB) := by first | (simp; done) | exact World.cell?_setCell_same _ _ _ (by assumption)
    have hO6 : OwnM 5 22 (World.setCell (World.setCell w4 ⟨w3.heap.size, 0, none⟩ (.slice Aa na ca)) ⟨w3.heap.size + 1, 0, none⟩ (.slice (some ⟨gB, 0, none⟩) n cpB)) w2.heap.size (World.heap (World.setCell (World.setCell w4 ⟨w3.heap.size, 0, none⟩ (.slice Aa na ca)) ⟨w3.heap.size + 1, 0, none⟩ (.slice (some ⟨gB, 0, none⟩) n cpB))).size (.slice (some ⟨gB, 0, none⟩) n cpB) (mkM n n (bst F idF n n)) us := OwnM.wider ((hO.keep (turn_setCell _ _ 0 _) (by first | omega | (simp at * <;> omega))).keep (turn_setCell _ _ 0 _) (by first | omega | (simp at * <;> omega))) (by first | omega | (simp at * <;> omega)) (by first | (simp; done) | (simp; omega)) (Nat.le_refl _)
    have r1 := (hBW.cell (p := ⟨w.heap.size + 1, 0, none⟩) l1).trans q1
    have r1f := (hBW.frozen (p := ⟨w.heap.size + 1, 0, none⟩) l1).trans q1f
    have HO6 := Lib.hid hO6
    have HBB := Lib.hid (kB.to_below.trans (hBW.mono kB.size))
    clear hO6 hBW
    generalize (World.setCell (World.setCell w4 ⟨w3.heap.size, 0, none⟩ (.slice Aa na ca)) ⟨w3.heap.size + 1, 0, none⟩ (.slice (some ⟨gB, 0, none⟩) n cpB)) = Wf at *
    generalize (w3.heap.size + 1) = b6 at *
    have HEQ : (((est F n n).2 : Int) == (n : Int)) = decide ((est F n n).2 = n) := natInt_beq _ _
    generalize hee : decide ((est F n n).2 = n) = db at *
    generalize (est F n n).2 = ee at *
    go_wp2_with fail
    refine bodyPost_ret (v := .tuple #[.agg #[.slice (some ⟨gB, 0, none⟩) n cpB], .bool db]) (by simp [results, Tryd.results80, go_sem, r1]) rfl ?_
    have kk := turn_setCell Wf (w.heap.size + 1) 0 (.slice (some ⟨gB, 0, none⟩) n cpB)
    have hzb := HZB.out
    have hbw := HBB.out.setCell (p := ⟨w.heap.size + 1, 0, none⟩) (Nat.le_succ _) (.slice (some ⟨gB, 0, none⟩) n cpB)
    exact ⟨_, us, rfl, (HO6.out.keep kk (by omega)).wider (by omega) (by simp) (by simp), TurnIn.of_below hbw⟩
  · have hBW : Below w2.heap.size w2 (World.setCell (World.alloc w4 (.cells #[.slice Aa na ca] 39)) ⟨w3.heap.size, 0, none⟩ (.slice (some ⟨gB, 0, none⟩) n cpB)) := And.left (by assumption)
    have hc6 : World.cell? (World.setCell (World.alloc w4 (.cells #[.slice Aa na ca] 39)) ⟨w3.heap.size, 0, none⟩ (.slice (some ⟨gB, 0, none⟩) n cpB)) ⟨w3.heap.size, 0, none⟩ = some (.slice (some ⟨gB, 0, none⟩) n cpB) := by first | (simp; done) | exact World.cell?_setCell_same _ _ _ (by assumption)
    have hO6 : OwnM 5 22 (World.setCell (World.alloc w4 (.cells #[.slice Aa na ca] 39)) ⟨w3.heap.size, 0, none⟩ (.slice (some ⟨gB, 0, none⟩) n cpB)) w2.heap.size (World.heap (World.setCell (World.alloc w4 (.cells #[.slice Aa na ca] 39)) ⟨w3.heap.size, 0, none⟩ (.slice (some ⟨gB, 0, none⟩) n cpB))).size (.slice (some ⟨gB, 0, none⟩) n cpB) (mkM n n (bst F idF n n)) us := OwnM.wider ((hO.keep (turn_alloc _ _) (by first | omega | (simp at * <;> omega))).keep (turn_setCell _ _ 0 _) (by first | omega | (simp at * <;> omega))) (by first | omega | (simp at * <;> omega)) (by first | (simp; done) | (simp; omega)) (Nat.le_refl _)
    have r1 := (hBW.cell (p := ⟨w.heap.size + 1, 0, none⟩) l1).trans q1
    have r1f := (hBW.frozen (p := ⟨w.heap.size + 1, 0, none⟩) l1).trans q1f
    have HO6 := Lib.hid hO6
    have HBB := Lib.hid (kB.to_below.trans (hBW.mono kB.size))
    clear hO6 hBW
    generalize (World.setCell (World.alloc w4 (.cells #[.slice Aa na ca] 39)) ⟨w3.heap.size, 0, none⟩ (.slice (some ⟨gB, 0, none⟩) n cpB)) = Wf at *
    generalize (w3.heap.size) = b6 at *
    have HEQ : (((est F n n).2 : Int) == (n : Int)) = decide ((est F n n).2 = n) := natInt_beq _ _
    generalize hee : decide ((est F n n).2 = n) = db at *
    generalize (est F n n).2 = ee at *
    go_wp2_with fail
    refine bodyPost_ret (v := .tuple #[.agg #[.slice (some ⟨gB, 0, none⟩) n cpB], .bool db]) (by simp [results, Tryd.results80, go_sem, r1]) rfl ?_
    have kk := turn_setCell Wf (w.heap.size + 1) 0 (.slice (some ⟨gB, 0, none⟩) n cpB)
    have hzb := HZB.out
    have hbw := HBB.out.setCell (p := ⟨w.heap.size + 1, 0, none⟩) (Nat.le_succ _) (.slice (some ⟨gB, 0, none⟩) n cpB)
    exact ⟨_, us, rfl, (HO6.out.keep kk (by omega)).wider (by omega) (by simp) (by simp), TurnIn.of_below hbw⟩
  · have hBW : Below w2.heap.size w2 (World.setCell (World.setCell w4 ⟨w3.heap.size + 1, 0, none⟩ (.slice Aa na ca)) ⟨w3.heap.size, 0, none⟩ (.slice (some ⟨gB, 0, none⟩) n cpB)) := And.left (by assumption)
    have hc6 : World.cell? (World.setCell (World.setCell w4 ⟨w3.heap.size + 1, 0, none⟩ (.slice Aa na ca)) ⟨w3.heap.size, 0, none⟩ (.slice (some ⟨gB, 0, none⟩) n cpB)) ⟨w3.heap.size, 0, none⟩ = some (.slice (some ⟨gB, 0, none⟩) n cpB) := by first | (simp; done) | exact World.cell?_setCell_same _ _ _ (by assumption)
    have hO6 : OwnM 5 22 (World.setCell (World.setCell w4 ⟨w3.heap.size + 1, 0, none⟩ (.slice Aa na ca)) ⟨w3.heap.size, 0, none⟩ (.slice (some ⟨gB, 0, none⟩) n cpB)) w2.heap.size (World.heap (World.setCell (World.setCell w4 ⟨w3.heap.size + 1, 0, none⟩ (.slice Aa na ca)) ⟨w3.heap.size, 0, none⟩ (.slice (some ⟨gB, 0, none⟩) n cpB))).size (.slice (some ⟨gB, 0, none⟩) n cpB) (mkM n n (bst F idF n n)) us := OwnM.wider ((hO.keep (turn_setCell _ _ 0 _) (by first | omega | (simp at * <;> omega))).keep (turn_setCell _ _ 0 _) (by first | omega | (simp at * <;> omega))) (by first | omega | (simp at * <;> omega)) (by first | (simp; done) | (simp; omega)) (Nat.le_refl _)
    have r1 := (hBW.cell (p := ⟨w.heap.size + 1, 0, none⟩) l1).trans q1
    have r1f := (hBW.frozen (p := ⟨w.heap.size + 1, 0, none⟩) l1).trans q1f
    have HO6 := Lib.hid hO6
    have HBB := Lib.hid (kB.to_below.trans (hBW.mono kB.size))
    clear hO6 hBW
    generalize (World.setCell (World.setCell w4 ⟨w3.heap.size + 1, 0, none⟩ (.slice Aa na ca)) ⟨w3.heap.size, 0, none⟩ (.slice (some ⟨gB, 0, none⟩) n cpB)) = Wf at *
    generalize (w3.heap.size) = b6 at *
    have HEQ : (((est F n n).2 : Int) == (n : Int)) = decide ((est F n n).2 = n) := natInt_beq _ _
    generalize hee : decide ((est F n n).2 = n) = db at *
    generalize (est F n n).2 = ee at *
    go_wp2_with fail
    refine bodyPost_ret (v := .tuple #[.agg #[.slice (some ⟨gB, 0, none⟩) n cpB], .bool db]) (by simp [results, Tryd.results80, go_sem, r1]) rfl ?_
    have kk := turn_setCell Wf (w.heap.size + 1) 0 (.slice (some ⟨gB, 0, none⟩) n cpB)
    have hzb := HZB.out
    have hbw := HBB.out.setCell (p := ⟨w.heap.size + 1, 0, none⟩) (Nat.le_succ _) (.slice (some ⟨gB, 0, none⟩) n cpB)
    exact ⟨_, us, rfl, (HO6.out.keep kk (by omega)).wider (by omega) (by simp) (by simp), TurnIn.of_below hbw⟩
  · have hBW : Below w2.heap.size w2 (World.setCell (World.setCell (World.alloc w4 (.cells #[.slice none 0 0] 39)) ⟨w2.heap.size, 0, none⟩ (.slice Aa na ca)) ⟨w4.heap.size, 0, none⟩ (.slice (some ⟨gB, 0, none⟩) n cpB)) := And.left (by assumption)
    have hc6 : World.cell? (World.setCell (World.setCell (World.alloc w4 (.cells #[.slice none 0 0] 39)) ⟨w2.heap.size, 0, none⟩ (.slice Aa na ca)) ⟨w4.heap.size, 0, none⟩ (.slice (some ⟨gB, 0, none⟩) n cpB)) ⟨w4.heap.size, 0, none⟩ = some (.slice (some ⟨gB, 0, none⟩) n cpB) := by first | (simp; done) | exact World.cell?_setCell_same _ _ _ (by assumption)
    have hO6 : OwnM 5 22 (World.setCell (World.setCell (World.alloc w4 (.cells #[.slice none 0 0] 39)) ⟨w2.heap.size, 0, none⟩ (.slice Aa na ca)) ⟨w4.heap.size, 0, none⟩ (.slice (some ⟨gB, 0, none⟩) n cpB)) w2.heap.size (World.heap (World.setCell (World.setCell (World.alloc w4 (.cells #[.slice none 0 0] 39)) ⟨w2.heap.size, 0, none⟩ (.slice Aa na ca)) ⟨w4.heap.size, 0, none⟩ (.slice (some ⟨gB, 0, none⟩) n cpB))).size (.slice (some ⟨gB, 0, none⟩) n cpB) (mkM n n (bst F idF n n)) us := OwnM.wider (((hO.keep (turn_alloc _ _) (by first | omega | (simp at * <;> omega))).keep (turn_setCell _ _ 0 _) (by first | omega | (simp at * <;> omega))).keep (turn_setCell _ _ 0 _) (by first | omega | (simp at * <;> omega))) (by first | omega | (simp at * <;> omega)) (by first | (simp; done) | (simp; omega)) (Nat.le_refl _)
    have r1 := (hBW.cell (p := ⟨w.heap.size + 1, 0, none⟩) l1).trans q1
    have r1f := (hBW.frozen (p := ⟨w.heap.size + 1, 0, none⟩) l1).trans q1f
    have HO6 := Lib.hid hO6
    have HBB := Lib.hid (kB.to_below.trans (hBW.mono kB.size))
    clear hO6 hBW
    generalize (World.setCell (World.setCell (World.alloc w4 (.cells #[.slice none 0 0] 39)) ⟨w2.heap.size, 0, none⟩ (.slice Aa na ca)) ⟨w4.heap.size, 0, none⟩ (.slice (some ⟨gB, 0, none⟩) n cpB)) = Wf at *
    generalize (w4.heap.size) = b6 at *
    have HEQ : (((est F n n).2 : Int) == (n : Int)) = decide ((est F n n).2 = n) := natInt_beq _ _
    generalize hee : decide ((est F n n).2 = n) = db at *
    generalize (est F n n).2 = ee at *
    go_wp2_with fail
    refine bodyPost_ret (v := .tuple #[.agg #[.slice (some ⟨gB, 0, none⟩) n cpB], .bool db]) (by simp [results, Tryd.results80, go_sem, r1]) rfl ?_
    have kk := turn_setCell Wf (w.heap.size + 1) 0 (.slice (some ⟨gB, 0, none⟩) n cpB)
    have hzb := HZB.out
    have hbw := HBB.out.setCell (p := ⟨w.heap.size + 1, 0, none⟩) (Nat.le_succ _) (.slice (some ⟨gB, 0, none⟩) n cpB)
    exact ⟨_, us, rfl, (HO6.out.keep kk (by omega)).wider (by omega) (by simp) (by simp), TurnIn.of_below hbw⟩
  · have hBW : Below w2.heap.size w2 (World.setCell (World.setCell w4 ⟨w2.heap.size, 0, none⟩ (.slice Aa na ca)) ⟨w3.heap.size, 0, none⟩ (.slice (some ⟨gB, 0, none⟩) n cpB)) := And.left (by assumption)
    have hc6 : World.cell? (World.setCell (World.setCell w4 ⟨w2.heap.size, 0, none⟩ (.slice Aa na ca)) ⟨w3.heap.size, 0, none⟩ (.slice (some ⟨gB, 0, none⟩) n cpB)) ⟨w3.heap.size, 0, none⟩ = some (.slice (some ⟨gB, 0, none⟩) n cpB) := by first | (simp; done) | exact World.cell?_setCell_same _ _ _ (by assumption)
    have hO6 : OwnM 5 22 (World.setCell (World.setCell w4 ⟨w2.heap.size, 0, none⟩ (.slice Aa na ca)) ⟨w3.heap.size, 0, none⟩ (.slice (some ⟨gB, 0, none⟩) n cpB)) w2.heap.size (World.heap (World.setCell (World.setCell w4 ⟨w2.heap.size, 0, none⟩ (.slice Aa na ca)) ⟨w3.heap.size, 0, none⟩ (.slice (some ⟨gB, 0, none⟩) n cpB))).size (.slice (some ⟨gB, 0, none⟩) n cpB) (mkM n n (bst F idF n n)) us := OwnM.wider ((hO.keep (turn_setCell _ _ 0 _) (by first | omega | (simp at * <;> omega))).keep (turn_setCell _ _ 0 _) (by first | omega | (simp at * <;> omega))) (by first | omega | (simp at * <;> omega)) (by first | (simp; done) | (simp; omega)) (Nat.le_refl _)
    have r1 := (hBW.cell (p := ⟨w.heap.size + 1, 0, none⟩) l1).trans q1
    have r1f := (hBW.frozen (p := ⟨w.heap.size + 1, 0, none⟩) l1).trans q1f
    have HO6 := Lib.hid hO6
    have HBB := Lib.hid (kB.to_below.trans (hBW.mono kB.size))
    clear hO6 hBW
    generalize (World.setCell (World.setCell w4 ⟨w2.heap.size, 0, none⟩ (.slice Aa na ca)) ⟨w3.heap.size, 0, none⟩ (.slice (some ⟨gB, 0, none⟩) n cpB)) = Wf at *
    generalize (w3.heap.size) = b6 at *
    have HEQ : (((est F n n).2 : Int) == (n : Int)) = decide ((est F n n).2 = n) := natInt_beq _ _
    generalize hee : decide ((est F n n).2 = n) = db at *
    generalize (est F n n).2 = ee at *
    go_wp2_with fail
    refine bodyPost_ret (v := .tuple #[.agg #[.slice (some ⟨gB, 0, none⟩) n cpB], .bool db]) (by simp [results, Tryd.results80, go_sem, r1]) rfl ?_
    have kk := turn_setCell Wf (w.heap.size + 1) 0 (.slice (some ⟨gB, 0, none⟩) n cpB)
    have hzb := HZB.out
    have hbw := HBB.out.setCell (p := ⟨w.heap.size + 1, 0, none⟩) (Nat.le_succ _) (.slice (some ⟨gB, 0, none⟩) n cpB)
    exact ⟨_, us, rfl, (HO6.out.keep kk (by omega)).wider (by omega) (by simp) (by simp), TurnIn.of_below hbw⟩
  · have hBW : Below w2.heap.size w2 (World.setCell (World.setCell w4 ⟨w2.heap.size, 0, none⟩ (.slice Aa na ca)) ⟨w2.heap.size + 1, 0, none⟩ (.slice (some ⟨gB, 0, none⟩) n cpB)) := And.left (by assumption)
    have hc6 : World.cell? (World.setCell (World.setCell w4 ⟨w2.heap.size, 0, none⟩ (.slice Aa na ca)) ⟨w2.heap.size + 1, 0, none⟩ (.slice (some ⟨gB, 0, none⟩) n cpB)) ⟨w2.heap.size + 1, 0, none⟩ = some (.slice (some ⟨gB, 0, none⟩) n cpB) := by first | (simp; done) | exact World.cell?_setCell_same _ _ _ (by assumption)
    have hO6 : OwnM 5 22 (World.setCell (World.setCell w4 ⟨w2.heap.size, 0, none⟩ (.slice Aa na ca)) ⟨w2.heap.size + 1, 0, none⟩ (.slice (some ⟨gB, 0, none⟩) n cpB)) w2.heap.size (World.heap (World.setCell (World.setCell w4 ⟨w2.heap.size, 0, none⟩ (.slice Aa na ca)) ⟨w2.heap.size + 1, 0, none⟩ (.slice (some ⟨gB, 0, none⟩) n cpB))).size (.slice (some ⟨gB, 0, none⟩) n cpB) (mkM n n (bst F idF n n)) us := OwnM.wider ((hO.keep (turn_setCell _ _ 0 _) (by first | omega | (simp at * <;> omega))).keep (turn_setCell _ _ 0 _) (by first | omega | (simp at * <;> omega))) (by first | omega | (simp at * <;> omega)) (by first | (simp; done) | (simp; omega)) (Nat.le_refl _)
    have r1 := (hBW.cell (p := ⟨w.heap.size + 1, 0, none⟩) l1).trans q1
    have r1f := (hBW.frozen (p := ⟨w.heap.size + 1, 0, none⟩) l1).trans q1f
    have HO6 := Lib.hid hO6
    have HBB := Lib.hid (kB.to_below.trans (hBW.mono kB.size))
    clear hO6 hBW
    generalize (World.setCell (World.setCell w4 ⟨w2.heap.size, 0, none⟩ (.slice Aa na ca)) ⟨w2.heap.size + 1, 0, none⟩ (.slice (some ⟨gB, 0, none⟩) n cpB)) = Wf at *
    generalize (w2.heap.size + 1) = b6 at *
    have HEQ : (((est F n n).2 : Int) == (n : Int)) = decide ((est F n n).2 = n) := natInt_beq _ _
    generalize hee : decide ((est F n n).2 = n) = db at *
    generalize (est F n n).2 = ee at *
    go_wp2_with fail
    refine bodyPost_ret (v := .tuple #[.agg #[.slice (some ⟨gB, 0, none⟩) n cpB], .bool db]) (by simp [results, Tryd.results80, go_sem, r1]) rfl ?_
    have kk := turn_setCell Wf (w.heap.size + 1) 0 (.slice (some ⟨gB, 0, none⟩) n cpB)
    have hzb := HZB.out
    have hbw := HBB.out.setCell (p := ⟨w.heap.size + 1, 0, none⟩) (Nat.le_succ _) (.slice (some ⟨gB, 0, none⟩) n cpB)
    exact ⟨_, us, rfl, (HO6.out.keep kk (by omega)).wider (by omega) (by simp) (by simp), TurnIn.of_below hbw⟩
  · have hBW : Below w2.heap.size w2 (World.setCell (World.alloc w4 (.cells #[.slice Aa na ca] 39)) ⟨w2.heap.size, 0, none⟩ (.slice (some ⟨gB, 0, none⟩) n cpB)) := And.left (by assumption)
    have hc6 : World.cell? (World.setCell (World.alloc w4 (.cells #[.slice Aa na ca] 39)) ⟨w2.heap.size, 0, none⟩ (.slice (some ⟨gB, 0, none⟩) n cpB)) ⟨w2.heap.size, 0, none⟩ = some (.slice (some ⟨gB, 0, none⟩) n cpB) := by first | (simp; done) | exact World.cell?_setCell_same _ _ _ (by assumption)
    have hO6 : OwnM 5 22 (World.setCell (World.alloc w4 (.cells #[.slice Aa na ca] 39)) ⟨w2.heap.size, 0, none⟩ (.slice (some ⟨gB, 0, none⟩) n cpB)) w2.heap.size (World.heap (World.setCell (World.alloc w4 (.cells #[.slice Aa na ca] 39)) ⟨w2.heap.size, 0, none⟩ (.slice (some ⟨gB, 0, none⟩) n cpB))).size (.slice (some ⟨gB, 0, none⟩) n cpB) (mkM n n (bst F idF n n)) us := OwnM.wider ((hO.keep (turn_alloc _ _) (by first | omega | (simp at * <;> omega))).keep (turn_setCell _ _ 0 _) (by first | omega | (simp at * <;> omega))) (by first | omega | (simp at * <;> omega)) (by first | (simp; done) | (simp; omega)) (Nat.le_refl _)
    have r1 := (hBW.cell (p := ⟨w.heap.size + 1, 0, none⟩) l1).trans q1
    have r1f := (hBW.frozen (p := ⟨w.heap.size + 1, 0, none⟩) l1).trans q1f
    have HO6 := Lib.hid hO6
    have HBB := Lib.hid (kB.to_below.trans (hBW.mono kB.size))
    clear hO6 hBW
    generalize (World.setCell (World.alloc w4 (.cells #[.slice Aa na ca] 39)) ⟨w2.heap.size, 0, none⟩ (.slice (some ⟨gB, 0, none⟩) n cpB)) = Wf at *
    generalize (w2.heap.size) = b6 at *
    have HEQ : (((est F n n).2 : Int) == (n : Int)) = decide ((est F n n).2 = n) := natInt_beq _ _
    generalize hee : decide ((est F n n).2 = n) = db at *
    generalize (est F n n).2 = ee at *
    go_wp2_with fail
    refine bodyPost_ret (v := .tuple #[.agg #[.slice (some ⟨gB, 0, none⟩) n cpB], .bool db]) (by simp [results, Tryd.results80, go_sem, r1]) rfl ?_
    have kk := turn_setCell Wf (w.heap.size + 1) 0 (.slice (some ⟨gB, 0, none⟩) n cpB)
    have hzb := HZB.out
    have hbw := HBB.out.setCell (p := ⟨w.heap.size + 1, 0, none⟩) (Nat.le_succ _) (.slice (some ⟨gB, 0, none⟩) n cpB)
    exact ⟨_, us, rfl, (HO6.out.keep kk (by omega)).wider (by omega) (by simp) (by simp), TurnIn.of_below hbw⟩
  · have hBW : Below w2.heap.size w2 (World.setCell (World.setCell w4 ⟨w3.heap.size, 0, none⟩ (.slice Aa na ca)) ⟨w2.heap.size, 0, none⟩ (.slice (some ⟨gB, 0, none⟩) n cpB)) := And.left (by assumption)
    have hc6 : World.cell? (World.setCell (World.setCell w4 ⟨w3.heap.size, 0, none⟩ (.slice Aa na ca)) ⟨w2.heap.size, 0, none⟩ (.slice (some ⟨gB, 0, none⟩) n cpB)) ⟨w2.heap.size, 0, none⟩ = some (.slice (some ⟨gB, 0, none⟩) n cpB) := by first | (simp; done) | exact World.cell?_setCell_same _ _ _ (by assumption)
    have hO6 : OwnM 5 22 (World.setCell (World.setCell w4 ⟨w3.heap.size, 0, none⟩ (.slice Aa na ca)) ⟨w2.heap.size, 0, none⟩ (.slice (some ⟨gB, 0, none⟩) n cpB)) w2.heap.size (World.heap (World.setCell (World.setCell w4 ⟨w3.heap.size, 0, none⟩ (.slice Aa na ca)) ⟨w2.heap.size, 0, none⟩ (.slice (some ⟨gB, 0, none⟩) n cpB))).size (.slice (some ⟨gB, 0, none⟩) n cpB) (mkM n n (bst F idF n n)) us := OwnM.wider ((hO.keep (turn_setCell _ _ 0 _) (by first | omega | (simp at * <;> omega))).keep (turn_setCell _ _ 0 _) (by first | omega | (simp at * <;> omega))) (by first | omega | (simp at * <;> omega)) (by first | (simp; done) | (simp; omega)) (Nat.le_refl _)
    have r1 := (hBW.cell (p := ⟨w.heap.size + 1, 0, none⟩) l1).trans q1
    have r1f := (hBW.frozen (p := ⟨w.heap.size + 1, 0, none⟩) l1).trans q1f
    have HO6 := Lib.hid hO6
    have HBB := Lib.hid (kB.to_below.trans (hBW.mono kB.size))
    clear hO6 hBW
    generalize (World.setCell (World.setCell w4 ⟨w3.heap.size, 0, none⟩ (.slice Aa na ca)) ⟨w2.heap.size, 0, none⟩ (.slice (some ⟨gB, 0, none⟩) n cpB)) = Wf at *
    generalize (w2.heap.size) = b6 at *
    have HEQ : (((est F n n).2 : Int) == (n : Int)) = decide ((est F n n).2 = n) := natInt_beq _ _
    generalize hee : decide ((est F n n).2 = n) = db at *
    generalize (est F n n).2 = ee at *
    go_wp2_with fail
    refine bodyPost_ret (v := .tuple #[.agg #[.slice (some ⟨gB, 0, none⟩) n cpB], .bool db]) (by simp [results, Tryd.results80, go_sem, r1]) rfl ?_
    have kk := turn_setCell Wf (w.heap.size + 1) 0 (.slice (some ⟨gB, 0, none⟩) n cpB)
    have hzb := HZB.out
    have hbw := HBB.out.setCell (p := ⟨w.heap.size + 1, 0, none⟩) (Nat.le_succ _) (.slice (some ⟨gB, 0, none⟩) n cpB)
    exact ⟨_, us, rfl, (HO6.out.keep kk (by omega)).wider (by omega) (by simp) (by simp), TurnIn.of_below hbw⟩
  · have hBW : Below w2.heap.size w2 (World.setCell (World.setCell w4 ⟨w2.heap.size + 1, 0, none⟩ (.slice Aa na ca)) ⟨w2.heap.size, 0, none⟩ (.slice (some ⟨gB, 0, none⟩) n cpB)) := And.left (by assumption)
    have hc6 : World.cell? (World.setCell (World.setCell w4 ⟨w2.heap.size + 1, 0, none⟩ (.slice Aa na ca)) ⟨w2.heap.size, 0, none⟩ (.slice (some ⟨gB, 0, none⟩) n cpB)) ⟨w2.heap.size, 0, none⟩ = some (.slice (some ⟨gB, 0, none⟩) n cpB) := by first | (simp; done) | exact World.cell?_setCell_same _ _ _ (by assumption)
    have hO6 : OwnM 5 22 (World.setCell (World.setCell w4 ⟨w2.heap.size + 1, 0, none⟩ (.slice Aa na ca)) ⟨w2.heap.size, 0, none⟩ (.slice (some ⟨gB, 0, none⟩) n cpB)) w2.heap.size (World.heap (World.setCell (World.setCell w4 ⟨w2.heap.size + 1, 0, none⟩ (.slice Aa na ca)) ⟨w2.heap.size, 0, none⟩ (.slice (some ⟨gB, 0, none⟩) n cpB))).size (.slice (some ⟨gB, 0, none⟩) n cpB) (mkM n n (bst F idF n n)) us := OwnM.wider ((hO.keep (turn_setCell _ _ 0 _) (by first | omega | (simp at * <;> omega))).keep (turn_setCell _ _ 0 _) (by first | omega | (simp at * <;> omega))) (by first | omega | (simp at * <;> omega)) (by first | (simp; done) | (simp; omega)) (Nat.le_refl _)
    have r1 := (hBW.cell (p := ⟨w.heap.size + 1, 0, none⟩) l1).trans q1
    have r1f := (hBW.frozen (p := ⟨w.heap.size + 1, 0, none⟩) l1).trans q1f
    have HO6 := Lib.hid hO6
    have HBB := Lib.hid (kB.to_below.trans (hBW.mono kB.size))
    clear hO6 hBW
    generalize (World.setCell (World.setCell w4 ⟨w2.heap.size + 1, 0, none⟩ (.slice Aa na ca)) ⟨w2.heap.size, 0, none⟩ (.slice (some ⟨gB, 0, none⟩) n cpB)) = Wf at *
    generalize (w2.heap.size) = b6 at *
    have HEQ : (((est F n n).2 : Int) == (n : Int)) = decide ((est F n n).2 = n) := natInt_beq _ _
    generalize hee : decide ((est F n n).2 = n) = db at *
    generalize (est F n n).2 = ee at *
    go_wp2_with fail
    refine bodyPost_ret (v := .tuple #[.agg #[.slice (some ⟨gB, 0, none⟩) n cpB], .bool db]) (by simp [results, Tryd.results80, go_sem, r1]) rfl ?_
    have kk := turn_setCell Wf (w.heap.size + 1) 0 (.slice (some ⟨gB, 0, none⟩) n cpB)
    have hzb := HZB.out
    have hbw := HBB.out.setCell (p := ⟨w.heap.size + 1, 0, none⟩) (Nat.le_succ _) (.slice (some ⟨gB, 0, none⟩) n cpB)
    exact ⟨_, us, rfl, (HO6.out.keep kk (by omega)).wider (by omega) (by simp) (by simp), TurnIn.of_below hbw⟩

end Go.Proofs.YtfglkgeeelapgaaDoor

/- Shapes of codes: the program's goodDataCount and GoodShape, the model's GoodShape. -/
namespace G294
open Go Go.RowKit
def dataOk (k : Int) : Bool := decide (1 ≤ k ∧ k ≤ 8)
def shapeOk (k m : Int) : Bool := dataOk k && decide (1 ≤ m ∧ m ≤ 6)
theorem shapeOk_b {k m : Int} (h : shapeOk k m = true) : (1 ≤ k ∧ k ≤ 8) ∧ 1 ≤ m ∧ m ≤ 6 := by simpa [shapeOk, dataOk] using h
end G294
namespace Go.Proofs.YtfglkgeeelapgaaDoor
open Go.RowKit G294

end Go.Proofs.YtfglkgeeelapgaaDoor

/- CodeMatrix: the program's and the model's. -/
namespace G294
open Go Go.RowKit
/-- append(s, x...) of a row of one-cell elements, onto a row of the call's own -/
theorem wpList_appendN {P : Program} {w : World} {ops : Array Oper} {rest : List Oper} {o : Oper} {a : Act} {Q : Exit → Act → World → Prop} (hgd : o.guard = none) (s x : Operand) (t : TypeId)
    (ho : o.op = .call { callee := .builtin .append, args := #[s, x], argTypes := #[t, t] })
    (base : Nat) (e : TypeId) (z : Value) (bytes : Nat) (ht : P.underlying t = some (.slice e)) (hinfo : (P.info? e).map (fun i => (i.zero, i.size, i.bytes)) = some (some z, 1, bytes)) (hzs : z.cells.size = 1)
    (v : Value) (n : Nat) (xs : List Value) (hs : a.eval s = v) (hown : w.ownsRow base e 1 v n xs)
    (A : Addr) (m c : Nat) (ys : List Value) (hx : a.eval x = .slice (some A) m c) (hl : ys.length = m) (hc : ∀ j y, ys[j]? = some y → w.cell? (A.add j) = some y) (h1 : ∀ y, y ∈ ys → y.oneCell' = true)
    (hn : n + m ≤ 1000000000) (hby : bytes ≤ 1000) (hbase : base ≤ w.heap.size)
    (h : ∀ v' w', w'.ownsRow base e 1 v' (n + m) (xs ++ ys) → w.grownBy w' v.ownBlock → (v'.ownBlock = v.ownBlock ∨ v'.ownBlock = some w.heap.size) → wpList P ops Q rest (a.put o.dst v') w') :
    wpList P ops Q (o :: rest) a w := by
  obtain ⟨i, hi, hz, hsz, hbs⟩ := info_parts hinfo
  refine wpList_append_own_at w hgd s x t ho base e i z 1 bytes ht hi hz hsz hbs hzs (by omega) v n xs hs hown A m c ys hx (by omega) hc h1 (by unfold maxLen; omega) ?_ hbase (fun v' w' h2 h3 _ h5 => h v' w' h2 h3 h5)
  have : (n + m) * bytes ≤ 1000000000 * 1000 := Nat.mul_le_mul (by omega) hby
  omega
/-- the rows of two matrices of the call's own, one behind the other -/
theorem OwnM.join {E EE : TypeId} {w w1 : World} {lo hi a b : Nat} {v v' u : Value} {L M : Mat} {vs us : List Value} (h : OwnM E EE w lo hi v L vs) (hu : OwnM E EE w a b u M us) (h1 : hi ≤ a) (h2 : lo ≤ a)
    (ho : w1.ownsRow lo EE 1 v' (L.length + M.length) (vs ++ us)) (hg : w.grownBy w1 v.ownBlock) (hv : v'.ownBlock = v.ownBlock ∨ v'.ownBlock = some w.heap.size) : OwnM E EE w1 lo w1.heap.size v' (L ++ M) (vs ++ us) := by
  have hvl := h.vlen
  have hul := hu.vlen
  have hs := hg.size
  have hob : ∀ g, v.ownBlock = some g → g < hi := h.out
  have ht := h.top
  have key : ∀ (i : Nat) (x : Value), (vs ++ us)[i]? = some x → (i < L.length ∧ vs[i]? = some x) ∨ (L.length ≤ i ∧ us[i - L.length]? = some x) := by
    intro i x hi'
    rcases Nat.lt_or_ge i vs.length with hlt | hge
    · rw [List.getElem?_append_left hlt] at hi'; exact .inl ⟨by omega, hi'⟩
    · rw [List.getElem?_append_right hge, hvl] at hi'
      exact .inr ⟨by omega, hi'⟩
  have low : ∀ (i : Nat) (x : Value) (g : Nat), vs[i]? = some x → x.ownBlock = some g → g < hi := fun i x g e1 e2 => (h.rows i x e1).2.2 g e2
  have high : ∀ (i : Nat) (x : Value) (g : Nat), us[i]? = some x → x.ownBlock = some g → a ≤ g := fun i x g e1 e2 => ((hu.rows i x e1).1.lt g e2).1
  refine ⟨by simpa using ho, Nat.le_refl _, fun g e => (ho.lt g e).2, ?_, ?_⟩
  · intro i x hi'
    rcases key i x hi' with ⟨h3, h4⟩ | ⟨h3, h4⟩
    · have e : (L ++ M).getD i [] = L.getD i [] := by simp [List.getD, List.getElem?_append_left h3]
      rw [e]
      exact ((h.rows i x h4).other hg (fun g e1 e2 => (h.apart i x g h4 e1).1 e2)).wider (Nat.le_refl _) (by omega) (Nat.le_refl _)
    · have e : (L ++ M).getD i [] = M.getD (i - L.length) [] := by simp [List.getD, List.getElem?_append_right h3]
      rw [e]
      exact ((hu.rows _ x h4).other hg (fun g e1 e2 => by have := high _ x g h4 e1; have := hob g e2; omega)).wider h2 (by have := hu.top; omega) (Nat.le_refl _)
  · intro i x g hi' hgx
    have hlt : g < w.heap.size := by
      rcases key i x hi' with ⟨_, h4⟩ | ⟨_, h4⟩
      · exact ((h.rows i x h4).1.lt g hgx).2
      · exact ((hu.rows _ x h4).1.lt g hgx).2
    refine ⟨fun e => ?_, fun j y hj hgy => ?_⟩
    · rcases hv with e2 | e2
      · rw [e2] at e
        rcases key i x hi' with ⟨_, h4⟩ | ⟨_, h4⟩
        · exact (h.apart i x g h4 hgx).1 e
        · have := high _ x g h4 hgx; have := hob g e; omega
      · rw [e2] at e; simp at e; omega
    · rcases key i x hi' with ⟨h3, h4⟩ | ⟨h3, h4⟩ <;> rcases key j y hj with ⟨h5, h6⟩ | ⟨h5, h6⟩
      · exact (h.apart i x g h4 hgx).2 j y h6 hgy
      · have := low i x g h4 hgx; have := high _ y g h6 hgy; omega
      · have := low j y g h6 hgy; have := high _ x g h4 hgx; omega
      · have := (hu.apart _ x g h4 hgx).2 _ y h6 hgy; omega
/-- a store into a block that is none of its own -/
theorem OwnM.other {E EE : TypeId} {w w' : World} {lo hi B : Nat} {v : Value} {L : Mat} {vs : List Value} (h : OwnM E EE w lo hi v L vs) (hg : w.grownBy w' (some B)) (hv : v.ownBlock ≠ some B) (hr : ∀ u ∈ vs, u.ownBlock ≠ some B) : OwnM E EE w' lo hi v L vs :=
  ⟨own_other h.row hg (fun g e e2 => by cases e2; exact hv e), Nat.le_trans h.top hg.size, h.out, fun i u hu => (h.rows i u hu).other hg (fun g e e2 => by cases e2; exact hr u (List.mem_of_getElem? hu) e), h.apart⟩
theorem OwnM.rowBlock {E EE : TypeId} {w : World} {lo hi : Nat} {v : Value} {L : Mat} {vs : List Value} (h : OwnM E EE w lo hi v L vs) : ∀ u ∈ vs, ∀ g, u.ownBlock = some g → lo ≤ g ∧ g < hi := fun u hu g e => by
  obtain ⟨i, hi, rfl⟩ := List.getElem_of_mem hu
  have := h.rows i _ (List.getElem?_eq_getElem hi)
  exact ⟨(this.1.lt g e).1, this.2.2 g e⟩
theorem grown_set {w : World} (B o : Nat) (x : Value) : w.grownBy (w.setCell ⟨B, o, none⟩ x) (some B) := by
  have t := turn_setCell w B o x
  exact ⟨t.os, t.tape, t.output, t.size, fun k hk hne => t.block k hk (by have : k ≠ B := fun e => hne (by rw [e]); omega)⟩
theorem rows_oneC {E EE : TypeId} {w : World} {lo hi : Nat} {v : Value} {L : Mat} {vs : List Value} (h : OwnM E EE w lo hi v L vs) : ∀ y, y ∈ vs → y.oneCell' = true := fun y hy => by
  obtain ⟨i, hi, rfl⟩ := List.getElem_of_mem hy
  obtain ⟨A, n, c, e⟩ := own_isSlice (h.rows i _ (List.getElem?_eq_getElem hi)).1
  rw [e]; rfl
/-- the matrix of a code -/
def codF (k : Nat) : Ents := fun i j => if i < k then idF i j else cauF k (i - k) j
def codM (k m : Nat) : Mat := mkM (k + m) k (codF k)
theorem codM_eq (k m : Nat) : mkM k k idF ++ mkM m k (cauF k) = codM k m := by
  apply List.ext_getElem
  · simp [codM]
  · intro i h1 h2
    rcases Nat.lt_or_ge i k with h | h
    · rw [List.getElem_append_left (by simpa using h)]
      simp only [codM, mkM, List.getElem_map, List.getElem_range]
      exact mkRow_congr fun j _ => by simp [codF, h]
    · rw [List.getElem_append_right (by simpa using h)]
      simp only [codM, mkM, List.getElem_map, List.getElem_range, List.length_map, List.length_range]
      exact mkRow_congr fun j _ => by simp [codF, Nat.not_lt.2 h]
def codR (k m : Int) : Mat := if shapeOk k m then codM k.toNat m.toNat else []
theorem codR_yes {k m : Nat} (h : shapeOk k m = true) : codR k m = codM k m := by unfold codR; rw [if_pos h]; simp
theorem codR_no {k m : Int} (h : shapeOk k m = false) : codR k m = [] := by unfold codR; rw [if_neg (by rw [h]; simp)]
theorem codR_siz (k m : Int) : sizM (codR k m) ≤ 256 := by
  unfold codR; split
  · rename_i h
    have := shapeOk_b h
    exact sizM_side _ (by omega) (by omega)
  · simp [sizM]
end G294
namespace Go.Proofs.YtfglkgeeelapgaaDoor
open Go.RowKit G294

end Go.Proofs.YtfglkgeeelapgaaDoor

/- Contracts of DotVectors, the program's and the model's. -/
namespace Go.Proofs.YtfglkgeeelapgaaDoor
open Go.RowKit G294

end Go.Proofs.YtfglkgeeelapgaaDoor
