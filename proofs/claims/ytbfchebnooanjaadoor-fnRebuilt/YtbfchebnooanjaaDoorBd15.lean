/- Joined texts: SpecInv, DecBy. -/
import Derived.Test.YtbfchebnooanjaaDoorBd14
import Derived.Test.YtbfchebnooanjaaDoorBd06
import Derived.RangeFuncBox
import Derived.RangeFuncNested
import Derived.Test.YtbfchebnooanjaaDoorBd11
import Derived.Test.YtbfchebnooanjaaDoorBd12
import Derived.Test.YtbfchebnooanjaaDoorBd13
import Derived.Deep.CutRange
import Derived.Maps.AppendAt
set_option linter.unusedSimpArgs false
set_option linter.unusedVariables false
/- The model's l2Inverse. -/
namespace G294
open Go Go.RowKit
theorem sAlloc {w2 W : World} {a : Addr} {x : Value} (h : Below w2.heap.size w2 W ∧ W.cell? a = some x) (ha : a.block < w2.heap.size) (o : Obj) : Below w2.heap.size w2 (W.alloc o) ∧ (W.alloc o).cell? a = some x := by
  have hb := h.1.alloc h.1.size o
  exact ⟨hb, (((Below.refl _ W).alloc (Nat.le_refl _) o).cell (p := a) (Nat.lt_of_lt_of_le ha h.1.size)).trans h.2⟩
theorem sTurn {w2 W W' : World} {a : Addr} {x : Value} (h : Below w2.heap.size w2 W ∧ W.cell? a = some x) (ha : a.block < w2.heap.size) (k : TurnIn 0 0 W W') : Below w2.heap.size w2 W' ∧ W'.cell? a = some x :=
  ⟨k.base h.1 h.1.size (by omega), (k.to_below.cell (p := a) (Nat.lt_of_lt_of_le ha h.1.size)).trans h.2⟩
theorem sSet {w2 W : World} {a : Addr} {x : Value} (h : Below w2.heap.size w2 W ∧ W.cell? a = some x) (ha : a.block < w2.heap.size) {B : Nat} (hB : w2.heap.size ≤ B) (u : Value) : Below w2.heap.size w2 (W.setCell ⟨B, 0, none⟩ u) ∧ (W.setCell ⟨B, 0, none⟩ u).cell? a = some x :=
  ⟨h.1.setCell (p := ⟨B, 0, none⟩) hB u, (World.cell?_setCell_other _ _ _ _ (fun e => by rw [← e] at ha; simp at ha; omega)).trans h.2⟩
theorem natInt_beq (a b : Nat) : ((a : Int) == (b : Int)) = decide (a = b) := by
  by_cases h : a = b
  · subst h; simp
  · have h2 : ((a : Int) == (b : Int)) = false := by rw [beq_eq_false_iff_ne]; omega
    rw [h2]; simp [h]
theorem Boxed.turn {W W' : World} {B : Nat} {T : TypeId} {v : Value} (h : Boxed W B T v) (k : TurnIn 0 0 W W') : Boxed W' B T v := (k.block B h.lt (by omega)).trans h
theorem boxes1 {w w' : World} {v : Value} {T : TypeId} (k : TurnIn 0 0 (w.alloc (.cells #[v] T)) w') : Boxed w' w.heap.size T v := Boxed.turn (Boxed.new w T v) k
theorem boxes2 {w w' : World} {v v' : Value} {T T' : TypeId} (k : TurnIn 0 0 ((w.alloc (.cells #[v] T)).alloc (.cells #[v'] T')) w') : Boxed w' w.heap.size T v ∧ Boxed w' (w.heap.size + 1) T' v' := by
  refine ⟨Boxed.turn ((Boxed.new w T v).alloc _) k, ?_⟩
  have h := Boxed.turn (Boxed.new (w.alloc (.cells #[v] T)) T' v') k
  rwa [World.size_alloc] at h
end G294
namespace Go.Proofs.YtbfchebnooanjaaDoor
open Go.RowKit G294

set_option maxRecDepth 100000 in
set_option maxHeartbeats 4000000 in
theorem l2Inverse_own (n : Nat) (F : Ents) (v : Value) (w : World) (hs : SeenM w v (mkM n n F)) (hn1 : 1 ≤ n) (hn : n ≤ 1000) :
    Calls Tryd.prog 42 #[.agg #[v]] w (RetMatOk 5 22 w (mkM n n (bst F idF n n)) (decide ((est F n n).2 = n))) := by
  obtain ⟨A, cp, rfl, hlc, hcm⟩ := hs.len
  rw [mkM_length] at *
  unfold maxLen at hcm
  have kB : TurnIn 0 0 w ((w.alloc (.cells #[.slice A n cp] 67)).alloc (.cells #[.slice none 0 0] 67)) := turn_trans (turn_alloc _ _) (turn_alloc _ _) (by omega)
  have zB : ((w.alloc (.cells #[.slice A n cp] 67)).alloc (.cells #[.slice none 0 0] 67)).heap.size = w.heap.size + 2 := by simp
  have q0 : ((w.alloc (.cells #[.slice A n cp] 67)).alloc (.cells #[.slice none 0 0] 67)).cell? ⟨w.heap.size, 0, none⟩ = some (.slice A n cp) := by simp
  have q1 : ((w.alloc (.cells #[.slice A n cp] 67)).alloc (.cells #[.slice none 0 0] 67)).cell? ⟨w.heap.size + 1, 0, none⟩ = some (.slice none 0 0) := by simp
  have q1f : ((w.alloc (.cells #[.slice A n cp] 67)).alloc (.cells #[.slice none 0 0] 67)).frozen? ⟨w.heap.size + 1, 0, none⟩ = false := by simp
  have HS := Lib.hid (hs.touch kB)
  go_enter Tryd.func42, Tryd.ntmps42
  go_wp2_with fail
  generalize ((w.alloc (.cells #[.slice A n cp] 67)).alloc (.cells #[.slice none 0 0] 67)) = w2 at *
  have hB2 : Below w2.heap.size w2 w2 := Below.refl _ _
  have l0 : (⟨w.heap.size, 0, none⟩ : Addr).block < w2.heap.size := by show w.heap.size < w2.heap.size; omega
  have l1 : (⟨w.heap.size + 1, 0, none⟩ : Addr).block < w2.heap.size := by show w.heap.size + 1 < w2.heap.size; omega
  have HZB := Lib.hid zB
  clear zB
  go_region_held3 (fun w' => Below w2.heap.size w2 w' ∧ w'.cell? ⟨w.heap.size, 0, none⟩ = some (.slice A n cp))
    (first | exact ⟨hB2.drew, q0⟩ | exact hS4 | exact sAlloc (by assumption) l0 _ | exact sTurn (by assumption) l0 (by assumption) | exact sSet (by assumption) l0 (by omega) _ | exact sSet (by assumption) l0 (by simp; omega) _ | exact sAlloc (sAlloc hS4 l0 _) l0 _ | exact sAlloc hS4 l0 _ | exact sAlloc (sSet hS4 l0 (by omega) _) l0 _ | exact sSet (sSet hS4 l0 (by omega) _) l0 (by omega) _)
    (first
      | (go_at_call 62; refine (l2Identity_own n _ hn1 hn).mono ?_; rintro e w3 ⟨vI, vsI, rfl, hI, k3⟩; obtain ⟨gI, cpI, rfl, hgI, hgI', hpI, hpI'⟩ := hI.sliceF (by omega); have hz3 := (sTurn (by assumption) l0 k3).1.size; have hk3 := k3.size; (first | (have fA := boxes2 (undrew k3)) | (have fA := boxes1 (undrew k3)) | skip))
      | (go_at_call 69; refine (l2Reduce_own n n n F idF _ _ _ (HS.out.below (And.left (by assumption))) (by first | exact hI.seen | exact (hI.keep (turn_alloc _ _) (by omega)).seen | exact ((hI.keep (turn_alloc _ _) (by omega)).keep (turn_alloc _ _) (by omega)).seen) hn1 hn hn1 hn hn1 hn).mono ?_; rintro e w4 ⟨Aa, na, ca, vb, us, rfl, hO, k4⟩; obtain ⟨gB, cpB, rfl, hgB, hgB', hpB, hpB'⟩ := hO.sliceF (by omega); have hS4 := sTurn (by assumption) l0 k4; have hz4 := hS4.1.size; have hk4 := k4.size; have k34 : TurnIn 0 0 w3 w4 := (by first | exact k4 | exact turn_trans (turn_alloc _ _) k4 (by omega) | exact turn_trans (turn_trans (turn_alloc _ _) (turn_alloc _ _) (by omega)) k4 (by omega)); (try have fac0 : w4.cell? ⟨w2.heap.size, 0, none⟩ = some (.slice none 0 0) := Boxed.cell (Boxed.turn fA k34)); (try have faf0 : w4.frozen? ⟨w2.heap.size, 0, none⟩ = false := Boxed.frozen (Boxed.turn fA k34)); (try have fac1 : (w4.alloc (.cells #[.slice none 0 0] 67)).cell? ⟨w2.heap.size, 0, none⟩ = some (.slice none 0 0) := Boxed.cell (Boxed.alloc (Boxed.turn fA k34) _)); (try have faf1 : (w4.alloc (.cells #[.slice none 0 0] 67)).frozen? ⟨w2.heap.size, 0, none⟩ = false := Boxed.frozen (Boxed.alloc (Boxed.turn fA k34) _)); (try have fbc0 : w4.cell? ⟨w2.heap.size, 0, none⟩ = some (.slice none 0 0) := Boxed.cell (Boxed.turn fA.1 k34)); (try have fbf0 : w4.frozen? ⟨w2.heap.size, 0, none⟩ = false := Boxed.frozen (Boxed.turn fA.1 k34)); (try have fbc1 : (w4.alloc (.cells #[.slice none 0 0] 67)).cell? ⟨w2.heap.size, 0, none⟩ = some (.slice none 0 0) := Boxed.cell (Boxed.alloc (Boxed.turn fA.1 k34) _)); (try have fbf1 : (w4.alloc (.cells #[.slice none 0 0] 67)).frozen? ⟨w2.heap.size, 0, none⟩ = false := Boxed.frozen (Boxed.alloc (Boxed.turn fA.1 k34) _)); (try have fcc0 : w4.cell? ⟨w2.heap.size + 1, 0, none⟩ = some (.slice none 0 0) := Boxed.cell (Boxed.turn fA.2 k34)); (try have fcf0 : w4.frozen? ⟨w2.heap.size + 1, 0, none⟩ = false := Boxed.frozen (Boxed.turn fA.2 k34)); (try have fcc1 : (w4.alloc (.cells #[.slice none 0 0] 67)).cell? ⟨w2.heap.size + 1, 0, none⟩ = some (.slice none 0 0) := Boxed.cell (Boxed.alloc (Boxed.turn fA.2 k34) _)); (try have fcf1 : (w4.alloc (.cells #[.slice none 0 0] 67)).frozen? ⟨w2.heap.size + 1, 0, none⟩ = false := Boxed.frozen (Boxed.alloc (Boxed.turn fA.2 k34) _)); (try have n1 : w2.heap.size ≠ w3.heap.size := Nat.ne_of_lt (Boxed.lt fA)); (try have n2 : w3.heap.size ≠ w2.heap.size := Nat.ne_of_gt (Boxed.lt fA)); (try have gA := boxes2 k4); (try have gD := boxes1 k4); (try have gac0 : w4.cell? ⟨w3.heap.size, 0, none⟩ = some (.slice none 0 0) := Boxed.cell (gA.1)); (try have gaf0 : w4.frozen? ⟨w3.heap.size, 0, none⟩ = false := Boxed.frozen (gA.1)); (try have gac1 : (w4.alloc (.cells #[.slice none 0 0] 67)).cell? ⟨w3.heap.size, 0, none⟩ = some (.slice none 0 0) := Boxed.cell (Boxed.alloc (gA.1) _)); (try have gaf1 : (w4.alloc (.cells #[.slice none 0 0] 67)).frozen? ⟨w3.heap.size, 0, none⟩ = false := Boxed.frozen (Boxed.alloc (gA.1) _)); (try have gbc0 : w4.cell? ⟨w3.heap.size + 1, 0, none⟩ = some (.slice none 0 0) := Boxed.cell (gA.2)); (try have gbf0 : w4.frozen? ⟨w3.heap.size + 1, 0, none⟩ = false := Boxed.frozen (gA.2)); (try have gbc1 : (w4.alloc (.cells #[.slice none 0 0] 67)).cell? ⟨w3.heap.size + 1, 0, none⟩ = some (.slice none 0 0) := Boxed.cell (Boxed.alloc (gA.2) _)); (try have gbf1 : (w4.alloc (.cells #[.slice none 0 0] 67)).frozen? ⟨w3.heap.size + 1, 0, none⟩ = false := Boxed.frozen (Boxed.alloc (gA.2) _)); (try have gcc0 : w4.cell? ⟨w3.heap.size, 0, none⟩ = some (.slice none 0 0) := Boxed.cell (gD)); (try have gcf0 : w4.frozen? ⟨w3.heap.size, 0, none⟩ = false := Boxed.frozen (gD)); (try have gcc1 : (w4.alloc (.cells #[.slice none 0 0] 67)).cell? ⟨w3.heap.size, 0, none⟩ = some (.slice none 0 0) := Boxed.cell (Boxed.alloc (gD) _)); (try have gcf1 : (w4.alloc (.cells #[.slice none 0 0] 67)).frozen? ⟨w3.heap.size, 0, none⟩ = false := Boxed.frozen (Boxed.alloc (gD) _)); (try have n3 : w3.heap.size ≠ w4.heap.size := Nat.ne_of_lt (Boxed.lt gD)); (try have n4 : w4.heap.size ≠ w3.heap.size := Nat.ne_of_gt (Boxed.lt gD)); (try have n5 : w2.heap.size ≠ w4.heap.size := Nat.ne_of_lt (Boxed.lt (Boxed.turn fA k34))); (try have n6 : w4.heap.size ≠ w2.heap.size := Nat.ne_of_gt (Boxed.lt (Boxed.turn fA k34))); (try have xa1 : (w4.alloc (.cells #[.slice Aa na ca] 67)).cell? ⟨w2.heap.size, 0, none⟩ = some (.slice none 0 0) := Boxed.cell (Boxed.alloc (Boxed.turn fA k34) _)); (try have xb1 : (w4.alloc (.cells #[.slice Aa na ca] 67)).frozen? ⟨w2.heap.size, 0, none⟩ = false := Boxed.frozen (Boxed.alloc (Boxed.turn fA k34) _)); (try have xc2 : (w4.setCell ⟨w2.heap.size + 1, 0, none⟩ (.slice Aa na ca)).cell? ⟨w2.heap.size, 0, none⟩ = some (.slice none 0 0) := Boxed.cell (Boxed.other (Boxed.turn fA k34) (by first | omega | exact n1 | exact n2 | exact n3 | exact n4 | exact n5 | exact n6) _)); (try have xd2 : (w4.setCell ⟨w2.heap.size + 1, 0, none⟩ (.slice Aa na ca)).frozen? ⟨w2.heap.size, 0, none⟩ = false := Boxed.frozen (Boxed.other (Boxed.turn fA k34) (by first | omega | exact n1 | exact n2 | exact n3 | exact n4 | exact n5 | exact n6) _)); (try have xc3 : (w4.setCell ⟨w3.heap.size, 0, none⟩ (.slice Aa na ca)).cell? ⟨w2.heap.size, 0, none⟩ = some (.slice none 0 0) := Boxed.cell (Boxed.other (Boxed.turn fA k34) (by first | omega | exact n1 | exact n2 | exact n3 | exact n4 | exact n5 | exact n6) _)); (try have xd3 : (w4.setCell ⟨w3.heap.size, 0, none⟩ (.slice Aa na ca)).frozen? ⟨w2.heap.size, 0, none⟩ = false := Boxed.frozen (Boxed.other (Boxed.turn fA k34) (by first | omega | exact n1 | exact n2 | exact n3 | exact n4 | exact n5 | exact n6) _)); (try have xc4 : (w4.setCell ⟨w3.heap.size + 1, 0, none⟩ (.slice Aa na ca)).cell? ⟨w2.heap.size, 0, none⟩ = some (.slice none 0 0) := Boxed.cell (Boxed.other (Boxed.turn fA k34) (by first | omega | exact n1 | exact n2 | exact n3 | exact n4 | exact n5 | exact n6) _)); (try have xd4 : (w4.setCell ⟨w3.heap.size + 1, 0, none⟩ (.slice Aa na ca)).frozen? ⟨w2.heap.size, 0, none⟩ = false := Boxed.frozen (Boxed.other (Boxed.turn fA k34) (by first | omega | exact n1 | exact n2 | exact n3 | exact n4 | exact n5 | exact n6) _)); (try have xa5 : (w4.alloc (.cells #[.slice Aa na ca] 67)).cell? ⟨w2.heap.size, 0, none⟩ = some (.slice none 0 0) := Boxed.cell (Boxed.alloc (Boxed.turn fA.1 k34) _)); (try have xb5 : (w4.alloc (.cells #[.slice Aa na ca] 67)).frozen? ⟨w2.heap.size, 0, none⟩ = false := Boxed.frozen (Boxed.alloc (Boxed.turn fA.1 k34) _)); (try have xc6 : (w4.setCell ⟨w2.heap.size + 1, 0, none⟩ (.slice Aa na ca)).cell? ⟨w2.heap.size, 0, none⟩ = some (.slice none 0 0) := Boxed.cell (Boxed.other (Boxed.turn fA.1 k34) (by first | omega | exact n1 | exact n2 | exact n3 | exact n4 | exact n5 | exact n6) _)); (try have xd6 : (w4.setCell ⟨w2.heap.size + 1, 0, none⟩ (.slice Aa na ca)).frozen? ⟨w2.heap.size, 0, none⟩ = false := Boxed.frozen (Boxed.other (Boxed.turn fA.1 k34) (by first | omega | exact n1 | exact n2 | exact n3 | exact n4 | exact n5 | exact n6) _)); (try have xc7 : (w4.setCell ⟨w3.heap.size, 0, none⟩ (.slice Aa na ca)).cell? ⟨w2.heap.size, 0, none⟩ = some (.slice none 0 0) := Boxed.cell (Boxed.other (Boxed.turn fA.1 k34) (by first | omega | exact n1 | exact n2 | exact n3 | exact n4 | exact n5 | exact n6) _)); (try have xd7 : (w4.setCell ⟨w3.heap.size, 0, none⟩ (.slice Aa na ca)).frozen? ⟨w2.heap.size, 0, none⟩ = false := Boxed.frozen (Boxed.other (Boxed.turn fA.1 k34) (by first | omega | exact n1 | exact n2 | exact n3 | exact n4 | exact n5 | exact n6) _)); (try have xc8 : (w4.setCell ⟨w3.heap.size + 1, 0, none⟩ (.slice Aa na ca)).cell? ⟨w2.heap.size, 0, none⟩ = some (.slice none 0 0) := Boxed.cell (Boxed.other (Boxed.turn fA.1 k34) (by first | omega | exact n1 | exact n2 | exact n3 | exact n4 | exact n5 | exact n6) _)); (try have xd8 : (w4.setCell ⟨w3.heap.size + 1, 0, none⟩ (.slice Aa na ca)).frozen? ⟨w2.heap.size, 0, none⟩ = false := Boxed.frozen (Boxed.other (Boxed.turn fA.1 k34) (by first | omega | exact n1 | exact n2 | exact n3 | exact n4 | exact n5 | exact n6) _)); (try have xa9 : (w4.alloc (.cells #[.slice Aa na ca] 67)).cell? ⟨w2.heap.size + 1, 0, none⟩ = some (.slice none 0 0) := Boxed.cell (Boxed.alloc (Boxed.turn fA.2 k34) _)); (try have xb9 : (w4.alloc (.cells #[.slice Aa na ca] 67)).frozen? ⟨w2.heap.size + 1, 0, none⟩ = false := Boxed.frozen (Boxed.alloc (Boxed.turn fA.2 k34) _)); (try have xc10 : (w4.setCell ⟨w2.heap.size, 0, none⟩ (.slice Aa na ca)).cell? ⟨w2.heap.size + 1, 0, none⟩ = some (.slice none 0 0) := Boxed.cell (Boxed.other (Boxed.turn fA.2 k34) (by first | omega | exact n1 | exact n2 | exact n3 | exact n4 | exact n5 | exact n6) _)); (try have xd10 : (w4.setCell ⟨w2.heap.size, 0, none⟩ (.slice Aa na ca)).frozen? ⟨w2.heap.size + 1, 0, none⟩ = false := Boxed.frozen (Boxed.other (Boxed.turn fA.2 k34) (by first | omega | exact n1 | exact n2 | exact n3 | exact n4 | exact n5 | exact n6) _)); (try have xc11 : (w4.setCell ⟨w3.heap.size, 0, none⟩ (.slice Aa na ca)).cell? ⟨w2.heap.size + 1, 0, none⟩ = some (.slice none 0 0) := Boxed.cell (Boxed.other (Boxed.turn fA.2 k34) (by first | omega | exact n1 | exact n2 | exact n3 | exact n4 | exact n5 | exact n6) _)); (try have xd11 : (w4.setCell ⟨w3.heap.size, 0, none⟩ (.slice Aa na ca)).frozen? ⟨w2.heap.size + 1, 0, none⟩ = false := Boxed.frozen (Boxed.other (Boxed.turn fA.2 k34) (by first | omega | exact n1 | exact n2 | exact n3 | exact n4 | exact n5 | exact n6) _)); (try have xc12 : (w4.setCell ⟨w3.heap.size + 1, 0, none⟩ (.slice Aa na ca)).cell? ⟨w2.heap.size + 1, 0, none⟩ = some (.slice none 0 0) := Boxed.cell (Boxed.other (Boxed.turn fA.2 k34) (by first | omega | exact n1 | exact n2 | exact n3 | exact n4 | exact n5 | exact n6) _)); (try have xd12 : (w4.setCell ⟨w3.heap.size + 1, 0, none⟩ (.slice Aa na ca)).frozen? ⟨w2.heap.size + 1, 0, none⟩ = false := Boxed.frozen (Boxed.other (Boxed.turn fA.2 k34) (by first | omega | exact n1 | exact n2 | exact n3 | exact n4 | exact n5 | exact n6) _)); (try have xa13 : (w4.alloc (.cells #[.slice Aa na ca] 67)).cell? ⟨w3.heap.size, 0, none⟩ = some (.slice none 0 0) := Boxed.cell (Boxed.alloc (gD) _)); (try have xb13 : (w4.alloc (.cells #[.slice Aa na ca] 67)).frozen? ⟨w3.heap.size, 0, none⟩ = false := Boxed.frozen (Boxed.alloc (gD) _)); (try have xc14 : (w4.setCell ⟨w2.heap.size, 0, none⟩ (.slice Aa na ca)).cell? ⟨w3.heap.size, 0, none⟩ = some (.slice none 0 0) := Boxed.cell (Boxed.other (gD) (by first | omega | exact n1 | exact n2 | exact n3 | exact n4 | exact n5 | exact n6) _)); (try have xd14 : (w4.setCell ⟨w2.heap.size, 0, none⟩ (.slice Aa na ca)).frozen? ⟨w3.heap.size, 0, none⟩ = false := Boxed.frozen (Boxed.other (gD) (by first | omega | exact n1 | exact n2 | exact n3 | exact n4 | exact n5 | exact n6) _)); (try have xc15 : (w4.setCell ⟨w2.heap.size + 1, 0, none⟩ (.slice Aa na ca)).cell? ⟨w3.heap.size, 0, none⟩ = some (.slice none 0 0) := Boxed.cell (Boxed.other (gD) (by first | omega | exact n1 | exact n2 | exact n3 | exact n4 | exact n5 | exact n6) _)); (try have xd15 : (w4.setCell ⟨w2.heap.size + 1, 0, none⟩ (.slice Aa na ca)).frozen? ⟨w3.heap.size, 0, none⟩ = false := Boxed.frozen (Boxed.other (gD) (by first | omega | exact n1 | exact n2 | exact n3 | exact n4 | exact n5 | exact n6) _)); (try have xc16 : (w4.setCell ⟨w3.heap.size + 1, 0, none⟩ (.slice Aa na ca)).cell? ⟨w3.heap.size, 0, none⟩ = some (.slice none 0 0) := Boxed.cell (Boxed.other (gD) (by first | omega | exact n1 | exact n2 | exact n3 | exact n4 | exact n5 | exact n6) _)); (try have xd16 : (w4.setCell ⟨w3.heap.size + 1, 0, none⟩ (.slice Aa na ca)).frozen? ⟨w3.heap.size, 0, none⟩ = false := Boxed.frozen (Boxed.other (gD) (by first | omega | exact n1 | exact n2 | exact n3 | exact n4 | exact n5 | exact n6) _)); (try have xa17 : (w4.alloc (.cells #[.slice Aa na ca] 67)).cell? ⟨w3.heap.size, 0, none⟩ = some (.slice none 0 0) := Boxed.cell (Boxed.alloc (gA.1) _)); (try have xb17 : (w4.alloc (.cells #[.slice Aa na ca] 67)).frozen? ⟨w3.heap.size, 0, none⟩ = false := Boxed.frozen (Boxed.alloc (gA.1) _)); (try have xc18 : (w4.setCell ⟨w2.heap.size, 0, none⟩ (.slice Aa na ca)).cell? ⟨w3.heap.size, 0, none⟩ = some (.slice none 0 0) := Boxed.cell (Boxed.other (gA.1) (by first | omega | exact n1 | exact n2 | exact n3 | exact n4 | exact n5 | exact n6) _)); (try have xd18 : (w4.setCell ⟨w2.heap.size, 0, none⟩ (.slice Aa na ca)).frozen? ⟨w3.heap.size, 0, none⟩ = false := Boxed.frozen (Boxed.other (gA.1) (by first | omega | exact n1 | exact n2 | exact n3 | exact n4 | exact n5 | exact n6) _)); (try have xc19 : (w4.setCell ⟨w2.heap.size + 1, 0, none⟩ (.slice Aa na ca)).cell? ⟨w3.heap.size, 0, none⟩ = some (.slice none 0 0) := Boxed.cell (Boxed.other (gA.1) (by first | omega | exact n1 | exact n2 | exact n3 | exact n4 | exact n5 | exact n6) _)); (try have xd19 : (w4.setCell ⟨w2.heap.size + 1, 0, none⟩ (.slice Aa na ca)).frozen? ⟨w3.heap.size, 0, none⟩ = false := Boxed.frozen (Boxed.other (gA.1) (by first | omega | exact n1 | exact n2 | exact n3 | exact n4 | exact n5 | exact n6) _)); (try have xc20 : (w4.setCell ⟨w3.heap.size + 1, 0, none⟩ (.slice Aa na ca)).cell? ⟨w3.heap.size, 0, none⟩ = some (.slice none 0 0) := Boxed.cell (Boxed.other (gA.1) (by first | omega | exact n1 | exact n2 | exact n3 | exact n4 | exact n5 | exact n6) _)); (try have xd20 : (w4.setCell ⟨w3.heap.size + 1, 0, none⟩ (.slice Aa na ca)).frozen? ⟨w3.heap.size, 0, none⟩ = false := Boxed.frozen (Boxed.other (gA.1) (by first | omega | exact n1 | exact n2 | exact n3 | exact n4 | exact n5 | exact n6) _)); (try have xa21 : (w4.alloc (.cells #[.slice Aa na ca] 67)).cell? ⟨w3.heap.size + 1, 0, none⟩ = some (.slice none 0 0) := Boxed.cell (Boxed.alloc (gA.2) _)); (try have xb21 : (w4.alloc (.cells #[.slice Aa na ca] 67)).frozen? ⟨w3.heap.size + 1, 0, none⟩ = false := Boxed.frozen (Boxed.alloc (gA.2) _)); (try have xc22 : (w4.setCell ⟨w2.heap.size, 0, none⟩ (.slice Aa na ca)).cell? ⟨w3.heap.size + 1, 0, none⟩ = some (.slice none 0 0) := Boxed.cell (Boxed.other (gA.2) (by first | omega | exact n1 | exact n2 | exact n3 | exact n4 | exact n5 | exact n6) _)); (try have xd22 : (w4.setCell ⟨w2.heap.size, 0, none⟩ (.slice Aa na ca)).frozen? ⟨w3.heap.size + 1, 0, none⟩ = false := Boxed.frozen (Boxed.other (gA.2) (by first | omega | exact n1 | exact n2 | exact n3 | exact n4 | exact n5 | exact n6) _)); (try have xc23 : (w4.setCell ⟨w2.heap.size + 1, 0, none⟩ (.slice Aa na ca)).cell? ⟨w3.heap.size + 1, 0, none⟩ = some (.slice none 0 0) := Boxed.cell (Boxed.other (gA.2) (by first | omega | exact n1 | exact n2 | exact n3 | exact n4 | exact n5 | exact n6) _)); (try have xd23 : (w4.setCell ⟨w2.heap.size + 1, 0, none⟩ (.slice Aa na ca)).frozen? ⟨w3.heap.size + 1, 0, none⟩ = false := Boxed.frozen (Boxed.other (gA.2) (by first | omega | exact n1 | exact n2 | exact n3 | exact n4 | exact n5 | exact n6) _)); (try have xc24 : (w4.setCell ⟨w3.heap.size, 0, none⟩ (.slice Aa na ca)).cell? ⟨w3.heap.size + 1, 0, none⟩ = some (.slice none 0 0) := Boxed.cell (Boxed.other (gA.2) (by first | omega | exact n1 | exact n2 | exact n3 | exact n4 | exact n5 | exact n6) _)); (try have xd24 : (w4.setCell ⟨w3.heap.size, 0, none⟩ (.slice Aa na ca)).frozen? ⟨w3.heap.size + 1, 0, none⟩ = false := Boxed.frozen (Boxed.other (gA.2) (by first | omega | exact n1 | exact n2 | exact n3 | exact n4 | exact n5 | exact n6) _)); (try have xe25 : ((w4.setCell ⟨w2.heap.size, 0, none⟩ (.slice Aa na ca)).alloc (.cells #[.slice none 0 0] 67)).cell? ⟨w4.heap.size, 0, none⟩ = some (.slice none 0 0) := by simp); (try have xf25 : ((w4.setCell ⟨w2.heap.size, 0, none⟩ (.slice Aa na ca)).alloc (.cells #[.slice none 0 0] 67)).frozen? ⟨w4.heap.size, 0, none⟩ = false := by simp); (try have xg25 : ((w4.alloc (.cells #[.slice none 0 0] 67)).setCell ⟨w2.heap.size, 0, none⟩ (.slice Aa na ca)).cell? ⟨w4.heap.size, 0, none⟩ = some (.slice none 0 0) := Boxed.cell (Boxed.other (Boxed.new w4 _ _) (by first | omega | exact n1 | exact n2 | exact n3 | exact n4 | exact n5 | exact n6) _)); (try have xh25 : ((w4.alloc (.cells #[.slice none 0 0] 67)).setCell ⟨w2.heap.size, 0, none⟩ (.slice Aa na ca)).frozen? ⟨w4.heap.size, 0, none⟩ = false := Boxed.frozen (Boxed.other (Boxed.new w4 _ _) (by first | omega | exact n1 | exact n2 | exact n3 | exact n4 | exact n5 | exact n6) _)); (try have xe26 : ((w4.setCell ⟨w2.heap.size + 1, 0, none⟩ (.slice Aa na ca)).alloc (.cells #[.slice none 0 0] 67)).cell? ⟨w4.heap.size, 0, none⟩ = some (.slice none 0 0) := by simp); (try have xf26 : ((w4.setCell ⟨w2.heap.size + 1, 0, none⟩ (.slice Aa na ca)).alloc (.cells #[.slice none 0 0] 67)).frozen? ⟨w4.heap.size, 0, none⟩ = false := by simp); (try have xg26 : ((w4.alloc (.cells #[.slice none 0 0] 67)).setCell ⟨w2.heap.size + 1, 0, none⟩ (.slice Aa na ca)).cell? ⟨w4.heap.size, 0, none⟩ = some (.slice none 0 0) := Boxed.cell (Boxed.other (Boxed.new w4 _ _) (by first | omega | exact n1 | exact n2 | exact n3 | exact n4 | exact n5 | exact n6) _)); (try have xh26 : ((w4.alloc (.cells #[.slice none 0 0] 67)).setCell ⟨w2.heap.size + 1, 0, none⟩ (.slice Aa na ca)).frozen? ⟨w4.heap.size, 0, none⟩ = false := Boxed.frozen (Boxed.other (Boxed.new w4 _ _) (by first | omega | exact n1 | exact n2 | exact n3 | exact n4 | exact n5 | exact n6) _)); (try have xe27 : ((w4.setCell ⟨w3.heap.size, 0, none⟩ (.slice Aa na ca)).alloc (.cells #[.slice none 0 0] 67)).cell? ⟨w4.heap.size, 0, none⟩ = some (.slice none 0 0) := by simp); (try have xf27 : ((w4.setCell ⟨w3.heap.size, 0, none⟩ (.slice Aa na ca)).alloc (.cells #[.slice none 0 0] 67)).frozen? ⟨w4.heap.size, 0, none⟩ = false := by simp); (try have xg27 : ((w4.alloc (.cells #[.slice none 0 0] 67)).setCell ⟨w3.heap.size, 0, none⟩ (.slice Aa na ca)).cell? ⟨w4.heap.size, 0, none⟩ = some (.slice none 0 0) := Boxed.cell (Boxed.other (Boxed.new w4 _ _) (by first | omega | exact n1 | exact n2 | exact n3 | exact n4 | exact n5 | exact n6) _)); (try have xh27 : ((w4.alloc (.cells #[.slice none 0 0] 67)).setCell ⟨w3.heap.size, 0, none⟩ (.slice Aa na ca)).frozen? ⟨w4.heap.size, 0, none⟩ = false := Boxed.frozen (Boxed.other (Boxed.new w4 _ _) (by first | omega | exact n1 | exact n2 | exact n3 | exact n4 | exact n5 | exact n6) _)); (try have xe28 : ((w4.setCell ⟨w3.heap.size + 1, 0, none⟩ (.slice Aa na ca)).alloc (.cells #[.slice none 0 0] 67)).cell? ⟨w4.heap.size, 0, none⟩ = some (.slice none 0 0) := by simp); (try have xf28 : ((w4.setCell ⟨w3.heap.size + 1, 0, none⟩ (.slice Aa na ca)).alloc (.cells #[.slice none 0 0] 67)).frozen? ⟨w4.heap.size, 0, none⟩ = false := by simp); (try have xg28 : ((w4.alloc (.cells #[.slice none 0 0] 67)).setCell ⟨w3.heap.size + 1, 0, none⟩ (.slice Aa na ca)).cell? ⟨w4.heap.size, 0, none⟩ = some (.slice none 0 0) := Boxed.cell (Boxed.other (Boxed.new w4 _ _) (by first | omega | exact n1 | exact n2 | exact n3 | exact n4 | exact n5 | exact n6) _)); (try have xh28 : ((w4.alloc (.cells #[.slice none 0 0] 67)).setCell ⟨w3.heap.size + 1, 0, none⟩ (.slice Aa na ca)).frozen? ⟨w4.heap.size, 0, none⟩ = false := Boxed.frozen (Boxed.other (Boxed.new w4 _ _) (by first | omega | exact n1 | exact n2 | exact n3 | exact n4 | exact n5 | exact n6) _))))
  · have hBW : Below w2.heap.size w2 (World.alloc (World.alloc w4 (.cells #[.slice Aa na ca] 67)) (.cells #[.slice (some ⟨gB, 0, none⟩) n cpB] 67)) := And.left (by assumption)
    have hc6 : World.cell? (World.alloc (World.alloc w4 (.cells #[.slice Aa na ca] 67)) (.cells #[.slice (some ⟨gB, 0, none⟩) n cpB] 67)) ⟨w4.heap.size + 1, 0, none⟩ = some (.slice (some ⟨gB, 0, none⟩) n cpB) := by first | (simp; done) | exact World.cell?_setCell_same _ _ _ (by assumption)
    have hO6 : OwnM 5 22 (World.alloc (World.alloc w4 (.cells #[.slice Aa na ca] 67)) (.cells #[.slice (some ⟨gB, 0, none⟩) n cpB] 67)) w2.heap.size (World.heap (World.alloc (World.alloc w4 (.cells #[.slice Aa na ca] 67)) (.cells #[.slice (some ⟨gB, 0, none⟩) n cpB] 67))).size (.slice (some ⟨gB, 0, none⟩) n cpB) (mkM n n (bst F idF n n)) us := OwnM.wider ((hO.keep (turn_alloc _ _) (by first | omega | (simp at * <;> omega))).keep (turn_alloc _ _) (by first | omega | (simp at * <;> omega))) (by first | omega | (simp at * <;> omega)) (by first | (simp; done) | (simp; omega)) (Nat.le_refl _)
    have r1 := (hBW.cell (p := ⟨w.heap.size + 1, 0, none⟩) l1).trans q1
    have r1f := (hBW.frozen (p := ⟨w.heap.size + 1, 0, none⟩) l1).trans q1f
    have HO6 := Lib.hid hO6
    have HBB := Lib.hid (kB.to_below.trans (hBW.mono kB.size))
    clear hO6 hBW
    generalize (World.alloc (World.alloc w4 (.cells #[.slice Aa na ca] 67)) (.cells #[.slice (some ⟨gB, 0, none⟩) n cpB] 67)) = Wf at *
    generalize (w4.heap.size + 1) = b6 at *
    have HEQ : (((est F n n).2 : Int) == (n : Int)) = decide ((est F n n).2 = n) := natInt_beq _ _
    generalize hee : decide ((est F n n).2 = n) = db at *
    generalize (est F n n).2 = ee at *
    go_wp2_with fail
    refine bodyPost_ret (v := .tuple #[.agg #[.slice (some ⟨gB, 0, none⟩) n cpB], .bool db]) (by simp [results, Tryd.results42, go_sem, r1]) rfl ?_
    have kk := turn_setCell Wf (w.heap.size + 1) 0 (.slice (some ⟨gB, 0, none⟩) n cpB)
    have hzb := HZB.out
    have hbw := HBB.out.setCell (p := ⟨w.heap.size + 1, 0, none⟩) (Nat.le_succ _) (.slice (some ⟨gB, 0, none⟩) n cpB)
    exact ⟨_, us, rfl, (HO6.out.keep kk (by omega)).wider (by omega) (by simp) (by simp), TurnIn.of_below hbw⟩
  · have hBW : Below w2.heap.size w2 (World.alloc (World.alloc w4 (.cells #[.slice (some ⟨gB, 0, none⟩) n cpB] 67)) (.cells #[.slice Aa na ca] 67)) := And.left (by assumption)
    have hc6 : World.cell? (World.alloc (World.alloc w4 (.cells #[.slice (some ⟨gB, 0, none⟩) n cpB] 67)) (.cells #[.slice Aa na ca] 67)) ⟨w4.heap.size, 0, none⟩ = some (.slice (some ⟨gB, 0, none⟩) n cpB) := by first | (simp; done) | exact World.cell?_setCell_same _ _ _ (by assumption)
    have hO6 : OwnM 5 22 (World.alloc (World.alloc w4 (.cells #[.slice (some ⟨gB, 0, none⟩) n cpB] 67)) (.cells #[.slice Aa na ca] 67)) w2.heap.size (World.heap (World.alloc (World.alloc w4 (.cells #[.slice (some ⟨gB, 0, none⟩) n cpB] 67)) (.cells #[.slice Aa na ca] 67))).size (.slice (some ⟨gB, 0, none⟩) n cpB) (mkM n n (bst F idF n n)) us := OwnM.wider ((hO.keep (turn_alloc _ _) (by first | omega | (simp at * <;> omega))).keep (turn_alloc _ _) (by first | omega | (simp at * <;> omega))) (by first | omega | (simp at * <;> omega)) (by first | (simp; done) | (simp; omega)) (Nat.le_refl _)
    have r1 := (hBW.cell (p := ⟨w.heap.size + 1, 0, none⟩) l1).trans q1
    have r1f := (hBW.frozen (p := ⟨w.heap.size + 1, 0, none⟩) l1).trans q1f
    have HO6 := Lib.hid hO6
    have HBB := Lib.hid (kB.to_below.trans (hBW.mono kB.size))
    clear hO6 hBW
    generalize (World.alloc (World.alloc w4 (.cells #[.slice (some ⟨gB, 0, none⟩) n cpB] 67)) (.cells #[.slice Aa na ca] 67)) = Wf at *
    generalize (w4.heap.size) = b6 at *
    have HEQ : (((est F n n).2 : Int) == (n : Int)) = decide ((est F n n).2 = n) := natInt_beq _ _
    generalize hee : decide ((est F n n).2 = n) = db at *
    generalize (est F n n).2 = ee at *
    go_wp2_with fail
    refine bodyPost_ret (v := .tuple #[.agg #[.slice (some ⟨gB, 0, none⟩) n cpB], .bool db]) (by simp [results, Tryd.results42, go_sem, r1]) rfl ?_
    have kk := turn_setCell Wf (w.heap.size + 1) 0 (.slice (some ⟨gB, 0, none⟩) n cpB)
    have hzb := HZB.out
    have hbw := HBB.out.setCell (p := ⟨w.heap.size + 1, 0, none⟩) (Nat.le_succ _) (.slice (some ⟨gB, 0, none⟩) n cpB)
    exact ⟨_, us, rfl, (HO6.out.keep kk (by omega)).wider (by omega) (by simp) (by simp), TurnIn.of_below hbw⟩
  · have hBW : Below w2.heap.size w2 (World.setCell (World.setCell (World.alloc w4 (.cells #[.slice none 0 0] 67)) ⟨w3.heap.size, 0, none⟩ (.slice Aa na ca)) ⟨w4.heap.size, 0, none⟩ (.slice (some ⟨gB, 0, none⟩) n cpB)) := And.left (by assumption)
    have hc6 : World.cell? (World.setCell (World.setCell (World.alloc w4 (.cells #[.slice none 0 0] 67)) ⟨w3.heap.size, 0, none⟩ (.slice Aa na ca)) ⟨w4.heap.size, 0, none⟩ (.slice (some ⟨gB, 0, none⟩) n cpB)) ⟨w4.heap.size, 0, none⟩ = some (.slice (some ⟨gB, 0, none⟩) n cpB) := by first | (simp; done) | exact World.cell?_setCell_same _ _ _ (by assumption)
    have hO6 : OwnM 5 22 (World.setCell (World.setCell (World.alloc w4 (.cells #[.slice none 0 0] 67)) ⟨w3.heap.size, 0, none⟩ (.slice Aa na ca)) ⟨w4.heap.size, 0, none⟩ (.slice (some ⟨gB, 0, none⟩) n cpB)) w2.heap.size (World.heap (World.setCell (World.setCell (World.alloc w4 (.cells #[.slice none 0 0] 67)) ⟨w3.heap.size, 0, none⟩ (.slice Aa na ca)) ⟨w4.heap.size, 0, none⟩ (.slice (some ⟨gB, 0, none⟩) n cpB))).size (.slice (some ⟨gB, 0, none⟩) n cpB) (mkM n n (bst F idF n n)) us := OwnM.wider (((hO.keep (turn_alloc _ _) (by first | omega | (simp at * <;> omega))).keep (turn_setCell _ _ 0 _) (by first | omega | (simp at * <;> omega))).keep (turn_setCell _ _ 0 _) (by first | omega | (simp at * <;> omega))) (by first | omega | (simp at * <;> omega)) (by first | (simp; done) | (simp; omega)) (Nat.le_refl _)
    have r1 := (hBW.cell (p := ⟨w.heap.size + 1, 0, none⟩) l1).trans q1
    have r1f := (hBW.frozen (p := ⟨w.heap.size + 1, 0, none⟩) l1).trans q1f
    have HO6 := Lib.hid hO6
    have HBB := Lib.hid (kB.to_below.trans (hBW.mono kB.size))
    clear hO6 hBW
    generalize (World.setCell (World.setCell (World.alloc w4 (.cells #[.slice none 0 0] 67)) ⟨w3.heap.size, 0, none⟩ (.slice Aa na ca)) ⟨w4.heap.size, 0, none⟩ (.slice (some ⟨gB, 0, none⟩) n cpB)) = Wf at *
    generalize (w4.heap.size) = b6 at *
    have HEQ : (((est F n n).2 : Int) == (n : Int)) = decide ((est F n n).2 = n) := natInt_beq _ _
    generalize hee : decide ((est F n n).2 = n) = db at *
    generalize (est F n n).2 = ee at *
    go_wp2_with fail
    refine bodyPost_ret (v := .tuple #[.agg #[.slice (some ⟨gB, 0, none⟩) n cpB], .bool db]) (by simp [results, Tryd.results42, go_sem, r1]) rfl ?_
    have kk := turn_setCell Wf (w.heap.size + 1) 0 (.slice (some ⟨gB, 0, none⟩) n cpB)
    have hzb := HZB.out
    have hbw := HBB.out.setCell (p := ⟨w.heap.size + 1, 0, none⟩) (Nat.le_succ _) (.slice (some ⟨gB, 0, none⟩) n cpB)
    exact ⟨_, us, rfl, (HO6.out.keep kk (by omega)).wider (by omega) (by simp) (by simp), TurnIn.of_below hbw⟩
  · have hBW : Below w2.heap.size w2 (World.setCell (World.setCell w4 ⟨w3.heap.size, 0, none⟩ (.slice Aa na ca)) ⟨w3.heap.size + 1, 0, none⟩ (.slice (some ⟨gB, 0, none⟩) n cpB)) := And.left (by assumption)
    have hc6 : World.cell? (World.setCell (World.setCell w4 ⟨w3.heap.size, 0, none⟩ (.slice Aa na ca)) ⟨w3.heap.size + 1, 0, none⟩ (.slice (some ⟨gB, 0, none⟩) n cpB)) ⟨w3.heap.size + 1, 0, none⟩ = some (.slice (some ⟨gB, 0, none⟩) n cpB) := by first | (simp; done) | exact World.cell?_setCell_same _ _ _ (by assumption)
    have hO6 : OwnM 5 22 (World.setCell (World.setCell w4 ⟨w3.heap.size, 0, none⟩ (.slice Aa na ca)) ⟨w3.heap.size + 1, 0, none⟩ (.slice (some ⟨gB, 0, none⟩) n cpB)) w2.heap.size (World.heap (World.setCell (World.setCell w4 ⟨w3.heap.size, 0, none⟩ (.slice Aa na ca)) ⟨w3.heap.size + 1, 0, none⟩ (.slice (some ⟨gB, 0, none⟩) n cpB))).size (.slice (some ⟨gB, 0, none⟩) n cpB) (mkM n n (bst F idF n n)) us := OwnM.wider ((hO.keep (turn_setCell _ _ 0 _) (by first | omega | (simp at * <;> omega))).keep (turn_setCell _ _ 0 _) (by first | omega | (simp at * <;> omega))) (by first | omega | (simp at * <;> omega)) (by first | (simp; done) | (simp; omega)) (Nat.le_refl _)
    have r1 := (hBW.cell (p := ⟨w.heap.size + 1, 0, none⟩) l1).trans q1
    have r1f := (hBW.frozen (p := ⟨w.heap.size + 1, 0, none⟩) l1).trans q1f
    have HO6 := Lib.hid hO6
    have HBB := Lib.hid (kB.to_below.trans (hBW.mono kB.size))
    clear hO6 hBW
    generalize (World.setCell (World.setCell w4 ⟨w3.heap.size, 0, none⟩ (.slice Aa na ca)) ⟨w3.heap.size + 1, 0, none⟩ (.slice (some ⟨gB, 0, none⟩) n cpB)) = Wf at *
    generalize (w3.heap.size + 1) = b6 at *
    have HEQ : (((est F n n).2 : Int) == (n : Int)) = decide ((est F n n).2 = n) := natInt_beq _ _
    generalize hee : decide ((est F n n).2 = n) = db at *
    generalize (est F n n).2 = ee at *
    go_wp2_with fail
    refine bodyPost_ret (v := .tuple #[.agg #[.slice (some ⟨gB, 0, none⟩) n cpB], .bool db]) (by simp [results, Tryd.results42, go_sem, r1]) rfl ?_
    have kk := turn_setCell Wf (w.heap.size + 1) 0 (.slice (some ⟨gB, 0, none⟩) n cpB)
    have hzb := HZB.out
    have hbw := HBB.out.setCell (p := ⟨w.heap.size + 1, 0, none⟩) (Nat.le_succ _) (.slice (some ⟨gB, 0, none⟩) n cpB)
    exact ⟨_, us, rfl, (HO6.out.keep kk (by omega)).wider (by omega) (by simp) (by simp), TurnIn.of_below hbw⟩
  · have hBW : Below w2.heap.size w2 (World.setCell (World.alloc w4 (.cells #[.slice Aa na ca] 67)) ⟨w3.heap.size, 0, none⟩ (.slice (some ⟨gB, 0, none⟩) n cpB)) := And.left (by assumption)
    have hc6 : World.cell? (World.setCell (World.alloc w4 (.cells #[.slice Aa na ca] 67)) ⟨w3.heap.size, 0, none⟩ (.slice (some ⟨gB, 0, none⟩) n cpB)) ⟨w3.heap.size, 0, none⟩ = some (.slice (some ⟨gB, 0, none⟩) n cpB) := by first | (simp; done) | exact World.cell?_setCell_same _ _ _ (by assumption)
    have hO6 : OwnM 5 22 (World.setCell (World.alloc w4 (.cells #[.slice Aa na ca] 67)) ⟨w3.heap.size, 0, none⟩ (.slice (some ⟨gB, 0, none⟩) n cpB)) w2.heap.size (World.heap (World.setCell (World.alloc w4 (.cells #[.slice Aa na ca] 67)) ⟨w3.heap.size, 0, none⟩ (.slice (some ⟨gB, 0, none⟩) n cpB))).size (.slice (some ⟨gB, 0, none⟩) n cpB) (mkM n n (bst F idF n n)) us := OwnM.wider ((hO.keep (turn_alloc _ _) (by first | omega | (simp at * <;> omega))).keep (turn_setCell _ _ 0 _) (by first | omega | (simp at * <;> omega))) (by first | omega | (simp at * <;> omega)) (by first | (simp; done) | (simp; omega)) (Nat.le_refl _)
    have r1 := (hBW.cell (p := ⟨w.heap.size + 1, 0, none⟩) l1).trans q1
    have r1f := (hBW.frozen (p := ⟨w.heap.size + 1, 0, none⟩) l1).trans q1f
    have HO6 := Lib.hid hO6
    have HBB := Lib.hid (kB.to_below.trans (hBW.mono kB.size))
    clear hO6 hBW
    generalize (World.setCell (World.alloc w4 (.cells #[.slice Aa na ca] 67)) ⟨w3.heap.size, 0, none⟩ (.slice (some ⟨gB, 0, none⟩) n cpB)) = Wf at *
    generalize (w3.heap.size) = b6 at *
    have HEQ : (((est F n n).2 : Int) == (n : Int)) = decide ((est F n n).2 = n) := natInt_beq _ _
    generalize hee : decide ((est F n n).2 = n) = db at *
    generalize (est F n n).2 = ee at *
    go_wp2_with fail
    refine bodyPost_ret (v := .tuple #[.agg #[.slice (some ⟨gB, 0, none⟩) n cpB], .bool db]) (by simp [results, Tryd.results42, go_sem, r1]) rfl ?_
    have kk := turn_setCell Wf (w.heap.size + 1) 0 (.slice (some ⟨gB, 0, none⟩) n cpB)
    have hzb := HZB.out
    have hbw := HBB.out.setCell (p := ⟨w.heap.size + 1, 0, none⟩) (Nat.le_succ _) (.slice (some ⟨gB, 0, none⟩) n cpB)
    exact ⟨_, us, rfl, (HO6.out.keep kk (by omega)).wider (by omega) (by simp) (by simp), TurnIn.of_below hbw⟩
  · have hBW : Below w2.heap.size w2 (World.setCell (World.setCell w4 ⟨w3.heap.size + 1, 0, none⟩ (.slice Aa na ca)) ⟨w3.heap.size, 0, none⟩ (.slice (some ⟨gB, 0, none⟩) n cpB)) := And.left (by assumption)
    have hc6 : World.cell? (World.setCell (World.setCell w4 ⟨w3.heap.size + 1, 0, none⟩ (.slice Aa na ca)) ⟨w3.heap.size, 0, none⟩ (.slice (some ⟨gB, 0, none⟩) n cpB)) ⟨w3.heap.size, 0, none⟩ = some (.slice (some ⟨gB, 0, none⟩) n cpB) := by first | (simp; done) | exact World.cell?_setCell_same _ _ _ (by assumption)
    have hO6 : OwnM 5 22 (World.setCell (World.setCell w4 ⟨w3.heap.size + 1, 0, none⟩ (.slice Aa na ca)) ⟨w3.heap.size, 0, none⟩ (.slice (some ⟨gB, 0, none⟩) n cpB)) w2.heap.size (World.heap (World.setCell (World.setCell w4 ⟨w3.heap.size + 1, 0, none⟩ (.slice Aa na ca)) ⟨w3.heap.size, 0, none⟩ (.slice (some ⟨gB, 0, none⟩) n cpB))).size (.slice (some ⟨gB, 0, none⟩) n cpB) (mkM n n (bst F idF n n)) us := OwnM.wider ((hO.keep (turn_setCell _ _ 0 _) (by first | omega | (simp at * <;> omega))).keep (turn_setCell _ _ 0 _) (by first | omega | (simp at * <;> omega))) (by first | omega | (simp at * <;> omega)) (by first | (simp; done) | (simp; omega)) (Nat.le_refl _)
    have r1 := (hBW.cell (p := ⟨w.heap.size + 1, 0, none⟩) l1).trans q1
    have r1f := (hBW.frozen (p := ⟨w.heap.size + 1, 0, none⟩) l1).trans q1f
    have HO6 := Lib.hid hO6
    have HBB := Lib.hid (kB.to_below.trans (hBW.mono kB.size))
    clear hO6 hBW
    generalize (World.setCell (World.setCell w4 ⟨w3.heap.size + 1, 0, none⟩ (.slice Aa na ca)) ⟨w3.heap.size, 0, none⟩ (.slice (some ⟨gB, 0, none⟩) n cpB)) = Wf at *
    generalize (w3.heap.size) = b6 at *
    have HEQ : (((est F n n).2 : Int) == (n : Int)) = decide ((est F n n).2 = n) := natInt_beq _ _
    generalize hee : decide ((est F n n).2 = n) = db at *
    generalize (est F n n).2 = ee at *
    go_wp2_with fail
    refine bodyPost_ret (v := .tuple #[.agg #[.slice (some ⟨gB, 0, none⟩) n cpB], .bool db]) (by simp [results, Tryd.results42, go_sem, r1]) rfl ?_
    have kk := turn_setCell Wf (w.heap.size + 1) 0 (.slice (some ⟨gB, 0, none⟩) n cpB)
    have hzb := HZB.out
    have hbw := HBB.out.setCell (p := ⟨w.heap.size + 1, 0, none⟩) (Nat.le_succ _) (.slice (some ⟨gB, 0, none⟩) n cpB)
    exact ⟨_, us, rfl, (HO6.out.keep kk (by omega)).wider (by omega) (by simp) (by simp), TurnIn.of_below hbw⟩
  · have hBW : Below w2.heap.size w2 (World.setCell (World.setCell (World.alloc w4 (.cells #[.slice none 0 0] 67)) ⟨w2.heap.size, 0, none⟩ (.slice Aa na ca)) ⟨w4.heap.size, 0, none⟩ (.slice (some ⟨gB, 0, none⟩) n cpB)) := And.left (by assumption)
    have hc6 : World.cell? (World.setCell (World.setCell (World.alloc w4 (.cells #[.slice none 0 0] 67)) ⟨w2.heap.size, 0, none⟩ (.slice Aa na ca)) ⟨w4.heap.size, 0, none⟩ (.slice (some ⟨gB, 0, none⟩) n cpB)) ⟨w4.heap.size, 0, none⟩ = some (.slice (some ⟨gB, 0, none⟩) n cpB) := by first | (simp; done) | exact World.cell?_setCell_same _ _ _ (by assumption)
    have hO6 : OwnM 5 22 (World.setCell (World.setCell (World.alloc w4 (.cells #[.slice none 0 0] 67)) ⟨w2.heap.size, 0, none⟩ (.slice Aa na ca)) ⟨w4.heap.size, 0, none⟩ (.slice (some ⟨gB, 0, none⟩) n cpB)) w2.heap.size (World.heap (World.setCell (World.setCell (World.alloc w4 (.cells #[.slice none 0 0] 67)) ⟨w2.heap.size, 0, none⟩ (.slice Aa na ca)) ⟨w4.heap.size, 0, none⟩ (.slice (some ⟨gB, 0, none⟩) n cpB))).size (.slice (some ⟨gB, 0, none⟩) n cpB) (mkM n n (bst F idF n n)) us := OwnM.wider (((hO.keep (turn_alloc _ _) (by first | omega | (simp at * <;> omega))).keep (turn_setCell _ _ 0 _) (by first | omega | (simp at * <;> omega))).keep (turn_setCell _ _ 0 _) (by first | omega | (simp at * <;> omega))) (by first | omega | (simp at * <;> omega)) (by first | (simp; done) | (simp; omega)) (Nat.le_refl _)
    have r1 := (hBW.cell (p := ⟨w.heap.size + 1, 0, none⟩) l1).trans q1
    have r1f := (hBW.frozen (p := ⟨w.heap.size + 1, 0, none⟩) l1).trans q1f
    have HO6 := Lib.hid hO6
    have HBB := Lib.hid (kB.to_below.trans (hBW.mono kB.size))
    clear hO6 hBW
    generalize (World.setCell (World.setCell (World.alloc w4 (.cells #[.slice none 0 0] 67)) ⟨w2.heap.size, 0, none⟩ (.slice Aa na ca)) ⟨w4.heap.size, 0, none⟩ (.slice (some ⟨gB, 0, none⟩) n cpB)) = Wf at *
    generalize (w4.heap.size) = b6 at *
    have HEQ : (((est F n n).2 : Int) == (n : Int)) = decide ((est F n n).2 = n) := natInt_beq _ _
    generalize hee : decide ((est F n n).2 = n) = db at *
    generalize (est F n n).2 = ee at *
    go_wp2_with fail
    refine bodyPost_ret (v := .tuple #[.agg #[.slice (some ⟨gB, 0, none⟩) n cpB], .bool db]) (by simp [results, Tryd.results42, go_sem, r1]) rfl ?_
    have kk := turn_setCell Wf (w.heap.size + 1) 0 (.slice (some ⟨gB, 0, none⟩) n cpB)
    have hzb := HZB.out
    have hbw := HBB.out.setCell (p := ⟨w.heap.size + 1, 0, none⟩) (Nat.le_succ _) (.slice (some ⟨gB, 0, none⟩) n cpB)
    exact ⟨_, us, rfl, (HO6.out.keep kk (by omega)).wider (by omega) (by simp) (by simp), TurnIn.of_below hbw⟩
  · have hBW : Below w2.heap.size w2 (World.setCell (World.setCell w4 ⟨w2.heap.size, 0, none⟩ (.slice Aa na ca)) ⟨w3.heap.size, 0, none⟩ (.slice (some ⟨gB, 0, none⟩) n cpB)) := And.left (by assumption)
    have hc6 : World.cell? (World.setCell (World.setCell w4 ⟨w2.heap.size, 0, none⟩ (.slice Aa na ca)) ⟨w3.heap.size, 0, none⟩ (.slice (some ⟨gB, 0, none⟩) n cpB)) ⟨w3.heap.size, 0, none⟩ = some (.slice (some ⟨gB, 0, none⟩) n cpB) := by first | (simp; done) | exact World.cell?_setCell_same _ _ _ (by assumption)
    have hO6 : OwnM 5 22 (World.setCell (World.setCell w4 ⟨w2.heap.size, 0, none⟩ (.slice Aa na ca)) ⟨w3.heap.size, 0, none⟩ (.slice (some ⟨gB, 0, none⟩) n cpB)) w2.heap.size (World.heap (World.setCell (World.setCell w4 ⟨w2.heap.size, 0, none⟩ (.slice Aa na ca)) ⟨w3.heap.size, 0, none⟩ (.slice (some ⟨gB, 0, none⟩) n cpB))).size (.slice (some ⟨gB, 0, none⟩) n cpB) (mkM n n (bst F idF n n)) us := OwnM.wider ((hO.keep (turn_setCell _ _ 0 _) (by first | omega | (simp at * <;> omega))).keep (turn_setCell _ _ 0 _) (by first | omega | (simp at * <;> omega))) (by first | omega | (simp at * <;> omega)) (by first | (simp; done) | (simp; omega)) (Nat.le_refl _)
    have r1 := (hBW.cell (p := ⟨w.heap.size + 1, 0, none⟩) l1).trans q1
    have r1f := (hBW.frozen (p := ⟨w.heap.size + 1, 0, none⟩) l1).trans q1f
    have HO6 := Lib.hid hO6
    have HBB := Lib.hid (kB.to_below.trans (hBW.mono kB.size))
    clear hO6 hBW
    generalize (World.setCell (World.setCell w4 ⟨w2.heap.size, 0, none⟩ (.slice Aa na ca)) ⟨w3.heap.size, 0, none⟩ (.slice (some ⟨gB, 0, none⟩) n cpB)) = Wf at *
    generalize (w3.heap.size) = b6 at *
    have HEQ : (((est F n n).2 : Int) == (n : Int)) = decide ((est F n n).2 = n) := natInt_beq _ _
    generalize hee : decide ((est F n n).2 = n) = db at *
    generalize (est F n n).2 = ee at *
    go_wp2_with fail
    refine bodyPost_ret (v := .tuple #[.agg #[.slice (some ⟨gB, 0, none⟩) n cpB], .bool db]) (by simp [results, Tryd.results42, go_sem, r1]) rfl ?_
    have kk := turn_setCell Wf (w.heap.size + 1) 0 (.slice (some ⟨gB, 0, none⟩) n cpB)
    have hzb := HZB.out
    have hbw := HBB.out.setCell (p := ⟨w.heap.size + 1, 0, none⟩) (Nat.le_succ _) (.slice (some ⟨gB, 0, none⟩) n cpB)
    exact ⟨_, us, rfl, (HO6.out.keep kk (by omega)).wider (by omega) (by simp) (by simp), TurnIn.of_below hbw⟩
  · have hBW : Below w2.heap.size w2 (World.setCell (World.setCell w4 ⟨w2.heap.size, 0, none⟩ (.slice Aa na ca)) ⟨w2.heap.size + 1, 0, none⟩ (.slice (some ⟨gB, 0, none⟩) n cpB)) := And.left (by assumption)
    have hc6 : World.cell? (World.setCell (World.setCell w4 ⟨w2.heap.size, 0, none⟩ (.slice Aa na ca)) ⟨w2.heap.size + 1, 0, none⟩ (.slice (some ⟨gB, 0, none⟩) n cpB)) ⟨w2.heap.size + 1, 0, none⟩ = some (.slice (some ⟨gB, 0, none⟩) n cpB) := by first | (simp; done) | exact World.cell?_setCell_same _ _ _ (by assumption)
    have hO6 : OwnM 5 22 (World.setCell (World.setCell w4 ⟨w2.heap.size, 0, none⟩ (.slice Aa na ca)) ⟨w2.heap.size + 1, 0, none⟩ (.slice (some ⟨gB, 0, none⟩) n cpB)) w2.heap.size (World.heap (World.setCell (World.setCell w4 ⟨w2.heap.size, 0, none⟩ (.slice Aa na ca)) ⟨w2.heap.size + 1, 0, none⟩ (.slice (some ⟨gB, 0, none⟩) n cpB))).size (.slice (some ⟨gB, 0, none⟩) n cpB) (mkM n n (bst F idF n n)) us := OwnM.wider ((hO.keep (turn_setCell _ _ 0 _) (by first | omega | (simp at * <;> omega))).keep (turn_setCell _ _ 0 _) (by first | omega | (simp at * <;> omega))) (by first | omega | (simp at * <;> omega)) (by first | (simp; done) | (simp; omega)) (Nat.le_refl _)
    have r1 := (hBW.cell (p := ⟨w.heap.size + 1, 0, none⟩) l1).trans q1
    have r1f := (hBW.frozen (p := ⟨w.heap.size + 1, 0, none⟩) l1).trans q1f
    have HO6 := Lib.hid hO6
    have HBB := Lib.hid (kB.to_below.trans (hBW.mono kB.size))
    clear hO6 hBW
    generalize (World.setCell (World.setCell w4 ⟨w2.heap.size, 0, none⟩ (.slice Aa na ca)) ⟨w2.heap.size + 1, 0, none⟩ (.slice (some ⟨gB, 0, none⟩) n cpB)) = Wf at *
    generalize (w2.heap.size + 1) = b6 at *
    have HEQ : (((est F n n).2 : Int) == (n : Int)) = decide ((est F n n).2 = n) := natInt_beq _ _
    generalize hee : decide ((est F n n).2 = n) = db at *
    generalize (est F n n).2 = ee at *
    go_wp2_with fail
    refine bodyPost_ret (v := .tuple #[.agg #[.slice (some ⟨gB, 0, none⟩) n cpB], .bool db]) (by simp [results, Tryd.results42, go_sem, r1]) rfl ?_
    have kk := turn_setCell Wf (w.heap.size + 1) 0 (.slice (some ⟨gB, 0, none⟩) n cpB)
    have hzb := HZB.out
    have hbw := HBB.out.setCell (p := ⟨w.heap.size + 1, 0, none⟩) (Nat.le_succ _) (.slice (some ⟨gB, 0, none⟩) n cpB)
    exact ⟨_, us, rfl, (HO6.out.keep kk (by omega)).wider (by omega) (by simp) (by simp), TurnIn.of_below hbw⟩
  · have hBW : Below w2.heap.size w2 (World.setCell (World.alloc w4 (.cells #[.slice Aa na ca] 67)) ⟨w2.heap.size, 0, none⟩ (.slice (some ⟨gB, 0, none⟩) n cpB)) := And.left (by assumption)
    have hc6 : World.cell? (World.setCell (World.alloc w4 (.cells #[.slice Aa na ca] 67)) ⟨w2.heap.size, 0, none⟩ (.slice (some ⟨gB, 0, none⟩) n cpB)) ⟨w2.heap.size, 0, none⟩ = some (.slice (some ⟨gB, 0, none⟩) n cpB) := by first | (simp; done) | exact World.cell?_setCell_same _ _ _ (by assumption)
    have hO6 : OwnM 5 22 (World.setCell (World.alloc w4 (.cells #[.slice Aa na ca] 67)) ⟨w2.heap.size, 0, none⟩ (.slice (some ⟨gB, 0, none⟩) n cpB)) w2.heap.size (World.heap (World.setCell (World.alloc w4 (.cells #[.slice Aa na ca] 67)) ⟨w2.heap.size, 0, none⟩ (.slice (some ⟨gB, 0, none⟩) n cpB))).size (.slice (some ⟨gB, 0, none⟩) n cpB) (mkM n n (bst F idF n n)) us := OwnM.wider ((hO.keep (turn_alloc _ _) (by first | omega | (simp at * <;> omega))).keep (turn_setCell _ _ 0 _) (by first | omega | (simp at * <;> omega))) (by first | omega | (simp at * <;> omega)) (by first | (simp; done) | (simp; omega)) (Nat.le_refl _)
    have r1 := (hBW.cell (p := ⟨w.heap.size + 1, 0, none⟩) l1).trans q1
    have r1f := (hBW.frozen (p := ⟨w.heap.size + 1, 0, none⟩) l1).trans q1f
    have HO6 := Lib.hid hO6
    have HBB := Lib.hid (kB.to_below.trans (hBW.mono kB.size))
    clear hO6 hBW
    generalize (World.setCell (World.alloc w4 (.cells #[.slice Aa na ca] 67)) ⟨w2.heap.size, 0, none⟩ (.slice (some ⟨gB, 0, none⟩) n cpB)) = Wf at *
    generalize (w2.heap.size) = b6 at *
    have HEQ : (((est F n n).2 : Int) == (n : Int)) = decide ((est F n n).2 = n) := natInt_beq _ _
    generalize hee : decide ((est F n n).2 = n) = db at *
    generalize (est F n n).2 = ee at *
    go_wp2_with fail
    refine bodyPost_ret (v := .tuple #[.agg #[.slice (some ⟨gB, 0, none⟩) n cpB], .bool db]) (by simp [results, Tryd.results42, go_sem, r1]) rfl ?_
    have kk := turn_setCell Wf (w.heap.size + 1) 0 (.slice (some ⟨gB, 0, none⟩) n cpB)
    have hzb := HZB.out
    have hbw := HBB.out.setCell (p := ⟨w.heap.size + 1, 0, none⟩) (Nat.le_succ _) (.slice (some ⟨gB, 0, none⟩) n cpB)
    exact ⟨_, us, rfl, (HO6.out.keep kk (by omega)).wider (by omega) (by simp) (by simp), TurnIn.of_below hbw⟩
  · have hBW : Below w2.heap.size w2 (World.setCell (World.setCell w4 ⟨w3.heap.size, 0, none⟩ (.slice Aa na ca)) ⟨w2.heap.size, 0, none⟩ (.slice (some ⟨gB, 0, none⟩) n cpB)) := And.left (by assumption)
    have hc6 : World.cell? (World.setCell (World.setCell w4 ⟨w3.heap.size, 0, none⟩ (.slice Aa na ca)) ⟨w2.heap.size, 0, none⟩ (.slice (some ⟨gB, 0, none⟩) n cpB)) ⟨w2.heap.size, 0, none⟩ = some (.slice (some ⟨gB, 0, none⟩) n cpB) := by first | (simp; done) | exact World.cell?_setCell_same _ _ _ (by assumption)
    have hO6 : OwnM 5 22 (World.setCell (World.setCell w4 ⟨w3.heap.size, 0, none⟩ (.slice Aa na ca)) ⟨w2.heap.size, 0, none⟩ (.slice (some ⟨gB, 0, none⟩) n cpB)) w2.heap.size (World.heap (World.setCell (World.setCell w4 ⟨w3.heap.size, 0, none⟩ (.slice Aa na ca)) ⟨w2.heap.size, 0, none⟩ (.slice (some ⟨gB, 0, none⟩) n cpB))).size (.slice (some ⟨gB, 0, none⟩) n cpB) (mkM n n (bst F idF n n)) us := OwnM.wider ((hO.keep (turn_setCell _ _ 0 _) (by first | omega | (simp at * <;> omega))).keep (turn_setCell _ _ 0 _) (by first | omega | (simp at * <;> omega))) (by first | omega | (simp at * <;> omega)) (by first | (simp; done) | (simp; omega)) (Nat.le_refl _)
    have r1 := (hBW.cell (p := ⟨w.heap.size + 1, 0, none⟩) l1).trans q1
    have r1f := (hBW.frozen (p := ⟨w.heap.size + 1, 0, none⟩) l1).trans q1f
    have HO6 := Lib.hid hO6
    have HBB := Lib.hid (kB.to_below.trans (hBW.mono kB.size))
    clear hO6 hBW
    generalize (World.setCell (World.setCell w4 ⟨w3.heap.size, 0, none⟩ (.slice Aa na ca)) ⟨w2.heap.size, 0, none⟩ (.slice (some ⟨gB, 0, none⟩) n cpB)) = Wf at *
    generalize (w2.heap.size) = b6 at *
    have HEQ : (((est F n n).2 : Int) == (n : Int)) = decide ((est F n n).2 = n) := natInt_beq _ _
    generalize hee : decide ((est F n n).2 = n) = db at *
    generalize (est F n n).2 = ee at *
    go_wp2_with fail
    refine bodyPost_ret (v := .tuple #[.agg #[.slice (some ⟨gB, 0, none⟩) n cpB], .bool db]) (by simp [results, Tryd.results42, go_sem, r1]) rfl ?_
    have kk := turn_setCell Wf (w.heap.size + 1) 0 (.slice (some ⟨gB, 0, none⟩) n cpB)
    have hzb := HZB.out
    have hbw := HBB.out.setCell (p := ⟨w.heap.size + 1, 0, none⟩) (Nat.le_succ _) (.slice (some ⟨gB, 0, none⟩) n cpB)
    exact ⟨_, us, rfl, (HO6.out.keep kk (by omega)).wider (by omega) (by simp) (by simp), TurnIn.of_below hbw⟩
  · have hBW : Below w2.heap.size w2 (World.setCell (World.setCell w4 ⟨w2.heap.size + 1, 0, none⟩ (.slice Aa na ca)) ⟨w2.heap.size, 0, none⟩ (.slice (some ⟨gB, 0, none⟩) n cpB)) := And.left (by assumption)
    have hc6 : World.cell? (World.setCell (World.setCell w4 ⟨w2.heap.size + 1, 0, none⟩ (.slice Aa na ca)) ⟨w2.heap.size, 0, none⟩ (.slice (some ⟨gB, 0, none⟩) n cpB)) ⟨w2.heap.size, 0, none⟩ = some (.slice (some ⟨gB, 0, none⟩) n cpB) := by first | (simp; done) | exact World.cell?_setCell_same _ _ _ (by assumption)
    have hO6 : OwnM 5 22 (World.setCell (World.setCell w4 ⟨w2.heap.size + 1, 0, none⟩ (.slice Aa na ca)) ⟨w2.heap.size, 0, none⟩ (.slice (some ⟨gB, 0, none⟩) n cpB)) w2.heap.size (World.heap (World.setCell (World.setCell w4 ⟨w2.heap.size + 1, 0, none⟩ (.slice Aa na ca)) ⟨w2.heap.size, 0, none⟩ (.slice (some ⟨gB, 0, none⟩) n cpB))).size (.slice (some ⟨gB, 0, none⟩) n cpB) (mkM n n (bst F idF n n)) us := OwnM.wider ((hO.keep (turn_setCell _ _ 0 _) (by first | omega | (simp at * <;> omega))).keep (turn_setCell _ _ 0 _) (by first | omega | (simp at * <;> omega))) (by first | omega | (simp at * <;> omega)) (by first | (simp; done) | (simp; omega)) (Nat.le_refl _)
    have r1 := (hBW.cell (p := ⟨w.heap.size + 1, 0, none⟩) l1).trans q1
    have r1f := (hBW.frozen (p := ⟨w.heap.size + 1, 0, none⟩) l1).trans q1f
    have HO6 := Lib.hid hO6
    have HBB := Lib.hid (kB.to_below.trans (hBW.mono kB.size))
    clear hO6 hBW
    generalize (World.setCell (World.setCell w4 ⟨w2.heap.size + 1, 0, none⟩ (.slice Aa na ca)) ⟨w2.heap.size, 0, none⟩ (.slice (some ⟨gB, 0, none⟩) n cpB)) = Wf at *
    generalize (w2.heap.size) = b6 at *
    have HEQ : (((est F n n).2 : Int) == (n : Int)) = decide ((est F n n).2 = n) := natInt_beq _ _
    generalize hee : decide ((est F n n).2 = n) = db at *
    generalize (est F n n).2 = ee at *
    go_wp2_with fail
    refine bodyPost_ret (v := .tuple #[.agg #[.slice (some ⟨gB, 0, none⟩) n cpB], .bool db]) (by simp [results, Tryd.results42, go_sem, r1]) rfl ?_
    have kk := turn_setCell Wf (w.heap.size + 1) 0 (.slice (some ⟨gB, 0, none⟩) n cpB)
    have hzb := HZB.out
    have hbw := HBB.out.setCell (p := ⟨w.heap.size + 1, 0, none⟩) (Nat.le_succ _) (.slice (some ⟨gB, 0, none⟩) n cpB)
    exact ⟨_, us, rfl, (HO6.out.keep kk (by omega)).wider (by omega) (by simp) (by simp), TurnIn.of_below hbw⟩

end Go.Proofs.YtbfchebnooanjaaDoor

/- decodedBy, the program's. -/
namespace G294
open Go Go.RowKit
/-- the rows that shards name -/
def usedM (L : Mat) (l : List Sh) : Mat := pickM L (l.map (·.1))
def dbOk (L : Mat) (l : List Sh) : Bool := invOk (usedM L l)
def dbR (L : Mat) (l : List Sh) (n : Nat) : List (List UInt8) := if dbOk L l = true then rowsT l.length l.length n (invF (usedM L l)) (l.map (·.2)) else []
theorem dbR_no {L : Mat} {l : List Sh} {n : Nat} (h : dbOk L l = false) : dbR L l n = [] := if_neg (by rw [h]; simp)
theorem dbR_yes {L : Mat} {l : List Sh} {n : Nat} (h : dbOk L l = true) : dbR L l n = rowsT l.length l.length n (invF (usedM L l)) (l.map (·.2)) := if_pos h
@[simp] theorem usedM_length (L : Mat) (l : List Sh) : (usedM L l).length = l.length := by simp [usedM]
theorem shardsF_texts (r c n : Nat) (F : Ents) (T : List (List UInt8)) : (shardsF r c n F T).map (·.2) = rowsT r c n F T := by
  simp [shardsF, rowsT, mkM, comb]
theorem OwnInts.isSlice {E : TypeId} {w : World} {lo hi : Nat} {v : Value} {l : List Int} (h : OwnInts E w lo hi v l) : ∃ A n c, v = .slice A n c := by
  rcases h.1.2 with ⟨hh, _⟩ | ⟨g, cap, cur, hh, _⟩ <;> exact ⟨_, _, _, hh⟩
/-- behind 'x, ok := f(..)': the result's rows lie in a box -/
def MidBox (T E EE : TypeId) (w2 : World) (L : Mat) (s : Value) (wx : World) : Prop := ∃ B A n c vs, s = .pointer (some ⟨B, 0, none⟩) ∧ w2.heap.size ≤ B ∧ Boxed wx B T (.slice A n c) ∧ OwnM E EE wx w2.heap.size wx.heap.size (.slice A n c) L vs ∧ Below w2.heap.size w2 wx
theorem mid_new {T E EE : TypeId} {w2 w5 : World} {L : Mat} {lo : Nat} {A : Option Addr} {n c : Nat} {vs : List Value} (h : OwnM E EE w5 lo w5.heap.size (.slice A n c) L vs) (hb : Below w2.heap.size w2 w5) (hl : w2.heap.size ≤ lo) : MidBox T E EE w2 L (.pointer (some ⟨w5.heap.size, 0, none⟩)) (w5.alloc (.cells #[.slice A n c] T)) :=
  ⟨w5.heap.size, A, n, c, vs, rfl, hb.size, Boxed.new _ _ _, (h.keep (turn_alloc _ _) (by omega)).wider hl (by simp) (Nat.le_refl _), hb.alloc hb.size _⟩
theorem mid_set {T E EE : TypeId} {w2 w5 : World} {L : Mat} {lo B : Nat} {A : Option Addr} {n c : Nat} {vs : List Value} {u : Value} (h : OwnM E EE w5 lo w5.heap.size (.slice A n c) L vs) (hb : Below w2.heap.size w2 w5) (hl : w2.heap.size ≤ lo) (hB : Boxed w5 B T u) (h1 : w2.heap.size ≤ B) (h2 : B < lo) : MidBox T E EE w2 L (.pointer (some ⟨B, 0, none⟩)) (w5.setCell ⟨B, 0, none⟩ (.slice A n c)) :=
  ⟨B, A, n, c, vs, rfl, h1, hB.set _, (h.keep (turn_setCell w5 B 0 _) (by omega)).wider hl (by simp) (by simp), hb.setCell (p := ⟨B, 0, none⟩) h1 _⟩
end G294
namespace Go.Proofs.YtbfchebnooanjaaDoor
open Go.RowKit Go.Shelf G294

attribute [local go_sem] Oper.semAt_some

set_option maxRecDepth 100000 in
set_option maxHeartbeats 4000000 in
theorem decodedBy_own (v : Value) (L : Mat) (u : Value) (l : List Sh) (n : Nat) (w : World) (hm : SeenM w v L) (hu : SeenH w u l) (hln : l.length ≤ 1000)
    (hno : ∀ i, i < (l.map (·.1)).length → 0 ≤ (l.map (·.1)).getD i 0 ∧ (l.map (·.1)).getD i 0 < (L.length : Int)) (hn : ∀ j, j < l.length → ((l.map (·.2)).getD j []).length = n) (hn2 : n ≤ 1000) (ht : Tab w) (h0 : 0 < w.heap.size) :
    Calls Tryd.prog 46 #[.agg #[v], u] w (RetStrsOk 9 w (dbR L l n) (dbOk L l)) := by
  have HM0 := Lib.hid hm
  have HU0 := Lib.hid hu
  obtain ⟨A, cp, rfl, hlc, hcm⟩ := hm.len
  obtain ⟨Au, cu, rfl⟩ := hu.len
  unfold maxLen at hcm
  have HNO := Lib.hid hno
  have HTX := Lib.hid hn
  have HT0 := Lib.hid ht
  have HML : Hid ((l.map (·.1)).length ≤ 1048576) := by show _ ≤ _; simp; omega
  have HTL : Hid ((l.map (·.2)).length = l.length) := by show _ = _; simp
  clear hm hu hno hn ht
  have k1 := turn_alloc w (.cells #[.slice A L.length cp] 67)
  have z1 := World.size_alloc w (.cells #[.slice A L.length cp] 67)
  have c1 := alloc_cell w (.slice A L.length cp) 67
  refine (callsIn_wide (n := 5)).1 ?_
  refine callsIn_of_wp_marks Tryd.func46 rfl trivial ?_ rfl
  simp only [Tryd.ntmps46, List.size_toArray, List.length_cons, List.length_nil, Nat.reduceAdd, Nat.reduceSub, Array.replicate_succ, Array.replicate_zero, List.push_toArray, List.append_toArray, List.nil_append, List.cons_append]
  refine wpIn_wide.2 ?_
  go_upto_region 1 with fail
  generalize (w.alloc (.cells #[.slice A L.length cp] 67)) = w2 at *
  have hB2 : Below w2.heap.size w2 w2 := Below.refl _ _
  have l0 : (⟨w.heap.size, 0, none⟩ : Addr).block < w2.heap.size := by show w.heap.size < w2.heap.size; omega
  have HM : Hid (∀ W, Below w2.heap.size w2 W → SeenM W (.slice A L.length cp) L) := fun W h => (HM0.out.touch k1).below h
  have HU : Hid (∀ W, Below w2.heap.size w2 W → SeenH W (.slice Au l.length cu) l) := fun W h => (HU0.out.below k1.to_below).below h
  have HT : Hid (∀ W, Below w2.heap.size w2 W → Tab W ∧ 0 < W.heap.size) := fun W h => ⟨(HT0.out.below k1.to_below h0).below h (by omega), by have := h.size; omega⟩
  have KW := Lib.hid k1
  have HZ1 := Lib.hid z1
  have hz1 : w.heap.size < w2.heap.size := by omega
  clear k1 z1
  go_cut [6, 7] from 10 to 17 (fun s6 s7 wx => s7 = .bool (dbOk L l) ∧ MidBox 67 5 22 w2 (invR (usedM L l)) s6 wx)
  case first =>
    go_region_held3 (fun w' => Below w2.heap.size w2 w' ∧ w'.cell? ⟨w.heap.size, 0, none⟩ = some (.slice A L.length cp))
      (first | exact ⟨hB2.drew, c1⟩ | exact hS5 | exact hS4 | exact hS3 | exact sAlloc (by assumption) l0 _ | exact sSet (by assumption) l0 (by omega) _ | exact sSet (by assumption) l0 (by simp; omega) _)
      (first
        | (go_at_call 75; refine (numbersOf_own _ l _ (HU.out _ (And.left (by assumption))) (by omega)).mono ?_; rintro e w3 ⟨v3, rfl, o3, k3⟩; obtain ⟨A3, n3, c3, rfl⟩ := o3.isSlice; have hS3 := sTurn (by assumption) l0 k3; have hz3 := hS3.1.size; (first | (have bx := boxes1 (undrew k3)) | (have bx := boxes1 k3) | skip))
        | (go_at_call 74; refine (rowsAt_seen _ L _ (l.map (·.1)) _ (HM.out _ (And.left (by assumption))) (by first | exact o3.seen | exact (o3.keep (turn_alloc _ _) (by omega)).seen) HML.out HNO.out).mono ?_; rintro e w4 ⟨A4, n4, c4, rfl, s4, k4⟩; have hS4 := sTurn (by assumption) l0 k4; have hz4 := hS4.1.size; have hk4 := k4.size; (first | (replace bx := Boxed.turn bx k4) | (have bx := boxes1 k4) | skip); (try have bl := Boxed.lt bx))
        | (go_at_call 73; refine (inverseOf_own _ (usedM L l) _ (by first | exact s4 | exact s4.touch (turn_alloc _ _)) (HT.out _ (And.left (by assumption))).1 (HT.out _ (And.left (by assumption))).2).mono ?_; rintro e w5 ⟨v5, vs5, rfl, o5, k5⟩; obtain ⟨A5, n5, c5, rfl⟩ := o5.isSlice; have hS5 := sTurn (by assumption) l0 k5; have hz5 := hS5.1.size; have hk5 := k5.size; (first | (replace bx := Boxed.turn bx k5) | (have bx := boxes1 k5) | skip); (try have bxc := Boxed.cell bx); (try have bxf := Boxed.frozen bx)))
    all_goals (go_wp2_with fail; go_meet; exact ⟨rfl, by first | exact mid_new o5 hS5.1 (by omega) | exact mid_set o5 hS5.1 (by first | omega | (simp <;> omega)) bx (by first | omega | (simp <;> omega)) (by first | omega | (simp <;> omega))⟩)
  case rest =>
    obtain ⟨rfl, B6, A5, n5, c5, vs5, rfl, hB6, bx6, o5, hBx⟩ := hcut
    have HBX := Lib.hid hBx
    have hsx := hBx.size
    have hlx := bx6.lt
    have HBW : Hid (Below w.heap.size w wc) := KW.out.to_below.trans (hBx.mono (by omega))
    clear hBx c1
    by_cases hok : dbOk L l = true
    · have HOK := Lib.hid hok
      have HR := Lib.hid (dbR_yes (n := n) hok)
      have hiv : invOk (usedM L l) = true := hok
      have HIR : Hid (invR (usedM L l) = mkM l.length l.length (invF (usedM L l))) := by
        show invR (usedM L l) = _
        unfold invR
        rw [if_pos hiv, usedM_length]
      have hN : 1 ≤ l.length ∧ l.length ≤ 16 := by
        have h2 : squareM (usedM L l) = true := by simp only [invOk, Bool.and_eq_true] at hiv; exact hiv.1
        have h3 : goodM (usedM L l) = true := by simp only [squareM, Bool.and_eq_true] at h2; exact h2.1
        have h4 := (goodM_iff _).1 h3
        rw [usedM_length] at h4
        exact ⟨h4.1, h4.2.1⟩
      rw [HIR.out] at o5
      rw [hok]
      clear hok hiv
      generalize hNN : l.length = N at *
      have HN := Lib.hid hNN
      clear hNN
      obtain ⟨g5, c5', he5, hg5, hg5', hcp5, hcp5'⟩ := o5.sliceF (by omega)
      simp only [Value.slice.injEq] at he5
      obtain ⟨rfl, hn5, rfl⟩ := he5
      obtain rfl : N = n5 := hn5.symm
      have b8 := Boxed.new wc 35 (.slice none 0 0)
      have k8 := turn_alloc wc (.cells #[.slice none 0 0] 35)
      have z8 := World.size_alloc wc (.cells #[.slice none 0 0] 35)
      have bI := bx6.alloc (.cells #[.slice none 0 0] 35)
      have o8 := o5.keep k8 (by omega)
      go_wp2_with fail
      generalize (wc.alloc (.cells #[.slice none 0 0] 35)) = W8 at *
      have cI := bI.cell
      have HB8 := Lib.hid (k8.base HBW.out (by have := HBW.out.size; omega) (by omega))
      have hS8 : SeenH W8.drew (.slice Au N cu) l := by
        have := HU0.out.below HB8.out
        exact this
      go_region_held3 (fun w' => w'.cell? ⟨B6, 0, none⟩ = some (.slice (some ⟨g5, 0, none⟩) N c5))
        (first | exact cI)
        (first
          | (go_at_call 71; refine (textsOf_own _ l _ hS8 (by rw [HN.out]; omega)).mono ?_; rintro e w9 ⟨v9, rfl, o9, k9⟩; obtain ⟨A9, n9, c9, rfl⟩ := o9.isSlice; replace k9 := undrew k9; replace cI := cell_turn k9 cI (by omega))
          | (go_at_call 57; refine (shardsBy_any _ _ _ _ _).mono ?_; rintro e w' ⟨rfl, rfl⟩; have cI := cell_turn (turn_trans (turn_alloc w9 (.cells #[.slice (some ⟨g5, 0, none⟩) N c5] 67)) (turn_alloc _ (.cells #[.slice A9 n9 c9] 35)) (by omega)) cI (by have := k9.size; omega)))
      have k9s := k9.size
      generalize hn0 : w9.heap.size = h9 at *
      obtain ⟨W0, hW0⟩ : ∃ W0, W0 = ((w9.alloc (.cells #[.slice (some ⟨g5, 0, none⟩) N c5] 67)).alloc (.cells #[.slice A9 n9 c9] 35)) := ⟨_, rfl⟩
      have bM : Boxed W0 h9 67 (.slice (some ⟨g5, 0, none⟩) N c5) := by
        rw [hW0, ← hn0]; exact (Boxed.new w9 _ _).alloc _
      have bT : Boxed W0 (h9 + 1) 35 (.slice A9 n9 c9) := by
        have := Boxed.new (w9.alloc (.cells #[.slice (some ⟨g5, 0, none⟩) N c5] 67)) 35 (.slice A9 n9 c9)
        rw [World.size_alloc, hn0] at this; rw [hW0]; exact this
      have hsz : W0.heap.size = h9 + 2 := by rw [hW0]; simp [hn0]
      have k0 : TurnIn 0 0 w9 W0 := by
        rw [hW0]; exact turn_trans (turn_alloc _ _) (turn_alloc _ _) (by omega)
      have k90 : TurnIn 0 0 W8 W0 := turn_trans k9 k0 (by omega)
      have bS : Boxed W0 wc.heap.size 35 (.slice none 0 0) := Boxed.turn b8 k90
      have hB0 : Below w.heap.size w W0 := k90.base HB8.out (by have := HB8.out.size; omega) (by omega)
      have hM0 := o8.keep k90 (by omega)
      have hT0 := o9.keep k0 (by omega)
      rw [← hW0]
      have HINV : Hid (∀ W W', KeepBut (h9 + 2) wc.heap.size W0 W → (KeepBut (h9 + 2) wc.heap.size W W' ∨ Below W.heap.size W W') → KeepBut (h9 + 2) wc.heap.size W0 W') := fun W W' h h' => by
        rcases h' with h' | h'
        · exact h.trans h'
        · exact h.trans (KeepBut.of_below (h'.mono (by have := h.size; omega)))
      obtain ⟨i0, hi, hz0, hz1', hz2⟩ := info_parts infoStr
      have HM9 := Lib.hid hM0
      have HT9 := Lib.hid hT0
      have HB0 := Lib.hid hB0
      have hbd : wc.heap.size < h9 := by omega
      have hw8 : W8.drew.heap.size = W8.heap.size := rfl
      clear hW0 k0 k90 k9 hM0 hT0 cI o8 o9 b8 bI hn0 hS8
      go_wp2_with fail
      refine (wpIn_wide (n := 5)).1 ?_
      refine wpIn_rangeFunc_ownH rfl (by omega) (gf := 83) (lb := #[.pointer (some ⟨h9, 0, none⟩), .pointer (some ⟨h9 + 1, 0, none⟩)]) rfl trivial (enters_of Tryd.func83 (by kernel_rfl) rfl)
        (shardsBy_stops _ N N n h9 (h9 + 1) (invF (usedM L l)) (l.map (·.2)) (.slice (some ⟨g5, 0, none⟩) N c5) (.slice A9 n9 c9) W0 (KeepBut (h9 + 2) wc.heap.size) (KeepBut (h9 + 2) wc.heap.size W0) HTL.out (by omega) (by omega) (by omega) HTX.out (by omega)
          (fun W hW => ⟨⟨(hW.cell (by omega) (by omega)).trans bM.cell, (hW.cell (by omega) (by omega)).trans bT.cell⟩, ⟨(HM9.out.agree hW.size (fun j h1 h2 => hW.block j (by omega) (by omega))).seen, (HT9.out.agree hW.size (fun j h1 h2 => hW.block j (by omega) (by have : W8.drew.heap.size ≤ j := h1; omega))).seen⟩, HT0.out.below (hW.below HB0.out (by have := HB8.out.size; omega) (by have := HB8.out.size; omega)) h0, by have := hW.size; omega⟩)
          (fun W W' h h' => HINV.out W W' h (.inl h')) (fun W W' h h' => HINV.out W W' h (.inr h')) (fun W h => KeepBut.of_below (h.mono (by omega))) (by omega))
        (fun h h' => h.trans h') (KeepBut.putObj (by omega)) (Below.refl _ _) (fun _ => rfl)
        (fun pre W => (∃ v, Boxed W wc.heap.size 35 v ∧ W.ownsRow (h9 + 2) 9 1 v pre.length (strs (pre.map (·.2))) ∧ True) ∧ Below w.heap.size w W ∧ h9 + 2 ≤ W.heap.size)
        (fun _ _ _ => False)
        (OwnFrom.and (Own.from (holdsRow_own (h9 + 2) wc.heap.size 35 9 1 (fun pre : List Sh => pre.length) (fun pre => strs (pre.map (·.2))) (fun _ _ => True)) _) (OwnFrom.and (ownFrom_below (Nat.le_refl _) (by have := HB0.out.size; omega)) (fun s X Y row hs hg hr => Nat.le_trans hs hg.size)))
        (fun _ _ _ _ _ hs _ _ => hs)
        ⟨⟨_, bS, World.ownsRow_nil _ _ _ _, trivial⟩, HB0.out, by omega⟩
        (fun x a' W => ∃ Bx, h9 + 2 ≤ Bx ∧ W.heap[Bx]? = some (.cells #[.int .i64 x.1, .string (str x.2)] 27 (0, 0)) ∧ a' = { tmps := #[.agg #[.slice A L.length cp], .slice Au N cu, .pointer (some ⟨w.heap.size, 0, none⟩), undef, .slice none 0 0, .bool false,
          .pointer (some ⟨B6, 0, none⟩), .bool true, .pointer (some ⟨wc.heap.size, 0, none⟩), .pointer (some ⟨Bx, 0, none⟩), u10, u11, u12, u13, u14, u15, u16, u17, .bool true, .bool false,
          .agg #[.slice (some ⟨g5, 0, none⟩) N c5], .slice Au N cu, .slice A9 n9 c9, .func (.func 83) #[] #[.pointer (some ⟨h9, 0, none⟩), .pointer (some ⟨h9 + 1, 0, none⟩)], shV x, undef, undef, undef, undef, undef, undef], defers := [] })
        (fun x a' _ X Y row hs hg hr => by
          obtain ⟨Bx, e1, e2, e3⟩ := hs
          refine ⟨Bx, e1, ?_, e3⟩
          rw [hg.block Bx (Array.getElem?_eq_some_iff.1 e2).1 (fun e => by
            obtain ⟨o, ho, hoc⟩ := (hr Bx e.symm).2
            rw [e2] at ho
            cases ho
            simp [Obj.isCells] at hoc)]
          exact e2)
        ?assign ?body ?done ?stop
      case assign =>
        rintro ll pre x W K ⟨⟨v, hv, hrow, _⟩, hBw, hn0⟩ hK
        simp only [shV]
        gi_wp2_with fail
        exact hK _ _ ((KeepsOthers.alloc _ _).from _) (KeepBut.of_below ((Below.refl _ W).alloc hn0 _)) ⟨⟨v, hv.alloc _, hrow.alloc _, trivial⟩, hBw.alloc hBw.size _, by simp; omega⟩ ⟨W.heap.size, hn0, World.alloc_heap_new W _, rfl⟩
      case body =>
        rintro ll pre x a' W hl ⟨rr, hr⟩ ⟨⟨v, hv, hrow, _⟩, hBw, hn0⟩ ⟨Bx, hBx, hX, rfl⟩ hlt
        obtain ⟨no, sx⟩ := x
        have hc := hv.cell
        have cX1 : W.cell? ⟨Bx, 1, none⟩ = some (.string (str sx)) := by simp [World.cell?, hX]
        have HROW := Lib.hid hrow
        clear hrow
        simp only [shV]
        gi_wp2_with (gi_at_builtin; refine wpListIn_append_own _ rfl _ _ 35 rfl (h9 + 2) 9 i0 _ 1 16 Tryd.underlying35 hi hz0 hz1' hz2 rfl (by decide) _ pre.length _ rfl (HROW.out.alloc _) ⟨W.heap.size, 0, none⟩ 1 1 [.string (str sx)] rfl rfl (cell_one_new _ _ _) (by simp [Value.oneCell']) ?b1 ?b2 ?b3 ?_)
        case b1 => unfold maxLen; omega
        case b2 => omega
        case b3 => first | omega | (simp; omega)
        intro v' w3 hown' hgrow _
        obtain ⟨g', cap', rfl⟩ := ownsRow_succ hown'
        obtain ⟨hv1, hv2, hr2, hk2, hb2, hn2'⟩ := collect_step (e0 := w.heap.size) hv (by decide) HROW.out hown' hgrow (by have := HB8.out.size; omega) (by omega) hn0
        have hc1 := hv1.cell
        have hf1 := hv1.frozen
        have hr3 : (w3.setCell ⟨wc.heap.size, 0, none⟩ (.slice (some ⟨g', 0, none⟩) (pre.length + 1) cap')).ownsRow (h9 + 2) 9 1 (.slice (some ⟨g', 0, none⟩) (pre.length + 1) cap') (pre ++ [(no, sx)]).length (strs ((pre ++ [(no, sx)]).map (·.2))) := by
          rw [List.map_append, strs_append]; simpa [strs] using hr2
        clear hr2 hown' hgrow
        gi_wp2_with fail
        exact ⟨hk2.from _, hb2, ⟨⟨_, hv2, hr3, trivial⟩, hb2.below hBw (by have := HB8.out.size; omega) (by have := HB8.out.size; omega), hn2'⟩⟩
      case done =>
        rintro D ys W hD rfl ⟨⟨v, hv, hrow, _⟩, hBw, hn0⟩ hK
        have hc := hv.cell
        go_wp2_with fail
        refine ⟨by simp, .inl ⟨_, _, rfl, run_takeDeferred hK, ?_⟩⟩
        have hown := ownsRow_putObj hrow (.deferred none) hK rfl
        have hBe := hBw.trans (belowK_b (w := w) (Nat.le_refl _) W D _ (.deferred none) (by have := HB0.out.size; omega) hK rfl rfl)
        refine ⟨_, results_tmp2 rfl _ _ _, v, by rw [HOK.out]; rfl, ?_, TurnIn.of_below hBe⟩
        rw [HR.out]
        rw [shardsF_texts] at hown
        refine OwnStrs.of_made (w := w) (own_base ?_ (show w.heap.size ≤ h9 + 2 by have := HB8.out.size; omega))
        rw [rowsT_length]
        simpa using hown
      case stop =>
        rintro D c pre W _ _ h _
        exact h.elim
    · have hok' : dbOk L l = false := by simpa using hok
      have HOK := Lib.hid hok'
      have HR := Lib.hid (dbR_no (n := n) hok')
      rw [hok']
      clear hok hok' o5
      go_wp2_with fail
      refine ⟨_, results_tmp2 rfl _ _ _, .slice none 0 0, by rw [HOK.out]; rfl, ?_, TurnIn.of_below HBW.out⟩
      rw [HR.out]
      exact ⟨World.ownsRow_nil _ _ _ _, Nat.le_refl _, fun g e => by simp [Value.ownBlock] at e⟩

end Go.Proofs.YtbfchebnooanjaaDoor
