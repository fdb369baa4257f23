/- Joined texts: SpecInv, Fill2. -/
import Derived.Test.YtlkoafnlklhaeabDoorBd09
import Derived.Test.YtlkoafnlklhaeabDoorBd04
import Derived.RangeFuncBox
import Derived.RangeFuncNested
import Derived.Test.YtlkoafnlklhaeabDoorBd05
set_option linter.unusedSimpArgs false
set_option linter.unusedVariables false
/- The model's l2Inverse. -/
namespace G294
open Go Go.RowKit
theorem sAlloc {w2 W : World} {a : Addr} {x : Value} (h : Below w2.heap.size w2 W ∧ W.cell? a = some x) (ha : a.block < w2.heap.size) (o : Obj) : Below w2.heap.size w2 (W.alloc o) ∧ (W.alloc o).cell? a = some x := by
  have hb := h.1.alloc h.1.size o
  exact ⟨hb, (((Below.refl _ W).alloc (Nat.le_refl _) o).cell (p := a) (Nat.lt_of_lt_of_le ha h.1.size)).trans h.2⟩
theorem sTurn {w2 W W' : World} {a : Addr} {x : Value} (h : Below w2.heap.size w2 W ∧ W.cell? a = some x) (ha : a.block < w2.heap.size) (k : TurnIn 0 0 W W') : Below w2.heap.size w2 W' ∧ W'.cell? a = some x :=
  ⟨k.base h.1 h.1.size (by omega), (k.to_below.cell (p := a) (Nat.lt_of_lt_of_le ha h.1.size)).trans h.2⟩
theorem sSet {w2 W : World} {a : Addr} {x : Value} (h : Below w2.heap.size w2 W ∧ W.cell? a = some x) (ha : a.block < w2.heap.size) {B : Nat} (hB : w2.heap.size ≤ B) (u : Value) : Below w2.heap.size w2 (W.setCell ⟨B, 0, none⟩ u) ∧ (W.setCell ⟨B, 0, none⟩ u).cell? a = some x :=
  ⟨h.1.setCell (p := ⟨B, 0, none⟩) hB u, (World.cell?_setCell_other _ _ _ _ (fun e => by rw [← e] at ha; simp at ha; omega)).trans h.2⟩
theorem natInt_beq (a b : Nat) : ((a : Int) == (b : Int)) = decide (a = b) := by
  by_cases h : a = b
  · subst h; simp
  · have h2 : ((a : Int) == (b : Int)) = false := by rw [beq_eq_false_iff_ne]; omega
    rw [h2]; simp [h]
theorem Boxed.turn {W W' : World} {B : Nat} {T : TypeId} {v : Value} (h : Boxed W B T v) (k : TurnIn 0 0 W W') : Boxed W' B T v := (k.block B h.lt (by omega)).trans h
theorem boxes1 {w w' : World} {v : Value} {T : TypeId} (k : TurnIn 0 0 (w.alloc (.cells #[v] T)) w') : Boxed w' w.heap.size T v := Boxed.turn (Boxed.new w T v) k
theorem boxes2 {w w' : World} {v v' : Value} {T T' : TypeId} (k : TurnIn 0 0 ((w.alloc (.cells #[v] T)).alloc (.cells #[v'] T')) w') : Boxed w' w.heap.size T v ∧ Boxed w' (w.heap.size + 1) T' v' := by
  refine ⟨Boxed.turn ((Boxed.new w T v).alloc _) k, ?_⟩
  have h := Boxed.turn (Boxed.new (w.alloc (.cells #[v] T)) T' v') k
  rwa [World.size_alloc] at h
end G294
namespace Go.Proofs.YtlkoafnlklhaeabDoor
open Go.RowKit G294

set_option maxRecDepth 100000 in
set_option maxHeartbeats 4000000 in
theorem l2Inverse_own (n : Nat) (F : Ents) (v : Value) (w : World) (hs : SeenM w v (mkM n n F)) (hn1 : 1 ≤ n) (hn : n ≤ 1000) :
    Calls Tryd.prog 69 #[.agg #[v]] w (RetMatOk 5 22 w (mkM n n (bst F idF n n)) (decide ((est F n n).2 = n))) := by
  obtain ⟨A, cp, rfl, hlc, hcm⟩ := hs.len
  rw [mkM_length] at *
  unfold maxLen at hcm
  have kB : TurnIn 0 0 w ((w.alloc (.cells #[.slice A n cp] 52)).alloc (.cells #[.slice none 0 0] 52)) := turn_trans (turn_alloc _ _) (turn_alloc _ _) (by omega)
  have zB : ((w.alloc (.cells #[.slice A n cp] 52)).alloc (.cells #[.slice none 0 0] 52)).heap.size = w.heap.size + 2 := by simp
  have q0 : ((w.alloc (.cells #[.slice A n cp] 52)).alloc (.cells #[.slice none 0 0] 52)).cell? ⟨w.heap.size, 0, none⟩ = some (.slice A n cp) := by simp
  have q1 : ((w.alloc (.cells #[.slice A n cp] 52)).alloc (.cells #[.slice none 0 0] 52)).cell? ⟨w.heap.size + 1, 0, none⟩ = some (.slice none 0 0) := by simp
  have q1f : ((w.alloc (.cells #[.slice A n cp] 52)).alloc (.cells #[.slice none 0 0] 52)).frozen? ⟨w.heap.size + 1, 0, none⟩ = false := by simp
  have HS := Lib.hid (hs.touch kB)
  go_enter Tryd.func69, Tryd.ntmps69
  go_wp2_with fail
  generalize ((w.alloc (.cells #[.slice A n cp] 52)).alloc (.cells #[.slice none 0 0] 52)) = w2 at *
  have hB2 : Below w2.heap.size w2 w2 := Below.refl _ _
  have l0 : (⟨w.heap.size, 0, none⟩ : Addr).block < w2.heap.size := by show w.heap.size < w2.heap.size; omega
  have l1 : (⟨w.heap.size + 1, 0, none⟩ : Addr).block < w2.heap.size := by show w.heap.size + 1 < w2.heap.size; omega
  have HZB := Lib.hid zB
  clear zB
  go_region_held3 (fun w' => Below w2.heap.size w2 w' ∧ w'.cell? ⟨w.heap.size, 0, none⟩ = some (.slice A n cp))
    (first | exact ⟨hB2.drew, q0⟩ | exact hS4 | exact sAlloc (by assumption) l0 _ | exact sTurn (by assumption) l0 (by assumption) | exact sSet (by assumption) l0 (by omega) _ | exact sSet (by assumption) l0 (by simp; omega) _ | exact sAlloc (sAlloc hS4 l0 _) l0 _ | exact sAlloc hS4 l0 _ | exact sAlloc (sSet hS4 l0 (by omega) _) l0 _ | exact sSet (sSet hS4 l0 (by omega) _) l0 (by omega) _)
    (first
      | (go_at_call 55; refine (l2Identity_own n _ hn1 hn).mono ?_; rintro e w3 ⟨vI, vsI, rfl, hI, k3⟩; obtain ⟨gI, cpI, rfl, hgI, hgI', hpI, hpI'⟩ := hI.sliceF (by omega); have hz3 := (sTurn (by assumption) l0 k3).1.size; have hk3 := k3.size; (first | (have fA := boxes2 (undrew k3)) | (have fA := boxes1 (undrew k3)) | skip))
      | (go_at_call 83; refine (l2Reduce_own n n n F idF _ _ _ (HS.out.below (And.left (by assumption))) (by first | exact hI.seen | exact (hI.keep (turn_alloc _ _) (by omega)).seen | exact ((hI.keep (turn_alloc _ _) (by omega)).keep (turn_alloc _ _) (by omega)).seen) hn1 hn hn1 hn hn1 hn).mono ?_; rintro e w4 ⟨Aa, na, ca, vb, us, rfl, hO, k4⟩; obtain ⟨gB, cpB, rfl, hgB, hgB', hpB, hpB'⟩ := hO.sliceF (by omega); have hS4 := sTurn (by assumption) l0 k4; have hz4 := hS4.1.size; have hk4 := k4.size; have k34 : TurnIn 0 0 w3 w4 := (by first | exact k4 | exact turn_trans (turn_alloc _ _) k4 (by omega) | exact turn_trans (turn_trans (turn_alloc _ _) (turn_alloc _ _) (by omega)) k4 (by omega)); (try have fac0 : w4.cell? ⟨w2.heap.size, 0, none⟩ = some (.slice none 0 0) := Boxed.cell (Boxed.turn fA k34)); (try have faf0 : w4.frozen? ⟨w2.heap.size, 0, none⟩ = false := Boxed.frozen (Boxed.turn fA k34)); (try have fac1 : (w4.alloc (.cells #[.slice none 0 0] 52)).cell? ⟨w2.heap.size, 0, none⟩ = some (.slice none 0 0) := Boxed.cell (Boxed.alloc (Boxed.turn fA k34) _)); (try have faf1 : (w4.alloc (.cells #[.slice none 0 0] 52)).frozen? ⟨w2.heap.size, 0, none⟩ = false := Boxed.frozen (Boxed.alloc (Boxed.turn fA k34) _)); (try have fbc0 : w4.cell? ⟨w2.heap.size, 0, none⟩ = some (.slice none 0 0) := Boxed.cell (Boxed.turn fA.1 k34)); (try have fbf0 : w4.frozen? ⟨w2.heap.size, 0, none⟩ = false := Boxed.frozen (Boxed.turn fA.1 k34)); (try have fbc1 : (w4.alloc (.cells #[.slice none 0 0] 52)).cell? ⟨w2.heap.size, 0, none⟩ = some (.slice none 0 0) := Boxed.cell (Boxed.alloc (Boxed.turn fA.1 k34) _)); (try have fbf1 : (w4.alloc (.cells #[.slice none 0 0] 52)).frozen? ⟨w2.heap.size, 0, none⟩ = false := Boxed.frozen (Boxed.alloc (Boxed.turn fA.1 k34) _)); (try have fcc0 : w4.cell? ⟨w2.heap.size + 1, 0, none⟩ = some (.slice none 0 0) := Boxed.cell (Boxed.turn fA.2 k34)); (try have fcf0 : w4.frozen? ⟨w2.heap.size + 1, 0, none⟩ = false := Boxed.frozen (Boxed.turn fA.2 k34)); (try have fcc1 : (w4.alloc (.cells #[.slice none 0 0] 52)).cell? ⟨w2.heap.size + 1, 0, none⟩ = some (.slice none 0 0) := Boxed.cell (Boxed.alloc (Boxed.turn fA.2 k34) _)); (try have fcf1 : (w4.alloc (.cells #[.slice none 0 0] 52)).frozen? ⟨w2.heap.size + 1, 0, none⟩ = false := Boxed.frozen (Boxed.alloc (Boxed.turn fA.2 k34) _)); (try have n1 : w2.heap.size ≠ w3.heap.size := Nat.ne_of_lt (Boxed.lt fA)); (try have n2 : w3.heap.size ≠ w2.heap.size := Nat.ne_of_gt (Boxed.lt fA)); (try have gA := boxes2 k4); (try have gD := boxes1 k4); (try have gac0 : w4.cell? ⟨w3.heap.size, 0, none⟩ = some (.slice none 0 0) := Boxed.cell (gA.1)); (try have gaf0 : w4.frozen? ⟨w3.heap.size, 0, none⟩ = false := Boxed.frozen (gA.1)); (try have gac1 : (w4.alloc (.cells #[.slice none 0 0] 52)).cell? ⟨w3.heap.size, 0, none⟩ = some (.slice none 0 0) := Boxed.cell (Boxed.alloc (gA.1) _)); (try have gaf1 : (w4.alloc (.cells #[.slice none 0 0] 52)).frozen? ⟨w3.heap.size, 0, none⟩ = false := Boxed.frozen (Boxed.alloc (gA.1) _)); (try have gbc0 : w4.cell? ⟨w3.heap.size + 1, 0, none⟩ = some (.slice none 0 0) := Boxed.cell (gA.2)); (try have gbf0 : w4.frozen? ⟨w3.heap.size + 1, 0, none⟩ = false := Boxed.frozen (gA.2)); (try have gbc1 : (w4.alloc (.cells #[.slice none 0 0] 52)).cell? ⟨w3.heap.size + 1, 0, none⟩ = some (.slice none 0 0) := Boxed.cell (Boxed.alloc (gA.2) _)); (try have gbf1 : (w4.alloc (.cells #[.slice none 0 0] 52)).frozen? ⟨w3.heap.size + 1, 0, none⟩ = false := Boxed.frozen (Boxed.alloc (gA.2) _)); (try have gcc0 : w4.cell? ⟨w3.heap.size, 0, none⟩ = some (.slice none 0 0) := Boxed.cell (gD)); (try have gcf0 : w4.frozen? ⟨w3.heap.size, 0, none⟩ = false := Boxed.frozen (gD)); (try have gcc1 : (w4.alloc (.cells #[.slice none 0 0] 52)).cell? ⟨w3.heap.size, 0, none⟩ = some (.slice none 0 0) := Boxed.cell (Boxed.alloc (gD) _)); (try have gcf1 : (w4.alloc (.cells #[.slice none 0 0] 52)).frozen? ⟨w3.heap.size, 0, none⟩ = false := Boxed.frozen (Boxed.alloc (gD) _)); (try have n3 : w3.heap.size ≠ w4.heap.size := Nat.ne_of_lt (Boxed.lt gD)); (try have n4 : w4.heap.size ≠ w3.heap.size := Nat.ne_of_gt (Boxed.lt gD)); (try have n5 : w2.heap.size ≠ w4.heap.size := Nat.ne_of_lt (Boxed.lt (Boxed.turn fA k34))); (try have n6 : w4.heap.size ≠ w2.heap.size := Nat.ne_of_gt (Boxed.lt (Boxed.turn fA k34))); (try have xa1 : (w4.alloc (.cells #[.slice Aa na ca] 52)).cell? ⟨w2.heap.size, 0, none⟩ = some (.slice none 0 0) := Boxed.cell (Boxed.alloc (Boxed.turn fA k34) _)); (try have xb1 : (w4.alloc (.cells #[.slice Aa na ca] 52)).frozen? ⟨w2.heap.size, 0, none⟩ = false := Boxed.frozen (Boxed.alloc (Boxed.turn fA k34) _)); (try have xc2 : (w4.setCell ⟨w2.heap.size + 1, 0, none⟩ (.slice Aa na ca)).cell? ⟨w2.heap.size, 0, none⟩ = some (.slice none 0 0) := Boxed.cell (Boxed.other (Boxed.turn fA k34) (by first | omega | exact n1 | exact n2 | exact n3 | exact n4 | exact n5 | exact n6) _)); (try have xd2 : (w4.setCell ⟨w2.heap.size + 1, 0, none⟩ (.slice Aa na ca)).frozen? ⟨w2.heap.size, 0, none⟩ = false := Boxed.frozen (Boxed.other (Boxed.turn fA k34) (by first | omega | exact n1 | exact n2 | exact n3 | exact n4 | exact n5 | exact n6) _)); (try have xc3 : (w4.setCell ⟨w3.heap.size, 0, none⟩ (.slice Aa na ca)).cell? ⟨w2.heap.size, 0, none⟩ = some (.slice none 0 0) := Boxed.cell (Boxed.other (Boxed.turn fA k34) (by first | omega | exact n1 | exact n2 | exact n3 | exact n4 | exact n5 | exact n6) _)); (try have xd3 : (w4.setCell ⟨w3.heap.size, 0, none⟩ (.slice Aa na ca)).frozen? ⟨w2.heap.size, 0, none⟩ = false := Boxed.frozen (Boxed.other (Boxed.turn fA k34) (by first | omega | exact n1 | exact n2 | exact n3 | exact n4 | exact n5 | exact n6) _)); (try have xc4 : (w4.setCell ⟨w3.heap.size + 1, 0, none⟩ (.slice Aa na ca)).cell? ⟨w2.heap.size, 0, none⟩ = some (.slice none 0 0) := Boxed.cell (Boxed.other (Boxed.turn fA k34) (by first | omega | exact n1 | exact n2 | exact n3 | exact n4 | exact n5 | exact n6) _)); (try have xd4 : (w4.setCell ⟨w3.heap.size + 1, 0, none⟩ (.slice Aa na ca)).frozen? ⟨w2.heap.size, 0, none⟩ = false := Boxed.frozen (Boxed.other (Boxed.turn fA k34) (by first | omega | exact n1 | exact n2 | exact n3 | exact n4 | exact n5 | exact n6) _)); (try have xa5 : (w4.alloc (.cells #[.slice Aa na ca] 52)).cell? ⟨w2.heap.size, 0, none⟩ = some (.slice none 0 0) := Boxed.cell (Boxed.alloc (Boxed.turn fA.1 k34) _)); (try have xb5 : (w4.alloc (.cells #[.slice Aa na ca] 52)).frozen? ⟨w2.heap.size, 0, none⟩ = false := Boxed.frozen (Boxed.alloc (Boxed.turn fA.1 k34) _)); (try have xc6 : (w4.setCell ⟨w2.heap.size + 1, 0, none⟩ (.slice Aa na ca)).cell? ⟨w2.heap.size, 0, none⟩ = some (.slice none 0 0) := Boxed.cell (Boxed.other (Boxed.turn fA.1 k34) (by first | omega | exact n1 | exact n2 | exact n3 | exact n4 | exact n5 | exact n6) _)); (try have xd6 : (w4.setCell ⟨w2.heap.size + 1, 0, none⟩ (.slice Aa na ca)).frozen? ⟨w2.heap.size, 0, none⟩ = false := Boxed.frozen (Boxed.other (Boxed.turn fA.1 k34) (by first | omega | exact n1 | exact n2 | exact n3 | exact n4 | exact n5 | exact n6) _)); (try have xc7 : (w4.setCell ⟨w3.heap.size, 0, none⟩ (.slice Aa na ca)).cell? ⟨w2.heap.size, 0, none⟩ = some (.slice none 0 0) := Boxed.cell (Boxed.other (Boxed.turn fA.1 k34) (by first | omega | exact n1 | exact n2 | exact n3 | exact n4 | exact n5 | exact n6) _)); (try have xd7 : (w4.setCell ⟨w3.heap.size, 0, none⟩ (.slice Aa na ca)).frozen? ⟨w2.heap.size, 0, none⟩ = false := Boxed.frozen (Boxed.other (Boxed.turn fA.1 k34) (by first | omega | exact n1 | exact n2 | exact n3 | exact n4 | exact n5 | exact n6) _)); (try have xc8 : (w4.setCell ⟨w3.heap.size + 1, 0, none⟩ (.slice Aa na ca)).cell? ⟨w2.heap.size, 0, none⟩ = some (.slice none 0 0) := Boxed.cell (Boxed.other (Boxed.turn fA.1 k34) (by first | omega | exact n1 | exact n2 | exact n3 | exact n4 | exact n5 | exact n6) _)); (try have xd8 : (w4.setCell ⟨w3.heap.size + 1, 0, none⟩ (.slice Aa na ca)).frozen? ⟨w2.heap.size, 0, none⟩ = false := Boxed.frozen (Boxed.other (Boxed.turn fA.1 k34) (by first | omega | exact n1 | exact n2 | exact n3 | exact n4 | exact n5 | exact n6) _)); (try have xa9 : (w4.alloc (.cells #[.slice Aa na ca] 52)).cell? ⟨w2.heap.size + 1, 0, none⟩ = some (.slice none 0 0) := Boxed.cell (Boxed.alloc (Boxed.turn fA.2 k34) _)); (try have xb9 : (w4.alloc (.cells #[.slice Aa na ca] 52)).frozen? ⟨w2.heap.size + 1, 0, none⟩ = false := Boxed.frozen (Boxed.alloc (Boxed.turn fA.2 k34) _)); (try have xc10 : (w4.setCell ⟨w2.heap.size, 0, none⟩ (.slice Aa na ca)).cell? ⟨w2.heap.size + 1, 0, none⟩ = some (.slice none 0 0) := Boxed.cell (Boxed.other (Boxed.turn fA.2 k34) (by first | omega | exact n1 | exact n2 | exact n3 | exact n4 | exact n5 | exact n6) _)); (try have xd10 : (w4.setCell ⟨w2.heap.size, 0, none⟩ (.slice Aa na ca)).frozen? ⟨w2.heap.size + 1, 0, none⟩ = false := Boxed.frozen (Boxed.other (Boxed.turn fA.2 k34) (by first | omega | exact n1 | exact n2 | exact n3 | exact n4 | exact n5 | exact n6) _)); (try have xc11 : (w4.setCell ⟨w3.heap.size, 0, none⟩ (.slice Aa na ca)).cell? ⟨w2.heap.size + 1, 0, none⟩ = some (.slice none 0 0) := Boxed.cell (Boxed.other (Boxed.turn fA.2 k34) (by first | omega | exact n1 | exact n2 | exact n3 | exact n4 | exact n5 | exact n6) _)); (try have xd11 : (w4.setCell ⟨w3.heap.size, 0, none⟩ (.slice Aa na ca)).frozen? ⟨w2.heap.size + 1, 0, none⟩ = false := Boxed.frozen (Boxed.other (Boxed.turn fA.2 k34) (by first | omega | exact n1 | exact n2 | exact n3 | exact n4 | exact n5 | exact n6) _)); (try have xc12 : (w4.setCell ⟨w3.heap.size + 1, 0, none⟩ (.slice Aa na ca)).cell? ⟨w2.heap.size + 1, 0, none⟩ = some (.slice none 0 0) := Boxed.cell (Boxed.other (Boxed.turn fA.2 k34) (by first | omega | exact n1 | exact n2 | exact n3 | exact n4 | exact n5 | exact n6) _)); (try have xd12 : (w4.setCell ⟨w3.heap.size + 1, 0, none⟩ (.slice Aa na ca)).frozen? ⟨w2.heap.size + 1, 0, none⟩ = false := Boxed.frozen (Boxed.other (Boxed.turn fA.2 k34) (by first | omega | exact n1 | exact n2 | exact n3 | exact n4 | exact n5 | exact n6) _)); (try have xa13 : (w4.alloc (.cells #[.slice Aa na ca] 52)).cell? ⟨w3.heap.size, 0, none⟩ = some (.slice none 0 0) := Boxed.cell (Boxed.alloc (gD) _)); (try have xb13 : (w4.alloc (.cells #[.slice Aa na ca] 52)).frozen? ⟨w3.heap.size, 0, none⟩ = false := Boxed.frozen (Boxed.alloc (gD) _)); (try have xc14 : (w4.setCell ⟨w2.heap.size, 0, none⟩ (.slice Aa na ca)).cell? ⟨w3.heap.size, 0, none⟩ = some (.slice none 0 0) := Boxed.cell (Boxed.other (gD) (by first | omega | exact n1 | exact n2 | exact n3 | exact n4 | exact n5 | exact n6) _)); (try have xd14 : (w4.setCell ⟨w2.heap.size, 0, none⟩ (.slice Aa na ca)).frozen? ⟨w3.heap.size, 0, none⟩ = false := Boxed.frozen (Boxed.other (gD) (by first | omega | exact n1 | exact n2 | exact n3 | exact n4 | exact n5 | exact n6) _)); (try have xc15 : (w4.setCell ⟨w2.heap.size + 1, 0, none⟩ (.slice Aa na ca)).cell? ⟨w3.heap.size, 0, none⟩ = some (.slice none 0 0) := Boxed.cell (Boxed.other (gD) (by first | omega | exact n1 | exact n2 | exact n3 | exact n4 | exact n5 | exact n6) _)); (try have xd15 : (w4.setCell ⟨w2.heap.size + 1, 0, none⟩ (.slice Aa na ca)).frozen? ⟨w3.heap.size, 0, none⟩ = false := Boxed.frozen (Boxed.other (gD) (by first | omega | exact n1 | exact n2 | exact n3 | exact n4 | exact n5 | exact n6) _)); (try have xc16 : (w4.setCell ⟨w3.heap.size + 1, 0, none⟩ (.slice Aa na ca)).cell? ⟨w3.heap.size, 0, none⟩ = some (.slice none 0 0) := Boxed.cell (Boxed.other (gD) (by first | omega | exact n1 | exact n2 | exact n3 | exact n4 | exact n5 | exact n6) _)); (try have xd16 : (w4.setCell ⟨w3.heap.size + 1, 0, none⟩ (.slice Aa na ca)).frozen? ⟨w3.heap.size, 0, none⟩ = false := Boxed.frozen (Boxed.other (gD) (by first | omega | exact n1 | exact n2 | exact n3 | exact n4 | exact n5 | exact n6) _)); (try have xa17 : (w4.alloc (.cells #[.slice Aa na ca] 52)).cell? ⟨w3.heap.size, 0, none⟩ = some (.slice none 0 0) := Boxed.cell (Boxed.alloc (gA.1) _)); (try have xb17 : (w4.alloc (.cells #[.slice Aa na ca] 52)).frozen? ⟨w3.heap.size, 0, none⟩ = false := Boxed.frozen (Boxed.alloc (gA.1) _)); (try have xc18 : (w4.setCell ⟨w2.heap.size, 0, none⟩ (.slice Aa na ca)).cell? ⟨w3.heap.size, 0, none⟩ = some (.slice none 0 0) := Boxed.cell (Boxed.other (gA.1) (by first | omega | exact n1 | exact n2 | exact n3 | exact n4 | exact n5 | exact n6) _)); (try have xd18 : (w4.setCell ⟨w2.heap.size, 0, none⟩ (.slice Aa na ca)).frozen? ⟨w3.heap.size, 0, none⟩ = false := Boxed.frozen (Boxed.other (gA.1) (by first | omega | exact n1 | exact n2 | exact n3 | exact n4 | exact n5 | exact n6) _)); (try have xc19 : (w4.setCell ⟨w2.heap.size + 1, 0, none⟩ (.slice Aa na ca)).cell? ⟨w3.heap.size, 0, none⟩ = some (.slice none 0 0) := Boxed.cell (Boxed.other (gA.1) (by first | omega | exact n1 | exact n2 | exact n3 | exact n4 | exact n5 | exact n6) _)); (try have xd19 : (w4.setCell ⟨w2.heap.size + 1, 0, none⟩ (.slice Aa na ca)).frozen? ⟨w3.heap.size, 0, none⟩ = false := Boxed.frozen (Boxed.other (gA.1) (by first | omega | exact n1 | exact n2 | exact n3 | exact n4 | exact n5 | exact n6) _)); (try have xc20 : (w4.setCell ⟨w3.heap.size + 1, 0, none⟩ (.slice Aa na ca)).cell? ⟨w3.heap.size, 0, none⟩ = some (.slice none 0 0) := Boxed.cell (Boxed.other (gA.1) (by first | omega | exact n1 | exact n2 | exact n3 | exact n4 | exact n5 | exact n6) _)); (try have xd20 : (w4.setCell ⟨w3.heap.size + 1, 0, none⟩ (.slice Aa na ca)).frozen? ⟨w3.heap.size, 0, none⟩ = false := Boxed.frozen (Boxed.other (gA.1) (by first | omega | exact n1 | exact n2 | exact n3 | exact n4 | exact n5 | exact n6) _)); (try have xa21 : (w4.alloc (.cells #[.slice Aa na ca] 52)).cell? ⟨w3.heap.size + 1, 0, none⟩ = some (.slice none 0 0) := Boxed.cell (Boxed.alloc (gA.2) _)); (try have xb21 : (w4.alloc (.cells #[.slice Aa na ca] 52)).frozen? ⟨w3.heap.size + 1, 0, none⟩ = false := Boxed.frozen (Boxed.alloc (gA.2) _)); (try have xc22 : (w4.setCell ⟨w2.heap.size, 0, none⟩ (.slice Aa na ca)).cell? ⟨w3.heap.size + 1, 0, none⟩ = some (.slice none 0 0) := Boxed.cell (Boxed.other (gA.2) (by first | omega | exact n1 | exact n2 | exact n3 | exact n4 | exact n5 | exact n6) _)); (try have xd22 : (w4.setCell ⟨w2.heap.size, 0, none⟩ (.slice Aa na ca)).frozen? ⟨w3.heap.size + 1, 0, none⟩ = false := Boxed.frozen (Boxed.other (gA.2) (by first | omega | exact n1 | exact n2 | exact n3 | exact n4 | exact n5 | exact n6) _)); (try have xc23 : (w4.setCell ⟨w2.heap.size + 1, 0, none⟩ (.slice Aa na ca)).cell? ⟨w3.heap.size + 1, 0, none⟩ = some (.slice none 0 0) := Boxed.cell (Boxed.other (gA.2) (by first | omega | exact n1 | exact n2 | exact n3 | exact n4 | exact n5 | exact n6) _)); (try have xd23 : (w4.setCell ⟨w2.heap.size + 1, 0, none⟩ (.slice Aa na ca)).frozen? ⟨w3.heap.size + 1, 0, none⟩ = false := Boxed.frozen (Boxed.other (gA.2) (by first | omega | exact n1 | exact n2 | exact n3 | exact n4 | exact n5 | exact n6) _)); (try have xc24 : (w4.setCell ⟨w3.heap.size, 0, none⟩ (.slice Aa na ca)).cell? ⟨w3.heap.size + 1, 0, none⟩ = some (.slice none 0 0) := Boxed.cell (Boxed.other (gA.2) (by first | omega | exact n1 | exact n2 | exact n3 | exact n4 | exact n5 | exact n6) _)); (try have xd24 : (w4.setCell ⟨w3.heap.size, 0, none⟩ (.slice Aa na ca)).frozen? ⟨w3.heap.size + 1, 0, none⟩ = false := Boxed.frozen (Boxed.other (gA.2) (by first | omega | exact n1 | exact n2 | exact n3 | exact n4 | exact n5 | exact n6) _)); (try have xe25 : ((w4.setCell ⟨w2.heap.size, 0, none⟩ (.slice Aa na ca)).alloc (.cells #[.slice none 0 0] 52)).cell? ⟨w4.heap.size, 0, none⟩ = some (.slice none 0 0) := by simp); (try have xf25 : ((w4.setCell ⟨w2.heap.size, 0, none⟩ (.slice Aa na ca)).alloc (.cells #[.slice none 0 0] 52)).frozen? ⟨w4.heap.size, 0, none⟩ = false := by simp); (try have xg25 : ((w4.alloc (.cells #[.slice none 0 0] 52)).setCell ⟨w2.heap.size, 0, none⟩ (.slice Aa na ca)).cell? ⟨w4.heap.size, 0, none⟩ = some (.slice none 0 0) := Boxed.cell (Boxed.other (Boxed.new w4 _ _) (by first | omega | exact n1 | exact n2 | exact n3 | exact n4 | exact n5 | exact n6) _)); (try have xh25 : ((w4.alloc (.cells #[.slice none 0 0] 52)).setCell ⟨w2.heap.size, 0, none⟩ (.slice Aa na ca)).frozen? ⟨w4.heap.size, 0, none⟩ = false := Boxed.frozen (Boxed.other (Boxed.new w4 _ _) (by first | omega | exact n1 | exact n2 | exact n3 | exact n4 | exact n5 | exact n6) _)); (try have xe26 : ((w4.setCell ⟨w2.heap.size + 1, 0, none⟩ (.slice Aa na ca)).alloc (.cells #[.slice none 0 0] 52)).cell? ⟨w4.heap.size, 0, none⟩ = some (.slice none 0 0) := by simp); (try have xf26 : ((w4.setCell ⟨w2.heap.size + 1, 0, none⟩ (.slice Aa na ca)).alloc (.cells #[.slice none 0 0] 52)).frozen? ⟨w4.heap.size, 0, none⟩ = false := by simp); (try have xg26 : ((w4.alloc (.cells #[.slice none 0 0] 52)).setCell ⟨w2.heap.size + 1, 0, none⟩ (.slice Aa na ca)).cell? ⟨w4.heap.size, 0, none⟩ = some (.slice none 0 0) := Boxed.cell (Boxed.other (Boxed.new w4 _ _) (by first | omega | exact n1 | exact n2 | exact n3 | exact n4 | exact n5 | exact n6) _)); (try have xh26 : ((w4.alloc (.cells #[.slice none 0 0] 52)).setCell ⟨w2.heap.size + 1, 0, none⟩ (.slice Aa na ca)).frozen? ⟨w4.heap.size, 0, none⟩ = false := Boxed.frozen (Boxed.other (Boxed.new w4 _ _) (by first | omega | exact n1 | exact n2 | exact n3 | exact n4 | exact n5 | exact n6) _)); (try have xe27 : ((w4.setCell ⟨w3.heap.size, 0, none⟩ (.slice Aa na ca)).alloc (.cells #[.slice none 0 0] 52)).cell? ⟨w4.heap.size, 0, none⟩ = some (.slice none 0 0) := by simp); (try have xf27 : ((w4.setCell ⟨w3.heap.size, 0, none⟩ (.slice Aa na ca)).alloc (.cells #[.slice none 0 0] 52)).frozen? ⟨w4.heap.size, 0, none⟩ = false := by simp); (try have xg27 : ((w4.alloc (.cells #[.slice none 0 0] 52)).setCell ⟨w3.heap.size, 0, none⟩ (.slice Aa na ca)).cell? ⟨w4.heap.size, 0, none⟩ = some (.slice none 0 0) := Boxed.cell (Boxed.other (Boxed.new w4 _ _) (by first | omega | exact n1 | exact n2 | exact n3 | exact n4 | exact n5 | exact n6) _)); (try have xh27 : ((w4.alloc (.cells #[.slice none 0 0] 52)).setCell ⟨w3.heap.size, 0, none⟩ (.slice Aa na ca)).frozen? ⟨w4.heap.size, 0, none⟩ = false := Boxed.frozen (Boxed.other (Boxed.new w4 _ _) (by first | omega | exact n1 | exact n2 | exact n3 | exact n4 | exact n5 | exact n6) _)); (try have xe28 : ((w4.setCell ⟨w3.heap.size + 1, 0, none⟩ (.slice Aa na ca)).alloc (.cells #[.slice none 0 0] 52)).cell? ⟨w4.heap.size, 0, none⟩ = some (.slice none 0 0) := by simp); (try have xf28 : ((w4.setCell ⟨w3.heap.size + 1, 0, none⟩ (.slice Aa na ca)).alloc (.cells #[.slice none 0 0] 52)).frozen? ⟨w4.heap.size, 0, none⟩ = false := by simp); (try have xg28 : ((w4.alloc (.cells #[.slice none 0 0] 52)).setCell ⟨w3.heap.size + 1, 0, none⟩ (.slice Aa na ca)).cell? ⟨w4.heap.size, 0, none⟩ = some (.slice none 0 0) := Boxed.cell (Boxed.other (Boxed.new w4 _ _) (by first | omega | exact n1 | exact n2 | exact n3 | exact n4 | exact n5 | exact n6) _)); (try have xh28 : ((w4.alloc (.cells #[.slice none 0 0] 52)).setCell ⟨w3.heap.size + 1, 0, none⟩ (.slice Aa na ca)).frozen? ⟨w4.heap.size, 0, none⟩ = false := Boxed.frozen (Boxed.other (Boxed.new w4 _ _) (by first | omega | exact n1 | exact n2 | exact n3 | exact n4 | exact n5 | exact n6) _))))
  · have hBW : Below w2.heap.size w2 (World.alloc (World.alloc w4 (.cells #[.slice Aa na ca] 52)) (.cells #[.slice (some ⟨gB, 0, none⟩) n cpB] 52)) := And.left (by assumption)
    have hc6 : World.cell? (World.alloc (World.alloc w4 (.cells #[.slice Aa na ca] 52)) (.cells #[.slice (some ⟨gB, 0, none⟩) n cpB] 52)) ⟨w4.heap.size + 1, 0, none⟩ = some (.slice (some ⟨gB, 0, none⟩) n cpB) := by first | (simp; done) | exact World.cell?_setCell_same _ _ _ (by assumption)
    have hO6 : OwnM 5 22 (World.alloc (World.alloc w4 (.cells #[.slice Aa na ca] 52)) (.cells #[.slice (some ⟨gB, 0, none⟩) n cpB] 52)) w2.heap.size (World.heap (World.alloc (World.alloc w4 (.cells #[.slice Aa na ca] 52)) (.cells #[.slice (some ⟨gB, 0, none⟩) n cpB] 52))).size (.slice (some ⟨gB, 0, none⟩) n cpB) (mkM n n (bst F idF n n)) us := OwnM.wider ((hO.keep (turn_alloc _ _) (by first | omega | (simp at * <;> omega))).keep (turn_alloc _ _) (by first | omega | (simp at * <;> omega))) (by first | omega | (simp at * <;> omega)) (by first | (simp; done) | (simp; omega)) (Nat.le_refl _)
    have r1 := (hBW.cell (p := ⟨w.heap.size + 1, 0, none⟩) l1).trans q1
    have r1f := (hBW.frozen (p := ⟨w.heap.size + 1, 0, none⟩) l1).trans q1f
    have HO6 := Lib.hid hO6
    have HBB := Lib.hid (kB.to_below.trans (hBW.mono kB.size))
    clear hO6 hBW
    generalize (World.alloc (World.alloc w4 (.cells #[.slice Aa na ca] 52)) (.cells #[.slice (some ⟨gB, 0, none⟩) n cpB] 52)) = Wf at *
    generalize (w4.heap.size + 1) = b6 at *
    have HEQ : (((est F n n).2 : Int) == (n : Int)) = decide ((est F n n).2 = n) := natInt_beq _ _
    generalize hee : decide ((est F n n).2 = n) = db at *
    generalize (est F n n).2 = ee at *
    go_wp2_with fail
    refine bodyPost_ret (v := .tuple #[.agg #[.slice (some ⟨gB, 0, none⟩) n cpB], .bool db]) (by simp [results, Tryd.results69, go_sem, r1]) rfl ?_
    have kk := turn_setCell Wf (w.heap.size + 1) 0 (.slice (some ⟨gB, 0, none⟩) n cpB)
    have hzb := HZB.out
    have hbw := HBB.out.setCell (p := ⟨w.heap.size + 1, 0, none⟩) (Nat.le_succ _) (.slice (some ⟨gB, 0, none⟩) n cpB)
    exact ⟨_, us, rfl, (HO6.out.keep kk (by omega)).wider (by omega) (by simp) (by simp), TurnIn.of_below hbw⟩
  · have hBW : Below w2.heap.size w2 (World.alloc (World.alloc w4 (.cells #[.slice (some ⟨gB, 0, none⟩) n cpB] 52)) (.cells #[.slice Aa na ca] 52)) := And.left (by assumption)
    have hc6 : World.cell? (World.alloc (World.alloc w4 (.cells #[.slice (some ⟨gB, 0, none⟩) n cpB] 52)) (.cells #[.slice Aa na ca] 52)) ⟨w4.heap.size, 0, none⟩ = some (.slice (some ⟨gB, 0, none⟩) n cpB) := by first | (simp; done) | exact World.cell?_setCell_same _ _ _ (by assumption)
    have hO6 : OwnM 5 22 (World.alloc (World.alloc w4 (.cells #[.slice (some ⟨gB, 0, none⟩) n cpB] 52)) (.cells #[.slice Aa na ca] 52)) w2.heap.size (World.heap (World.alloc (World.alloc w4 (.cells #[.slice (some ⟨gB, 0, none⟩) n cpB] 52)) (.cells #[.slice Aa na ca] 52))).size (.slice (some ⟨gB, 0, none⟩) n cpB) (mkM n n (bst F idF n n)) us := OwnM.wider ((hO.keep (turn_alloc _ _) (by first | omega | (simp at * <;> omega))).keep (turn_alloc _ _) (by first | omega | (simp at * <;> omega))) (by first | omega | (simp at * <;> omega)) (by first | (simp; done) | (simp; omega)) (Nat.le_refl _)
    have r1 := (hBW.cell (p := ⟨w.heap.size + 1, 0, none⟩) l1).trans q1
    have r1f := (hBW.frozen (p := ⟨w.heap.size + 1, 0, none⟩) l1).trans q1f
    have HO6 := Lib.hid hO6
    have HBB := Lib.hid (kB.to_below.trans (hBW.mono kB.size))
    clear hO6 hBW
    generalize (World.alloc (World.alloc w4 (.cells #[.slice (some ⟨gB, 0, none⟩) n cpB] 52)) (.cells #[.slice Aa na ca] 52)) = Wf at *
    generalize (w4.heap.size) = b6 at *
    have HEQ : (((est F n n).2 : Int) == (n : Int)) = decide ((est F n n).2 = n) := natInt_beq _ _
    generalize hee : decide ((est F n n).2 = n) = db at *
    generalize (est F n n).2 = ee at *
    go_wp2_with fail
    refine bodyPost_ret (v := .tuple #[.agg #[.slice (some ⟨gB, 0, none⟩) n cpB], .bool db]) (by simp [results, Tryd.results69, go_sem, r1]) rfl ?_
    have kk := turn_setCell Wf (w.heap.size + 1) 0 (.slice (some ⟨gB, 0, none⟩) n cpB)
    have hzb := HZB.out
    have hbw := HBB.out.setCell (p := ⟨w.heap.size + 1, 0, none⟩) (Nat.le_succ _) (.slice (some ⟨gB, 0, none⟩) n cpB)
    exact ⟨_, us, rfl, (HO6.out.keep kk (by omega)).wider (by omega) (by simp) (by simp), TurnIn.of_below hbw⟩
  · have hBW : Below w2.heap.size w2 (World.setCell (World.setCell (World.alloc w4 (.cells #[.slice none 0 0] 52)) ⟨w3.heap.size, 0, none⟩ (.slice Aa na ca)) ⟨w4.heap.size, 0, none⟩ (.slice (some ⟨gB, 0, none⟩) n cpB)) := And.left (by assumption)
    have hc6 : World.cell? (World.setCell (World.setCell (World.alloc w4 (.cells #[.slice none 0 0] 52)) ⟨w3.heap.size, 0, none⟩ (.slice Aa na ca)) ⟨w4.heap.size, 0, none⟩ (.slice (some ⟨gB, 0, none⟩) n cpB)) ⟨w4.heap.size, 0, none⟩ = some (.slice (some ⟨gB, 0, none⟩) n cpB) := by first | (simp; done) | exact World.cell?_setCell_same _ _ _ (by assumption)
    have hO6 : OwnM 5 22 (World.setCell (World.setCell (World.alloc w4 (.cells #[.slice none 0 0] 52)) ⟨w3.heap.size, 0, none⟩ (.slice Aa na ca)) ⟨w4.heap.size, 0, none⟩ (.slice (some ⟨gB, 0, none⟩) n cpB)) w2.heap.size (World.heap (World.setCell (World.setCell (World.alloc w4 (.cells #[.slice none 0 0] 52)) ⟨w3.heap.size, 0, none⟩ (.slice Aa na ca)) ⟨w4.heap.size, 0, none⟩ (.slice (some ⟨gB, 0, none⟩) n cpB))).size (.slice (some ⟨gB, 0, none⟩) n cpB) (mkM n n (bst F idF n n)) us := OwnM.wider (((hO.keep (turn_alloc _ _) (by first | omega | (simp at * <;> omega))).keep (turn_setCell _ _ 0 _) (by first | omega | (simp at * <;> omega))).keep (turn_setCell _ _ 0 _) (by first | omega | (simp at * <;> omega))) (by first | omega | (simp at * <;> omega)) (by first | (simp; done) | (simp; omega)) (Nat.le_refl _)
    have r1 := (hBW.cell (p := ⟨w.heap.size + 1, 0, none⟩) l1).trans q1
    have r1f := (hBW.frozen (p := ⟨w.heap.size + 1, 0, none⟩) l1).trans q1f
    have HO6 := Lib.hid hO6
    have HBB := Lib.hid (kB.to_below.trans (hBW.mono kB.size))
    clear hO6 hBW
    generalize (World.setCell (World.setCell (World.alloc w4 (.cells #[.slice none 0 0] 52)) ⟨w3.heap.size, 0, none⟩ (.slice Aa na ca)) ⟨w4.heap.size, 0, none⟩ (.slice (some ⟨gB, 0, none⟩) n cpB)) = Wf at *
    generalize (w4.heap.size) = b6 at *
    have HEQ : (((est F n n).2 : Int) == (n : Int)) = decide ((est F n n).2 = n) := natInt_beq _ _
    generalize hee : decide ((est F n n).2 = n) = db at *
    generalize (est F n n).2 = ee at *
    go_wp2_with fail
    refine bodyPost_ret (v := .tuple #[.agg #[.slice (some ⟨gB, 0, none⟩) n cpB], .bool db]) (by simp [results, Tryd.results69, go_sem, r1]) rfl ?_
    have kk := turn_setCell Wf (w.heap.size + 1) 0 (.slice (some ⟨gB, 0, none⟩) n cpB)
    have hzb := HZB.out
    have hbw := HBB.out.setCell (p := ⟨w.heap.size + 1, 0, none⟩) (Nat.le_succ _) (.slice (some ⟨gB, 0, none⟩) n cpB)
    exact ⟨_, us, rfl, (HO6.out.keep kk (by omega)).wider (by omega) (by simp) (by simp), TurnIn.of_below hbw⟩
  · have hBW : Below w2.heap.size w2 (World.setCell (World.setCell w4 ⟨w3.heap.size, 0, none⟩ (.slice Aa na ca)) ⟨w3.heap.size + 1, 0, none⟩ (.slice (some ⟨gB, 0, none⟩) n cpB)) := And.left (by assumption)
    have hc6 : World.cell? (World.setCell (World.setCell w4 ⟨w3.heap.size, 0, none⟩ (.slice Aa na ca)) ⟨w3.heap.size + 1, 0, none⟩ (.slice (some ⟨gB, 0, none⟩) n cpB)) ⟨w3.heap.size + 1, 0, none⟩ = some (.slice (some ⟨gB, 0, none⟩) n cpB) := by first | (simp; done) | exact World.cell?_setCell_same _ _ _ (by assumption)
    have hO6 : OwnM 5 22 (World.setCell (World.setCell w4 ⟨w3.heap.size, 0, none⟩ (.slice Aa na ca)) ⟨w3.heap.size + 1, 0, none⟩ (.slice (some ⟨gB, 0, none⟩) n cpB)) w2.heap.size (World.heap (World.setCell (World.setCell w4 ⟨w3.heap.size, 0, none⟩ (.slice Aa na ca)) ⟨w3.heap.size + 1, 0, none⟩ (.slice (some ⟨gB, 0, none⟩) n cpB))).size (.slice (some ⟨gB, 0, none⟩) n cpB) (mkM n n (bst F idF n n)) us := OwnM.wider ((hO.keep (turn_setCell _ _ 0 _) (by first | omega | (simp at * <;> omega))).keep (turn_setCell _ _ 0 _) (by first | omega | (simp at * <;> omega))) (by first | omega | (simp at * <;> omega)) (by first | (simp; done) | (simp; omega)) (Nat.le_refl _)
    have r1 := (hBW.cell (p := ⟨w.heap.size + 1, 0, none⟩) l1).trans q1
    have r1f := (hBW.frozen (p := ⟨w.heap.size + 1, 0, none⟩) l1).trans q1f
    have HO6 := Lib.hid hO6
    have HBB := Lib.hid (kB.to_below.trans (hBW.mono kB.size))
    clear hO6 hBW
    generalize (World.setCell (World.setCell w4 ⟨w3.heap.size, 0, none⟩ (.slice Aa na ca)) ⟨w3.heap.size + 1, 0, none⟩ (.slice (some ⟨gB, 0, none⟩) n cpB)) = Wf at *
    generalize (w3.heap.size + 1) = b6 at *
    have HEQ : (((est F n n).2 : Int) == (n : Int)) = decide ((est F n n).2 = n) := natInt_beq _ _
    generalize hee : decide ((est F n n).2 = n) = db at *
    generalize (est F n n).2 = ee at *
    go_wp2_with fail
    refine bodyPost_ret (v := .tuple #[.agg #[.slice (some ⟨gB, 0, none⟩) n cpB], .bool db]) (by simp [results, Tryd.results69, go_sem, r1]) rfl ?_
    have kk := turn_setCell Wf (w.heap.size + 1) 0 (.slice (some ⟨gB, 0, none⟩) n cpB)
    have hzb := HZB.out
    have hbw := HBB.out.setCell (p := ⟨w.heap.size + 1, 0, none⟩) (Nat.le_succ _) (.slice (some ⟨gB, 0, none⟩) n cpB)
    exact ⟨_, us, rfl, (HO6.out.keep kk (by omega)).wider (by omega) (by simp) (by simp), TurnIn.of_below hbw⟩
  · have hBW : Below w2.heap.size w2 (World.setCell (World.alloc w4 (.cells #[.slice Aa na ca] 52)) ⟨w3.heap.size, 0, none⟩ (.slice (some ⟨gB, 0, none⟩) n cpB)) := And.left (by assumption)
    have hc6 : World.cell? (World.setCell (World.alloc w4 (.cells #[.slice Aa na ca] 52)) ⟨w3.heap.size, 0, none⟩ (.slice (some ⟨gB, 0, none⟩) n cpB)) ⟨w3.heap.size, 0, none⟩ = some (.slice (some ⟨gB, 0, none⟩) n cpB) := by first | (simp; done) | exact World.cell?_setCell_same _ _ _ (by assumption)
    have hO6 : OwnM 5 22 (World.setCell (World.alloc w4 (.cells #[.slice Aa na ca] 52)) ⟨w3.heap.size, 0, none⟩ (.slice (some ⟨gB, 0, none⟩) n cpB)) w2.heap.size (World.heap (World.setCell (World.alloc w4 (.cells #[.slice Aa na ca] 52)) ⟨w3.heap.size, 0, none⟩ (.slice (some ⟨gB, 0, none⟩) n cpB))).size (.slice (some ⟨gB, 0, none⟩) n cpB) (mkM n n (bst F idF n n)) us := OwnM.wider ((hO.keep (turn_alloc _ _) (by first | omega | (simp at * <;> omega))).keep (turn_setCell _ _ 0 _) (by first | omega | (simp at * <;> omega))) (by first | omega | (simp at * <;> omega)) (by first | (simp; done) | (simp; omega)) (Nat.le_refl _)
    have r1 := (hBW.cell (p := ⟨w.heap.size + 1, 0, none⟩) l1).trans q1
    have r1f := (hBW.frozen (p := ⟨w.heap.size + 1, 0, none⟩) l1).trans q1f
    have HO6 := Lib.hid hO6
    have HBB := Lib.hid (kB.to_below.trans (hBW.mono kB.size))
    clear hO6 hBW
    generalize (World.setCell (World.alloc w4 (.cells #[.slice Aa na ca] 52)) ⟨w3.heap.size, 0, none⟩ (.slice (some ⟨gB, 0, none⟩) n cpB)) = Wf at *
    generalize (w3.heap.size) = b6 at *
    have HEQ : (((est F n n).2 : Int) == (n : Int)) = decide ((est F n n).2 = n) := natInt_beq _ _
    generalize hee : decide ((est F n n).2 = n) = db at *
    generalize (est F n n).2 = ee at *
    go_wp2_with fail
    refine bodyPost_ret (v := .tuple #[.agg #[.slice (some ⟨gB, 0, none⟩) n cpB], .bool db]) (by simp [results, Tryd.results69, go_sem, r1]) rfl ?_
    have kk := turn_setCell Wf (w.heap.size + 1) 0 (.slice (some ⟨gB, 0, none⟩) n cpB)
    have hzb := HZB.out
    have hbw := HBB.out.setCell (p := ⟨w.heap.size + 1, 0, none⟩) (Nat.le_succ _) (.slice (some ⟨gB, 0, none⟩) n cpB)
    exact ⟨_, us, rfl, (HO6.out.keep kk (by omega)).wider (by omega) (by simp) (by simp), TurnIn.of_below hbw⟩
  · have hBW : Below w2.heap.size w2 (World.setCell (World.setCell w4 ⟨w3.heap.size + 1, 0, none⟩ (.slice Aa na ca)) ⟨w3.heap.size, 0, none⟩ (.slice (some ⟨gB, 0, none⟩) n cpB)) := And.left (by assumption)
    have hc6 : World.cell? (World.setCell (World.setCell w4 ⟨w3.heap.size + 1, 0, none⟩ (.slice Aa na ca)) ⟨w3.heap.size, 0, none⟩ (.slice (some ⟨gB, 0, none⟩) n cpB)) ⟨w3.heap.size, 0, none⟩ = some (.slice (some ⟨gB, 0, none⟩) n cpB) := by first | (simp; done) | exact World.cell?_setCell_same _ _ _ (by assumption)
    have hO6 : OwnM 5 22 (World.setCell (World.setCell w4 ⟨w3.heap.size + 1, 0, none⟩ (.slice Aa na ca)) ⟨w3.heap.size, 0, none⟩ (.slice (some ⟨gB, 0, none⟩) n cpB)) w2.heap.size (World.heap (World.setCell (World.setCell w4 ⟨w3.heap.size + 1, 0, none⟩ (.slice Aa na ca)) ⟨w3.heap.size, 0, none⟩ (.slice (some ⟨gB, 0, none⟩) n cpB))).size (.slice (some ⟨gB, 0, none⟩) n cpB) (mkM n n (bst F idF n n)) us := OwnM.wider ((hO.keep (turn_setCell _ _ 0 _) (by first | omega | (simp at * <;> omega))).keep (turn_setCell _ _ 0 _) (by first | omega | (simp at * <;> omega))) (by first | omega | (simp at * <;> omega)) (by first | (simp; done) | (simp; omega)) (Nat.le_refl _)
    have r1 := (hBW.cell (p := ⟨w.heap.size + 1, 0, none⟩) l1).trans q1
    have r1f := (hBW.frozen (p := ⟨w.heap.size + 1, 0, none⟩) l1).trans q1f
    have HO6 := Lib.hid hO6
    have HBB := Lib.hid (kB.to_below.trans (hBW.mono kB.size))
    clear hO6 hBW
    generalize (World.setCell (World.setCell w4 ⟨w3.heap.size + 1, 0, none⟩ (.slice Aa na ca)) ⟨w3.heap.size, 0, none⟩ (.slice (some ⟨gB, 0, none⟩) n cpB)) = Wf at *
    generalize (w3.heap.size) = b6 at *
    have HEQ : (((est F n n).2 : Int) == (n : Int)) = decide ((est F n n).2 = n) := natInt_beq _ _
    generalize hee : decide ((est F n n).2 = n) = db at *
    generalize (est F n n).2 = ee at *
    go_wp2_with fail
    refine bodyPost_ret (v := .tuple #[.agg #[.slice (some ⟨gB, 0, none⟩) n cpB], .bool db]) (by simp [results, Tryd.results69, go_sem, r1]) rfl ?_
    have kk := turn_setCell Wf (w.heap.size + 1) 0 (.slice (some ⟨gB, 0, none⟩) n cpB)
    have hzb := HZB.out
    have hbw := HBB.out.setCell (p := ⟨w.heap.size + 1, 0, none⟩) (Nat.le_succ _) (.slice (some ⟨gB, 0, none⟩) n cpB)
    exact ⟨_, us, rfl, (HO6.out.keep kk (by omega)).wider (by omega) (by simp) (by simp), TurnIn.of_below hbw⟩
  · have hBW : Below w2.heap.size w2 (World.setCell (World.setCell (World.alloc w4 (.cells #[.slice none 0 0] 52)) ⟨w2.heap.size, 0, none⟩ (.slice Aa na ca)) ⟨w4.heap.size, 0, none⟩ (.slice (some ⟨gB, 0, none⟩) n cpB)) := And.left (by assumption)
    have hc6 : World.cell? (World.setCell (World.setCell (World.alloc w4 (.cells #[.slice none 0 0] 52)) ⟨w2.heap.size, 0, none⟩ (.slice Aa na ca)) ⟨w4.heap.size, 0, none⟩ (.slice (some ⟨gB, 0, none⟩) n cpB)) ⟨w4.heap.size, 0, none⟩ = some (.slice (some ⟨gB, 0, none⟩) n cpB) := by first | (simp; done) | exact World.cell?_setCell_same _ _ _ (by assumption)
    have hO6 : OwnM 5 22 (World.setCell (World.setCell (World.alloc w4 (.cells #[.slice none 0 0] 52)) ⟨w2.heap.size, 0, none⟩ (.slice Aa na ca)) ⟨w4.heap.size, 0, none⟩ (.slice (some ⟨gB, 0, none⟩) n cpB)) w2.heap.size (World.heap (World.setCell (World.setCell (World.alloc w4 (.cells #[.slice none 0 0] 52)) ⟨w2.heap.size, 0, none⟩ (.slice Aa na ca)) ⟨w4.heap.size, 0, none⟩ (.slice (some ⟨gB, 0, none⟩) n cpB))).size (.slice (some ⟨gB, 0, none⟩) n cpB) (mkM n n (bst F idF n n)) us := OwnM.wider (((hO.keep (turn_alloc _ _) (by first | omega | (simp at * <;> omega))).keep (turn_setCell _ _ 0 _) (by first | omega | (simp at * <;> omega))).keep (turn_setCell _ _ 0 _) (by first | omega | (simp at * <;> omega))) (by first | omega | (simp at * <;> omega)) (by first | (simp; done) | (simp; omega)) (Nat.le_refl _)
    have r1 := (hBW.cell (p := ⟨w.heap.size + 1, 0, none⟩) l1).trans q1
    have r1f := (hBW.frozen (p := ⟨w.heap.size + 1, 0, none⟩) l1).trans q1f
    have HO6 := Lib.hid hO6
    have HBB := Lib.hid (kB.to_below.trans (hBW.mono kB.size))
    clear hO6 hBW
    generalize (World.setCell (World.setCell (World.alloc w4 (.cells #[.slice none 0 0] 52)) ⟨w2.heap.size, 0, none⟩ (.slice Aa na ca)) ⟨w4.heap.size, 0, none⟩ (.slice (some ⟨gB, 0, none⟩) n cpB)) = Wf at *
    generalize (w4.heap.size) = b6 at *
    have HEQ : (((est F n n).2 : Int) == (n : Int)) = decide ((est F n n).2 = n) := natInt_beq _ _
    generalize hee : decide ((est F n n).2 = n) = db at *
    generalize (est F n n).2 = ee at *
    go_wp2_with fail
    refine bodyPost_ret (v := .tuple #[.agg #[.slice (some ⟨gB, 0, none⟩) n cpB], .bool db]) (by simp [results, Tryd.results69, go_sem, r1]) rfl ?_
    have kk := turn_setCell Wf (w.heap.size + 1) 0 (.slice (some ⟨gB, 0, none⟩) n cpB)
    have hzb := HZB.out
    have hbw := HBB.out.setCell (p := ⟨w.heap.size + 1, 0, none⟩) (Nat.le_succ _) (.slice (some ⟨gB, 0, none⟩) n cpB)
    exact ⟨_, us, rfl, (HO6.out.keep kk (by omega)).wider (by omega) (by simp) (by simp), TurnIn.of_below hbw⟩
  · have hBW : Below w2.heap.size w2 (World.setCell (World.setCell w4 ⟨w2.heap.size, 0, none⟩ (.slice Aa na ca)) ⟨w3.heap.size, 0, none⟩ (.slice (some ⟨gB, 0, none⟩) n cpB)) := And.left (by assumption)
    have hc6 : World.cell? (World.setCell (World.setCell w4 ⟨w2.heap.size, 0, none⟩ (.slice Aa na ca)) ⟨w3.heap.size, 0, none⟩ (.slice (some ⟨gB, 0, none⟩) n cpB)) ⟨w3.heap.size, 0, none⟩ = some (.slice (some ⟨gB, 0, none⟩) n cpB) := by first | (simp; done) | exact World.cell?_setCell_same _ _ _ (by assumption)
    have hO6 : OwnM 5 22 (World.setCell (World.setCell w4 ⟨w2.heap.size, 0, none⟩ (.slice Aa na ca)) ⟨w3.heap.size, 0, none⟩ (.slice (some ⟨gB, 0, none⟩) n cpB)) w2.heap.size (World.heap (World.setCell (World.setCell w4 ⟨w2.heap.size, 0, none⟩ (.slice Aa na ca)) ⟨w3.heap.size, 0, none⟩ (.slice (some ⟨gB, 0, none⟩) n cpB))).size (.slice (some ⟨gB, 0, none⟩) n cpB) (mkM n n (bst F idF n n)) us := OwnM.wider ((hO.keep (turn_setCell _ _ 0 _) (by first | omega | (simp at * <;> omega))).keep (turn_setCell _ _ 0 _) (by first | omega | (simp at * <;> omega))) (by first | omega | (simp at * <;> omega)) (by first | (simp; done) | (simp; omega)) (Nat.le_refl _)
    have r1 := (hBW.cell (p := ⟨w.heap.size + 1, 0, none⟩) l1).trans q1
    have r1f := (hBW.frozen (p := ⟨w.heap.size + 1, 0, none⟩) l1).trans q1f
    have HO6 := Lib.hid hO6
    have HBB := Lib.hid (kB.to_below.trans (hBW.mono kB.size))
    clear hO6 hBW
    generalize (World.setCell (World.setCell w4 ⟨w2.heap.size, 0, none⟩ (.slice Aa na ca)) ⟨w3.heap.size, 0, none⟩ (.slice (some ⟨gB, 0, none⟩) n cpB)) = Wf at *
    generalize (w3.heap.size) = b6 at *
    have HEQ : (((est F n n).2 : Int) == (n : Int)) = decide ((est F n n).2 = n) := natInt_beq _ _
    generalize hee : decide ((est F n n).2 = n) = db at *
    generalize (est F n n).2 = ee at *
    go_wp2_with fail
    refine bodyPost_ret (v := .tuple #[.agg #[.slice (some ⟨gB, 0, none⟩) n cpB], .bool db]) (by simp [results, Tryd.results69, go_sem, r1]) rfl ?_
    have kk := turn_setCell Wf (w.heap.size + 1) 0 (.slice (some ⟨gB, 0, none⟩) n cpB)
    have hzb := HZB.out
    have hbw := HBB.out.setCell (p := ⟨w.heap.size + 1, 0, none⟩) (Nat.le_succ _) (.slice (some ⟨gB, 0, none⟩) n cpB)
    exact ⟨_, us, rfl, (HO6.out.keep kk (by omega)).wider (by omega) (by simp) (by simp), TurnIn.of_below hbw⟩
  · have hBW : Below w2.heap.size w2 (World.setCell (World.setCell w4 ⟨w2.heap.size, 0, none⟩ (.slice Aa na ca)) ⟨w2.heap.size + 1, 0, none⟩ (.slice (some ⟨gB, 0, none⟩) n cpB)) := And.left (by assumption)
    have hc6 : World.cell? (World.setCell (World.setCell w4 ⟨w2.heap.size, 0, none⟩ (.slice Aa na ca)) ⟨w2.heap.size + 1, 0, none⟩ (.slice (some ⟨gB, 0, none⟩) n cpB)) ⟨w2.heap.size + 1, 0, none⟩ = some (.slice (some ⟨gB, 0, none⟩) n cpB) := by first | (simp; done) | exact World.cell?_setCell_same _ _ _ (by assumption)
    have hO6 : OwnM 5 22 (World.setCell (World.setCell w4 ⟨w2.heap.size, 0, none⟩ (.slice Aa na ca)) ⟨w2.heap.size + 1, 0, none⟩ (.slice (some ⟨gB, 0, none⟩) n cpB)) w2.heap.size (World.heap (World.setCell (World.setCell w4 ⟨w2.heap.size, 0, none⟩ (.slice Aa na ca)) ⟨w2.heap.size + 1, 0, none⟩ (.slice (some ⟨gB, 0, none⟩) n cpB))).size (.slice (some ⟨gB, 0, none⟩) n cpB) (mkM n n (bst F idF n n)) us := OwnM.wider ((hO.keep (turn_setCell _ _ 0 _) (by first | omega | (simp at * <;> omega))).keep (turn_setCell _ _ 0 _) (by first | omega | (simp at * <;> omega))) (by first | omega | (simp at * <;> omega)) (by first | (simp; done) | (simp; omega)) (Nat.le_refl _)
    have r1 := (hBW.cell (p := ⟨w.heap.size + 1, 0, none⟩) l1).trans q1
    have r1f := (hBW.frozen (p := ⟨w.heap.size + 1, 0, none⟩) l1).trans q1f
    have HO6 := Lib.hid hO6
    have HBB := Lib.hid (kB.to_below.trans (hBW.mono kB.size))
    clear hO6 hBW
    generalize (World.setCell (World.setCell w4 ⟨w2.heap.size, 0, none⟩ (.slice Aa na ca)) ⟨w2.heap.size + 1, 0, none⟩ (.slice (some ⟨gB, 0, none⟩) n cpB)) = Wf at *
    generalize (w2.heap.size + 1) = b6 at *
    have HEQ : (((est F n n).2 : Int) == (n : Int)) = decide ((est F n n).2 = n) := natInt_beq _ _
    generalize hee : decide ((est F n n).2 = n) = db at *
    generalize (est F n n).2 = ee at *
    go_wp2_with fail
    refine bodyPost_ret (v := .tuple #[.agg #[.slice (some ⟨gB, 0, none⟩) n cpB], .bool db]) (by simp [results, Tryd.results69, go_sem, r1]) rfl ?_
    have kk := turn_setCell Wf (w.heap.size + 1) 0 (.slice (some ⟨gB, 0, none⟩) n cpB)
    have hzb := HZB.out
    have hbw := HBB.out.setCell (p := ⟨w.heap.size + 1, 0, none⟩) (Nat.le_succ _) (.slice (some ⟨gB, 0, none⟩) n cpB)
    exact ⟨_, us, rfl, (HO6.out.keep kk (by omega)).wider (by omega) (by simp) (by simp), TurnIn.of_below hbw⟩
  · have hBW : Below w2.heap.size w2 (World.setCell (World.alloc w4 (.cells #[.slice Aa na ca] 52)) ⟨w2.heap.size, 0, none⟩ (.slice (some ⟨gB, 0, none⟩) n cpB)) := And.left (by assumption)
    have hc6 : World.cell? (World.setCell (World.alloc w4 (.cells #[.slice Aa na ca] 52)) ⟨w2.heap.size, 0, none⟩ (.slice (some ⟨gB, 0, none⟩) n cpB)) ⟨w2.heap.size, 0, none⟩ = some (.slice (some ⟨gB, 0, none⟩) n cpB) := by first | (simp; done) | exact World.cell?_setCell_same _ _ _ (by assumption)
    have hO6 : OwnM 5 22 (World.setCell (World.alloc w4 (.cells #[.slice Aa na ca] 52)) ⟨w2.heap.size, 0, none⟩ (.slice (some ⟨gB, 0, none⟩) n cpB)) w2.heap.size (World.heap (World.setCell (World.alloc w4 (.cells #[.slice Aa na ca] 52)) ⟨w2.heap.size, 0, none⟩ (.slice (some ⟨gB, 0, none⟩) n cpB))).size (.slice (some ⟨gB, 0, none⟩) n cpB) (mkM n n (bst F idF n n)) us := OwnM.wider ((hO.keep (turn_alloc _ _) (by first | omega | (simp at * <;> omega))).keep (turn_setCell _ _ 0 _) (by first | omega | (simp at * <;> omega))) (by first | omega | (simp at * <;> omega)) (by first | (simp; done) | (simp; omega)) (Nat.le_refl _)
    have r1 := (hBW.cell (p := ⟨w.heap.size + 1, 0, none⟩) l1).trans q1
    have r1f := (hBW.frozen (p := ⟨w.heap.size + 1, 0, none⟩) l1).trans q1f
    have HO6 := Lib.hid hO6
    have HBB := Lib.hid (kB.to_below.trans (hBW.mono kB.size))
    clear hO6 hBW
    generalize (World.setCell (World.alloc w4 (.cells #[.slice Aa na ca] 52)) ⟨w2.heap.size, 0, none⟩ (.slice (some ⟨gB, 0, none⟩) n cpB)) = Wf at *
    generalize (w2.heap.size) = b6 at *
    have HEQ : (((est F n n).2 : Int) == (n : Int)) = decide ((est F n n).2 = n) := natInt_beq _ _
    generalize hee : decide ((est F n n).2 = n) = db at *
    generalize (est F n n).2 = ee at *
    go_wp2_with fail
    refine bodyPost_ret (v := .tuple #[.agg #[.slice (some ⟨gB, 0, none⟩) n cpB], .bool db]) (by simp [results, Tryd.results69, go_sem, r1]) rfl ?_
    have kk := turn_setCell Wf (w.heap.size + 1) 0 (.slice (some ⟨gB, 0, none⟩) n cpB)
    have hzb := HZB.out
    have hbw := HBB.out.setCell (p := ⟨w.heap.size + 1, 0, none⟩) (Nat.le_succ _) (.slice (some ⟨gB, 0, none⟩) n cpB)
    exact ⟨_, us, rfl, (HO6.out.keep kk (by omega)).wider (by omega) (by simp) (by simp), TurnIn.of_below hbw⟩
  · have hBW : Below w2.heap.size w2 (World.setCell (World.setCell w4 ⟨w3.heap.size, 0, none⟩ (.slice Aa na ca)) ⟨w2.heap.size, 0, none⟩ (.slice (some ⟨gB, 0, none⟩) n cpB)) := And.left (by assumption)
    have hc6 : World.cell? (World.setCell (World.setCell w4 ⟨w3.heap.size, 0, none⟩ (.slice Aa na ca)) ⟨w2.heap.size, 0, none⟩ (.slice (some ⟨gB, 0, none⟩) n cpB)) ⟨w2.heap.size, 0, none⟩ = some (.slice (some ⟨gB, 0, none⟩) n cpB) := by first | (simp; done) | exact World.cell?_setCell_same _ _ _ (by assumption)
    have hO6 : OwnM 5 22 (World.setCell (World.setCell w4 ⟨w3.heap.size, 0, none⟩ (.slice Aa na ca)) ⟨w2.heap.size, 0, none⟩ (.slice (some ⟨gB, 0, none⟩) n cpB)) w2.heap.size (World.heap (World.setCell (World.setCell w4 ⟨w3.heap.size, 0, none⟩ (.slice Aa na ca)) ⟨w2.heap.size, 0, none⟩ (.slice (some ⟨gB, 0, none⟩) n cpB))).size (.slice (some ⟨gB, 0, none⟩) n cpB) (mkM n n (bst F idF n n)) us := OwnM.wider ((hO.keep (turn_setCell _ _ 0 _) (by first | omega | (simp at * <;> omega))).keep (turn_setCell _ _ 0 _) (by first | omega | (simp at * <;> omega))) (by first | omega | (simp at * <;> omega)) (by first | (simp; done) | (simp; omega)) (Nat.le_refl _)
    have r1 := (hBW.cell (p := ⟨w.heap.size + 1, 0, none⟩) l1).trans q1
    have r1f := (hBW.frozen (p := ⟨w.heap.size + 1, 0, none⟩) l1).trans q1f
    have HO6 := Lib.hid hO6
    have HBB := Lib.hid (kB.to_below.trans (hBW.mono kB.size))
    clear hO6 hBW
    generalize (World.setCell (World.setCell w4 ⟨w3.heap.size, 0, none⟩ (.slice Aa na ca)) ⟨w2.heap.size, 0, none⟩ (.slice (some ⟨gB, 0, none⟩) n cpB)) = Wf at *
    generalize (w2.heap.size) = b6 at *
    have HEQ : (((est F n n).2 : Int) == (n : Int)) = decide ((est F n n).2 = n) := natInt_beq _ _
    generalize hee : decide ((est F n n).2 = n) = db at *
    generalize (est F n n).2 = ee at *
    go_wp2_with fail
    refine bodyPost_ret (v := .tuple #[.agg #[.slice (some ⟨gB, 0, none⟩) n cpB], .bool db]) (by simp [results, Tryd.results69, go_sem, r1]) rfl ?_
    have kk := turn_setCell Wf (w.heap.size + 1) 0 (.slice (some ⟨gB, 0, none⟩) n cpB)
    have hzb := HZB.out
    have hbw := HBB.out.setCell (p := ⟨w.heap.size + 1, 0, none⟩) (Nat.le_succ _) (.slice (some ⟨gB, 0, none⟩) n cpB)
    exact ⟨_, us, rfl, (HO6.out.keep kk (by omega)).wider (by omega) (by simp) (by simp), TurnIn.of_below hbw⟩
  · have hBW : Below w2.heap.size w2 (World.setCell (World.setCell w4 ⟨w2.heap.size + 1, 0, none⟩ (.slice Aa na ca)) ⟨w2.heap.size, 0, none⟩ (.slice (some ⟨gB, 0, none⟩) n cpB)) := And.left (by assumption)
    have hc6 : World.cell? (World.setCell (World.setCell w4 ⟨w2.heap.size + 1, 0, none⟩ (.slice Aa na ca)) ⟨w2.heap.size, 0, none⟩ (.slice (some ⟨gB, 0, none⟩) n cpB)) ⟨w2.heap.size, 0, none⟩ = some (.slice (some ⟨gB, 0, none⟩) n cpB) := by first | (simp; done) | exact World.cell?_setCell_same _ _ _ (by assumption)
    have hO6 : OwnM 5 22 (World.setCell (World.setCell w4 ⟨w2.heap.size + 1, 0, none⟩ (.slice Aa na ca)) ⟨w2.heap.size, 0, none⟩ (.slice (some ⟨gB, 0, none⟩) n cpB)) w2.heap.size (World.heap (World.setCell (World.setCell w4 ⟨w2.heap.size + 1, 0, none⟩ (.slice Aa na ca)) ⟨w2.heap.size, 0, none⟩ (.slice (some ⟨gB, 0, none⟩) n cpB))).size (.slice (some ⟨gB, 0, none⟩) n cpB) (mkM n n (bst F idF n n)) us := OwnM.wider ((hO.keep (turn_setCell _ _ 0 _) (by first | omega | (simp at * <;> omega))).keep (turn_setCell _ _ 0 _) (by first | omega | (simp at * <;> omega))) (by first | omega | (simp at * <;> omega)) (by first | (simp; done) | (simp; omega)) (Nat.le_refl _)
    have r1 := (hBW.cell (p := ⟨w.heap.size + 1, 0, none⟩) l1).trans q1
    have r1f := (hBW.frozen (p := ⟨w.heap.size + 1, 0, none⟩) l1).trans q1f
    have HO6 := Lib.hid hO6
    have HBB := Lib.hid (kB.to_below.trans (hBW.mono kB.size))
    clear hO6 hBW
    generalize (World.setCell (World.setCell w4 ⟨w2.heap.size + 1, 0, none⟩ (.slice Aa na ca)) ⟨w2.heap.size, 0, none⟩ (.slice (some ⟨gB, 0, none⟩) n cpB)) = Wf at *
    generalize (w2.heap.size) = b6 at *
    have HEQ : (((est F n n).2 : Int) == (n : Int)) = decide ((est F n n).2 = n) := natInt_beq _ _
    generalize hee : decide ((est F n n).2 = n) = db at *
    generalize (est F n n).2 = ee at *
    go_wp2_with fail
    refine bodyPost_ret (v := .tuple #[.agg #[.slice (some ⟨gB, 0, none⟩) n cpB], .bool db]) (by simp [results, Tryd.results69, go_sem, r1]) rfl ?_
    have kk := turn_setCell Wf (w.heap.size + 1) 0 (.slice (some ⟨gB, 0, none⟩) n cpB)
    have hzb := HZB.out
    have hbw := HBB.out.setCell (p := ⟨w.heap.size + 1, 0, none⟩) (Nat.le_succ _) (.slice (some ⟨gB, 0, none⟩) n cpB)
    exact ⟨_, us, rfl, (HO6.out.keep kk (by omega)).wider (by omega) (by simp) (by simp), TurnIn.of_below hbw⟩

end Go.Proofs.YtlkoafnlklhaeabDoor

/- What a function that fills a matrix keeps, wherever its variable lies. -/
namespace G294
open Go Go.RowKit
theorem RetMat.base {E EE : TypeId} {w w1 w' : World} {L : Mat} {e : Ending} (h : RetMat E EE w1 L e w') (hb : Below w.heap.size w w1) : RetMat E EE w L e w' := by
  obtain ⟨v, vs, he, h1, h2⟩ := h
  exact ⟨v, vs, he, h1.wider hb.size (Nat.le_refl _) (Nat.le_refl _), turn_of_below hb h2⟩
/-- rows, the variable (block B) that holds them, the variable of the result (block R), old memory -/
structure Fill2 (E EE : TypeId) (w wr : World) (R B : Nat) (v : Value) (L : Mat) (vs : List Value) : Prop where
  own : ∃ lo hi, OwnM E EE wr lo hi v L vs ∧ w.heap.size ≤ lo ∧ (R < lo ∨ hi ≤ R) ∧ (B < lo ∨ hi ≤ B)
  var : wr.cell? ⟨B, 0, none⟩ = some v
  res : wr.cell? ⟨R, 0, none⟩ = some (.slice none 0 0)
  resf : wr.frozen? ⟨R, 0, none⟩ = false
  old : Below w.heap.size w wr
  size : B < wr.heap.size ∧ R < wr.heap.size
  lo : w.heap.size ≤ B ∧ w.heap.size ≤ R
section
variable {E EE : TypeId} {w wr : World} {R B : Nat} {v : Value} {L L' : Mat} {vs : List Value}
theorem Fill2.drewN (h : Fill2 E EE w wr R B v L vs) (q : Nat) : Fill2 E EE w (wr.drewN q) R B v L vs := by
  obtain ⟨lo, hi, h1, h2⟩ := h.own
  exact ⟨⟨lo, hi, h1.drewN q, h2⟩, h.var, h.res, h.resf, below_drewN h.old q, h.size, h.lo⟩
theorem Fill2.congr (h : Fill2 E EE w wr R B v L vs) (e : L = L') : Fill2 E EE w wr R B v L' vs := e ▸ h
theorem Fill2.storeF {r c k j bb m cap' : Nat} {F : Ents} {x : UInt8} (h : Fill2 E EE w wr R B v (mkM r c F) vs) (hk : k < r) (hu : vs[k]? = some (.slice (some ⟨bb, 0, none⟩) m cap')) :
    Fill2 E EE w (wr.setCell ⟨bb, j, none⟩ (.int .u8 (x.toNat : Int))) R B v (mkM r c fun i jj => if i = k ∧ jj = j then x else F i jj) vs := by
  obtain ⟨lo, hi, h1, h2, h3, h4⟩ := h.own
  have ho := h1.rows k _ hu
  have e1 := (ho.1.lt bb rfl).1
  have e2 := ho.2.2 bb rfl
  exact ⟨⟨lo, hi, h1.storeF hk hu, h2, h3, h4⟩, (cell_set_other wr _ _ _ (by omega)).trans h.var, (cell_set_other wr _ _ _ (by omega)).trans h.res, (frozen_set_other wr _ _ _ (by omega)).trans h.resf, h.old.setCell (show w.heap.size ≤ bb by omega) _, by simpa using h.size, h.lo⟩
theorem Fill2.rowF {r c : Nat} {F : Ents} (h : Fill2 E EE w wr R B v (mkM r c F) vs) (k : Nat) (hk : k < r) (hc : 0 < c) : ∃ bb cp, vs[k]? = some (.slice (some ⟨bb, 0, none⟩) c cp) ∧ w.heap.size ≤ bb ∧ bb < wr.heap.size ∧ bb ≠ R ∧ bb ≠ B ∧ v.ownBlock ≠ some bb ∧ c ≤ cp ∧ cp ≤ maxLen ∧
    (∀ j, wr.frozen? ⟨bb, j, none⟩ = false) ∧ ∀ j, j < c → wr.cell? ⟨bb, j, none⟩ = some (.int .u8 ((F k j).toNat : Int)) := by
  obtain ⟨lo, hi, h1, h2, h3, h4⟩ := h.own
  obtain ⟨bb, cp, a1, a2, a3, a4, a5, a6, a7, a8⟩ := h1.rowF k hk hc
  have := h1.top
  exact ⟨bb, cp, a1, by omega, by omega, by omega, by omega, a4, a5, a6, a7, a8⟩
theorem Fill2.cellAt {g n cap k : Nat} {u : Value} (h : Fill2 E EE w wr R B (.slice (some ⟨g, 0, none⟩) n cap) L vs) (hk : vs[k]? = some u) : wr.cell? ⟨g, k, none⟩ = some u := by
  obtain ⟨lo, hi, h1, _⟩ := h.own
  exact h1.cellAt hk
theorem Fill2.vblock {g n cap : Nat} (h : Fill2 E EE w wr R B (.slice (some ⟨g, 0, none⟩) n cap) L vs) : w.heap.size ≤ g ∧ g ≠ R ∧ g ≠ B := by
  obtain ⟨lo, hi, h1, h2, h3, h4⟩ := h.own
  have e1 := (h1.row.lt g rfl).1
  have e2 := h1.out g rfl
  exact ⟨by omega, by omega, by omega⟩
/-- the variable is made behind the rows -/
theorem Fill2.late {w1 w2 : World} {t : TypeId} {lo : Nat} (hw2 : w2 = w1.alloc (.cells #[v] t)) (hM : OwnM E EE w1 lo w1.heap.size v L vs) (hlo : w.heap.size ≤ lo) (hR : R < lo ∧ w.heap.size ≤ R) (hc : w1.cell? ⟨R, 0, none⟩ = some (.slice none 0 0)) (hf : w1.frozen? ⟨R, 0, none⟩ = false)
    (hb : Below w.heap.size w w1) (hs : R < w1.heap.size) : Fill2 E EE w w2 R w1.heap.size v L vs := by
  subst hw2
  have kA : TurnIn 0 0 w1 (w1.alloc (.cells #[v] t)) := TurnIn.of_below ((Below.refl _ _).alloc (Nat.le_refl _) _)
  have hbs := hb.size
  exact ⟨⟨lo, w1.heap.size, hM.keep kA (by omega), hlo, by omega, by omega⟩, by simp, cell_turn kA hc hs, frozen_turn kA hf hs, hb.alloc (by omega) _, ⟨by simp, by simp; omega⟩, ⟨hbs, hR.2⟩⟩
/-- the variable was made ahead of the rows -/
theorem Fill2.early {w1 : World} {lo : Nat} (hM : OwnM E EE w1 lo w1.heap.size v L vs) (hlo : w.heap.size ≤ lo) (hR : R < lo ∧ w.heap.size ≤ R) (hB : B < lo ∧ w.heap.size ≤ B) (hne : B ≠ R) (hv : w1.cell? ⟨B, 0, none⟩ = some (.slice none 0 0)) (hc : w1.cell? ⟨R, 0, none⟩ = some (.slice none 0 0)) (hf : w1.frozen? ⟨R, 0, none⟩ = false)
    (hb : Below w.heap.size w w1) (hs : R < w1.heap.size ∧ B < w1.heap.size) : Fill2 E EE w (w1.setCell ⟨B, 0, none⟩ v) R B v L vs := by
  have kA := turn_setCell w1 B 0 v
  exact ⟨⟨lo, w1.heap.size, hM.keep kA (by omega), hlo, by omega, by omega⟩, World.cell?_setCell_same _ _ _ hv, (cell_set_other w1 _ _ _ hne).trans hc, (frozen_set_other w1 _ _ _ hne).trans hf, hb.setCell hB.2 _, ⟨by simpa using hs.2, by simpa using hs.1⟩, ⟨hB.2, hR.2⟩⟩
/-- the rows are stored into the result -/
theorem Fill2.finish (h : Fill2 E EE w wr R B v L vs) : RetMat E EE w L (.returned (.agg #[v])) (wr.setCell ⟨R, 0, none⟩ v) := by
  obtain ⟨lo, hi, h1, h2, h3, _⟩ := h.own
  have kk := turn_setCell wr R 0 v
  exact ⟨v, vs, rfl, (h1.keep kk (by omega)).wider h2 (by have := h1.top; simp; omega) (by simp), TurnIn.of_below (h.old.setCell h.lo.2 _)⟩
end
end G294
