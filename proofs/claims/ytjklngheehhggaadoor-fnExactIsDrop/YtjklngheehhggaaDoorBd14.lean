/- Joined texts: SpecInv, PartMath, SpecPart. -/
import Derived.Test.YtjklngheehhggaaDoorBd13
import Derived.Test.YtjklngheehhggaaDoorBd03
import Derived.RangeFuncBox
import Derived.RangeFuncNested
import Derived.Test.YtjklngheehhggaaDoorBd01
import Derived.Test.YtjklngheehhggaaDoorBd00
import Derived.Test.YtjklngheehhggaaDoorBd05
import Derived.Test.YtjklngheehhggaaDoorBd09
import Derived.Test.YtjklngheehhggaaDoorBd06
set_option linter.unusedSimpArgs false
set_option linter.unusedVariables false
/- The model's l2Inverse. -/
namespace G294
open Go Go.RowKit
theorem sAlloc {w2 W : World} {a : Addr} {x : Value} (h : Below w2.heap.size w2 W ∧ W.cell? a = some x) (ha : a.block < w2.heap.size) (o : Obj) : Below w2.heap.size w2 (W.alloc o) ∧ (W.alloc o).cell? a = some x := by
  have hb := h.1.alloc h.1.size o
  exact ⟨hb, (((Below.refl _ W).alloc (Nat.le_refl _) o).cell (p := a) (Nat.lt_of_lt_of_le ha h.1.size)).trans h.2⟩
theorem sTurn {w2 W W' : World} {a : Addr} {x : Value} (h : Below w2.heap.size w2 W ∧ W.cell? a = some x) (ha : a.block < w2.heap.size) (k : TurnIn 0 0 W W') : Below w2.heap.size w2 W' ∧ W'.cell? a = some x :=
  ⟨k.base h.1 h.1.size (by omega), (k.to_below.cell (p := a) (Nat.lt_of_lt_of_le ha h.1.size)).trans h.2⟩
theorem sSet {w2 W : World} {a : Addr} {x : Value} (h : Below w2.heap.size w2 W ∧ W.cell? a = some x) (ha : a.block < w2.heap.size) {B : Nat} (hB : w2.heap.size ≤ B) (u : Value) : Below w2.heap.size w2 (W.setCell ⟨B, 0, none⟩ u) ∧ (W.setCell ⟨B, 0, none⟩ u).cell? a = some x :=
  ⟨h.1.setCell (p := ⟨B, 0, none⟩) hB u, (World.cell?_setCell_other _ _ _ _ (fun e => by rw [← e] at ha; simp at ha; omega)).trans h.2⟩
theorem natInt_beq (a b : Nat) : ((a : Int) == (b : Int)) = decide (a = b) := by
  by_cases h : a = b
  · subst h; simp
  · have h2 : ((a : Int) == (b : Int)) = false := by rw [beq_eq_false_iff_ne]; omega
    rw [h2]; simp [h]
theorem Boxed.turn {W W' : World} {B : Nat} {T : TypeId} {v : Value} (h : Boxed W B T v) (k : TurnIn 0 0 W W') : Boxed W' B T v := (k.block B h.lt (by omega)).trans h
theorem boxes1 {w w' : World} {v : Value} {T : TypeId} (k : TurnIn 0 0 (w.alloc (.cells #[v] T)) w') : Boxed w' w.heap.size T v := Boxed.turn (Boxed.new w T v) k
theorem boxes2 {w w' : World} {v v' : Value} {T T' : TypeId} (k : TurnIn 0 0 ((w.alloc (.cells #[v] T)).alloc (.cells #[v'] T')) w') : Boxed w' w.heap.size T v ∧ Boxed w' (w.heap.size + 1) T' v' := by
  refine ⟨Boxed.turn ((Boxed.new w T v).alloc _) k, ?_⟩
  have h := Boxed.turn (Boxed.new (w.alloc (.cells #[v] T)) T' v') k
  rwa [World.size_alloc] at h
end G294
namespace Go.Proofs.YtjklngheehhggaaDoor
open Go.RowKit G294

set_option maxRecDepth 100000 in
set_option maxHeartbeats 4000000 in
theorem l2Inverse_own (n : Nat) (F : Ents) (v : Value) (w : World) (hs : SeenM w v (mkM n n F)) (hn1 : 1 ≤ n) (hn : n ≤ 1000) :
    Calls Tryd.prog 92 #[.agg #[v]] w (RetMatOk 5 22 w (mkM n n (bst F idF n n)) (decide ((est F n n).2 = n))) := by
  obtain ⟨A, cp, rfl, hlc, hcm⟩ := hs.len
  rw [mkM_length] at *
  unfold maxLen at hcm
  have kB : TurnIn 0 0 w ((w.alloc (.cells #[.slice A n cp] 79)).alloc (.cells #[.slice none 0 0] 79)) := turn_trans (turn_alloc _ _) (turn_alloc _ _) (by omega)
  have zB : ((w.alloc (.cells #[.slice A n cp] 79)).alloc (.cells #[.slice none 0 0] 79)).heap.size = w.heap.size + 2 := by simp
  have q0 : ((w.alloc (.cells #[.slice A n cp] 79)).alloc (.cells #[.slice none 0 0] 79)).cell? ⟨w.heap.size, 0, none⟩ = some (.slice A n cp) := by simp
  have q1 : ((w.alloc (.cells #[.slice A n cp] 79)).alloc (.cells #[.slice none 0 0] 79)).cell? ⟨w.heap.size + 1, 0, none⟩ = some (.slice none 0 0) := by simp
  have q1f : ((w.alloc (.cells #[.slice A n cp] 79)).alloc (.cells #[.slice none 0 0] 79)).frozen? ⟨w.heap.size + 1, 0, none⟩ = false := by simp
  have HS := Lib.hid (hs.touch kB)
  go_enter Tryd.func92, Tryd.ntmps92
  go_wp2_with fail
  generalize ((w.alloc (.cells #[.slice A n cp] 79)).alloc (.cells #[.slice none 0 0] 79)) = w2 at *
  have hB2 : Below w2.heap.size w2 w2 := Below.refl _ _
  have l0 : (⟨w.heap.size, 0, none⟩ : Addr).block < w2.heap.size := by show w.heap.size < w2.heap.size; omega
  have l1 : (⟨w.heap.size + 1, 0, none⟩ : Addr).block < w2.heap.size := by show w.heap.size + 1 < w2.heap.size; omega
  have HZB := Lib.hid zB
  clear zB
  go_region_held3 (fun w' => Below w2.heap.size w2 w' ∧ w'.cell? ⟨w.heap.size, 0, none⟩ = some (.slice A n cp))
    (first | exact ⟨hB2.drew, q0⟩ | exact hS4 | exact sAlloc (by assumption) l0 _ | exact sTurn (by assumption) l0 (by assumption) | exact sSet (by assumption) l0 (by omega) _ | exact sSet (by assumption) l0 (by simp; omega) _ | exact sAlloc (sAlloc hS4 l0 _) l0 _ | exact sAlloc hS4 l0 _ | exact sAlloc (sSet hS4 l0 (by omega) _) l0 _ | exact sSet (sSet hS4 l0 (by omega) _) l0 (by omega) _)
    (first
      | (go_at_call 158; refine (l2Identity_own n _ hn1 hn).mono ?_; rintro e w3 ⟨vI, vsI, rfl, hI, k3⟩; obtain ⟨gI, cpI, rfl, hgI, hgI', hpI, hpI'⟩ := hI.sliceF (by omega); have hz3 := (sTurn (by assumption) l0 k3).1.size; have hk3 := k3.size; (first | (have fA := boxes2 (undrew k3)) | (have fA := boxes1 (undrew k3)) | skip))
      | (go_at_call 157; refine (l2Reduce_own n n n F idF _ _ _ (HS.out.below (And.left (by assumption))) (by first | exact hI.seen | exact (hI.keep (turn_alloc _ _) (by omega)).seen | exact ((hI.keep (turn_alloc _ _) (by omega)).keep (turn_alloc _ _) (by omega)).seen) hn1 hn hn1 hn hn1 hn).mono ?_; rintro e w4 ⟨Aa, na, ca, vb, us, rfl, hO, k4⟩; obtain ⟨gB, cpB, rfl, hgB, hgB', hpB, hpB'⟩ := hO.sliceF (by omega); have hS4 := sTurn (by assumption) l0 k4; have hz4 := hS4.1.size; have hk4 := k4.size; have k34 : TurnIn 0 0 w3 w4 := (by first | exact k4 | exact turn_trans (turn_alloc _ _) k4 (by omega) | exact turn_trans (turn_trans (turn_alloc _ _) (turn_alloc _ _) (by omega)) k4 (by omega)); (try have fac0 : w4.cell? ⟨w2.heap.size, 0, none⟩ = some (.slice none 0 0) := Boxed.cell (Boxed.turn fA k34)); (try have faf0 : w4.frozen? ⟨w2.heap.size, 0, none⟩ = false := Boxed.frozen (Boxed.turn fA k34)); (try have fac1 : (w4.alloc (.cells #[.slice none 0 0] 79)).cell? ⟨w2.heap.size, 0, none⟩ = some (.slice none 0 0) := Boxed.cell (Boxed.alloc (Boxed.turn fA k34) _)); (try have faf1 : (w4.alloc (.cells #[.slice none 0 0] 79)).frozen? ⟨w2.heap.size, 0, none⟩ = false := Boxed.frozen (Boxed.alloc (Boxed.turn fA k34) _)); (try have fbc0 : w4.cell? ⟨w2.heap.size, 0, none⟩ = some (.slice none 0 0) := Boxed.cell (Boxed.turn fA.1 k34)); (try have fbf0 : w4.frozen? ⟨w2.heap.size, 0, none⟩ = false := Boxed.frozen (Boxed.turn fA.1 k34)); (try have fbc1 : (w4.alloc (.cells #[.slice none 0 0] 79)).cell? ⟨w2.heap.size, 0, none⟩ = some (.slice none 0 0) := Boxed.cell (Boxed.alloc (Boxed.turn fA.1 k34) _)); (try have fbf1 : (w4.alloc (.cells #[.slice none 0 0] 79)).frozen? ⟨w2.heap.size, 0, none⟩ = false := Boxed.frozen (Boxed.alloc (Boxed.turn fA.1 k34) _)); (try have fcc0 : w4.cell? ⟨w2.heap.size + 1, 0, none⟩ = some (.slice none 0 0) := Boxed.cell (Boxed.turn fA.2 k34)); (try have fcf0 : w4.frozen? ⟨w2.heap.size + 1, 0, none⟩ = false := Boxed.frozen (Boxed.turn fA.2 k34)); (try have fcc1 : (w4.alloc (.cells #[.slice none 0 0] 79)).cell? ⟨w2.heap.size + 1, 0, none⟩ = some (.slice none 0 0) := Boxed.cell (Boxed.alloc (Boxed.turn fA.2 k34) _)); (try have fcf1 : (w4.alloc (.cells #[.slice none 0 0] 79)).frozen? ⟨w2.heap.size + 1, 0, none⟩ = false := Boxed.frozen (Boxed.alloc (Boxed.turn fA.2 k34) _)); (try have n1 : w2.heap.size ≠ w3.heap.size := Nat.ne_of_lt (Boxed.lt fA)); (try have n2 : w3.heap.size ≠ w2.heap.size := Nat.ne_of_gt (Boxed.lt fA)); (try have gA := boxes2 k4); (try have gD := boxes1 k4); (try have gac0 : w4.cell? ⟨w3.heap.size, 0, none⟩ = some (.slice none 0 0) := Boxed.cell (gA.1)); (try have gaf0 : w4.frozen? ⟨w3.heap.size, 0, none⟩ = false := Boxed.frozen (gA.1)); (try have gac1 : (w4.alloc (.cells #[.slice none 0 0] 79)).cell? ⟨w3.heap.size, 0, none⟩ = some (.slice none 0 0) := Boxed.cell (Boxed.alloc (gA.1) _)); (try have gaf1 : (w4.alloc (.cells #[.slice none 0 0] 79)).frozen? ⟨w3.heap.size, 0, none⟩ = false := Boxed.frozen (Boxed.alloc (gA.1) _)); (try have gbc0 : w4.cell? ⟨w3.heap.size + 1, 0, none⟩ = some (.slice none 0 0) := Boxed.cell (gA.2)); (try have gbf0 : w4.frozen? ⟨w3.heap.size + 1, 0, none⟩ = false := Boxed.frozen (gA.2)); (try have gbc1 : (w4.alloc (.cells #[.slice none 0 0] 79)).cell? ⟨w3.heap.size + 1, 0, none⟩ = some (.slice none 0 0) := Boxed.cell (Boxed.alloc (gA.2) _)); (try have gbf1 : (w4.alloc (.cells #[.slice none 0 0] 79)).frozen? ⟨w3.heap.size + 1, 0, none⟩ = false := Boxed.frozen (Boxed.alloc (gA.2) _)); (try have gcc0 : w4.cell? ⟨w3.heap.size, 0, none⟩ = some (.slice none 0 0) := Boxed.cell (gD)); (try have gcf0 : w4.frozen? ⟨w3.heap.size, 0, none⟩ = false := Boxed.frozen (gD)); (try have gcc1 : (w4.alloc (.cells #[.slice none 0 0] 79)).cell? ⟨w3.heap.size, 0, none⟩ = some (.slice none 0 0) := Boxed.cell (Boxed.alloc (gD) _)); (try have gcf1 : (w4.alloc (.cells #[.slice none 0 0] 79)).frozen? ⟨w3.heap.size, 0, none⟩ = false := Boxed.frozen (Boxed.alloc (gD) _)); (try have n3 : w3.heap.size ≠ w4.heap.size := Nat.ne_of_lt (Boxed.lt gD)); (try have n4 : w4.heap.size ≠ w3.heap.size := Nat.ne_of_gt (Boxed.lt gD)); (try have n5 : w2.heap.size ≠ w4.heap.size := Nat.ne_of_lt (Boxed.lt (Boxed.turn fA k34))); (try have n6 : w4.heap.size ≠ w2.heap.size := Nat.ne_of_gt (Boxed.lt (Boxed.turn fA k34))); (try have xa1 : (w4.alloc (.cells #[.slice Aa na ca] 79)).cell? ⟨w2.heap.size, 0, none⟩ = some (.slice none 0 0) := Boxed.cell (Boxed.alloc (Boxed.turn fA k34) _)); (try have xb1 : (w4.alloc (.cells #[.slice Aa na ca] 79)).frozen? ⟨w2.heap.size, 0, none⟩ = false := Boxed.frozen (Boxed.alloc (Boxed.turn fA k34) _)); (try have xc2 : (w4.setCell ⟨w2.heap.size + 1, 0, none⟩ (.slice Aa na ca)).cell? ⟨w2.heap.size, 0, none⟩ = some (.slice none 0 0) := Boxed.cell (Boxed.other (Boxed.turn fA k34) (by first | omega | exact n1 | exact n2 | exact n3 | exact n4 | exact n5 | exact n6) _)); (try have xd2 : (w4.setCell ⟨w2.heap.size + 1, 0, none⟩ (.slice Aa na ca)).frozen? ⟨w2.heap.size, 0, none⟩ = false := Boxed.frozen (Boxed.other (Boxed.turn fA k34) (by first | omega | exact n1 | exact n2 | exact n3 | exact n4 | exact n5 | exact n6) _)); (try have xc3 : (w4.setCell ⟨w3.heap.size, 0, none⟩ (.slice Aa na ca)).cell? ⟨w2.heap.size, 0, none⟩ = some (.slice none 0 0) := Boxed.cell (Boxed.other (Boxed.turn fA k34) (by first | omega | exact n1 | exact n2 | exact n3 | exact n4 | exact n5 | exact n6) _)); (try have xd3 : (w4.setCell ⟨w3.heap.size, 0, none⟩ (.slice Aa na ca)).frozen? ⟨w2.heap.size, 0, none⟩ = false := Boxed.frozen (Boxed.other (Boxed.turn fA k34) (by first | omega | exact n1 | exact n2 | exact n3 | exact n4 | exact n5 | exact n6) _)); (try have xc4 : (w4.setCell ⟨w3.heap.size + 1, 0, none⟩ (.slice Aa na ca)).cell? ⟨w2.heap.size, 0, none⟩ = some (.slice none 0 0) := Boxed.cell (Boxed.other (Boxed.turn fA k34) (by first | omega | exact n1 | exact n2 | exact n3 | exact n4 | exact n5 | exact n6) _)); (try have xd4 : (w4.setCell ⟨w3.heap.size + 1, 0, none⟩ (.slice Aa na ca)).frozen? ⟨w2.heap.size, 0, none⟩ = false := Boxed.frozen (Boxed.other (Boxed.turn fA k34) (by first | omega | exact n1 | exact n2 | exact n3 | exact n4 | exact n5 | exact n6) _)); (try have xa5 : (w4.alloc (.cells #[.slice Aa na ca] 79)).cell? ⟨w2.heap.size, 0, none⟩ = some (.slice none 0 0) := Boxed.cell (Boxed.alloc (Boxed.turn fA.1 k34) _)); (try have xb5 : (w4.alloc (.cells #[.slice Aa na ca] 79)).frozen? ⟨w2.heap.size, 0, none⟩ = false := Boxed.frozen (Boxed.alloc (Boxed.turn fA.1 k34) _)); (try have xc6 : (w4.setCell ⟨w2.heap.size + 1, 0, none⟩ (.slice Aa na ca)).cell? ⟨w2.heap.size, 0, none⟩ = some (.slice none 0 0) := Boxed.cell (Boxed.other (Boxed.turn fA.1 k34) (by first | omega | exact n1 | exact n2 | exact n3 | exact n4 | exact n5 | exact n6) _)); (try have xd6 : (w4.setCell ⟨w2.heap.size + 1, 0, none⟩ (.slice Aa na ca)).frozen? ⟨w2.heap.size, 0, none⟩ = false := Boxed.frozen (Boxed.other (Boxed.turn fA.1 k34) (by first | omega | exact n1 | exact n2 | exact n3 | exact n4 | exact n5 | exact n6) _)); (try have xc7 : (w4.setCell ⟨w3.heap.size, 0, none⟩ (.slice Aa na ca)).cell? ⟨w2.heap.size, 0, none⟩ = some (.slice none 0 0) := Boxed.cell (Boxed.other (Boxed.turn fA.1 k34) (by first | omega | exact n1 | exact n2 | exact n3 | exact n4 | exact n5 | exact n6) _)); (try have xd7 : (w4.setCell ⟨w3.heap.size, 0, none⟩ (.slice Aa na ca)).frozen? ⟨w2.heap.size, 0, none⟩ = false := Boxed.frozen (Boxed.other (Boxed.turn fA.1 k34) (by first | omega | exact n1 | exact n2 | exact n3 | exact n4 | exact n5 | exact n6) _)); (try have xc8 : (w4.setCell ⟨w3.heap.size + 1, 0, none⟩ (.slice Aa na ca)).cell? ⟨w2.heap.size, 0, none⟩ = some (.slice none 0 0) := Boxed.cell (Boxed.other (Boxed.turn fA.1 k34) (by first | omega | exact n1 | exact n2 | exact n3 | exact n4 | exact n5 | exact n6) _)); (try have xd8 : (w4.setCell ⟨w3.heap.size + 1, 0, none⟩ (.slice Aa na ca)).frozen? ⟨w2.heap.size, 0, none⟩ = false := Boxed.frozen (Boxed.other (Boxed.turn fA.1 k34) (by first | omega | exact n1 | exact n2 | exact n3 | exact n4 | exact n5 | exact n6) _)); (try have xa9 : (w4.alloc (.cells #[.slice Aa na ca] 79)).cell? ⟨w2.heap.size + 1, 0, none⟩ = some (.slice none 0 0) := Boxed.cell (Boxed.alloc (Boxed.turn fA.2 k34) _)); (try have xb9 : (w4.alloc (.cells #[.slice Aa na ca] 79)).frozen? ⟨w2.heap.size + 1, 0, none⟩ = false := Boxed.frozen (Boxed.alloc (Boxed.turn fA.2 k34) _)); (try have xc10 : (w4.setCell ⟨w2.heap.size, 0, none⟩ (.slice Aa na ca)).cell? ⟨w2.heap.size + 1, 0, none⟩ = some (.slice none 0 0) := Boxed.cell (Boxed.other (Boxed.turn fA.2 k34) (by first | omega | exact n1 | exact n2 | exact n3 | exact n4 | exact n5 | exact n6) _)); (try have xd10 : (w4.setCell ⟨w2.heap.size, 0, none⟩ (.slice Aa na ca)).frozen? ⟨w2.heap.size + 1, 0, none⟩ = false := Boxed.frozen (Boxed.other (Boxed.turn fA.2 k34) (by first | omega | exact n1 | exact n2 | exact n3 | exact n4 | exact n5 | exact n6) _)); (try have xc11 : (w4.setCell ⟨w3.heap.size, 0, none⟩ (.slice Aa na ca)).cell? ⟨w2.heap.size + 1, 0, none⟩ = some (.slice none 0 0) := Boxed.cell (Boxed.other (Boxed.turn fA.2 k34) (by first | omega | exact n1 | exact n2 | exact n3 | exact n4 | exact n5 | exact n6) _)); (try have xd11 : (w4.setCell ⟨w3.heap.size, 0, none⟩ (.slice Aa na ca)).frozen? ⟨w2.heap.size + 1, 0, none⟩ = false := Boxed.frozen (Boxed.other (Boxed.turn fA.2 k34) (by first | omega | exact n1 | exact n2 | exact n3 | exact n4 | exact n5 | exact n6) _)); (try have xc12 : (w4.setCell ⟨w3.heap.size + 1, 0, none⟩ (.slice Aa na ca)).cell? ⟨w2.heap.size + 1, 0, none⟩ = some (.slice none 0 0) := Boxed.cell (Boxed.other (Boxed.turn fA.2 k34) (by first | omega | exact n1 | exact n2 | exact n3 | exact n4 | exact n5 | exact n6) _)); (try have xd12 : (w4.setCell ⟨w3.heap.size + 1, 0, none⟩ (.slice Aa na ca)).frozen? ⟨w2.heap.size + 1, 0, none⟩ = false := Boxed.frozen (Boxed.other (Boxed.turn fA.2 k34) (by first | omega | exact n1 | exact n2 | exact n3 | exact n4 | exact n5 | exact n6) _)); (try have xa13 : (w4.alloc (.cells #[.slice Aa na ca] 79)).cell? ⟨w3.heap.size, 0, none⟩ = some (.slice none 0 0) := Boxed.cell (Boxed.alloc (gD) _)); (try have xb13 : (w4.alloc (.cells #[.slice Aa na ca] 79)).frozen? ⟨w3.heap.size, 0, none⟩ = false := Boxed.frozen (Boxed.alloc (gD) _)); (try have xc14 : (w4.setCell ⟨w2.heap.size, 0, none⟩ (.slice Aa na ca)).cell? ⟨w3.heap.size, 0, none⟩ = some (.slice none 0 0) := Boxed.cell (Boxed.other (gD) (by first | omega | exact n1 | exact n2 | exact n3 | exact n4 | exact n5 | exact n6) _)); (try have xd14 : (w4.setCell ⟨w2.heap.size, 0, none⟩ (.slice Aa na ca)).frozen? ⟨w3.heap.size, 0, none⟩ = false := Boxed.frozen (Boxed.other (gD) (by first | omega | exact n1 | exact n2 | exact n3 | exact n4 | exact n5 | exact n6) _)); (try have xc15 : (w4.setCell ⟨w2.heap.size + 1, 0, none⟩ (.slice Aa na ca)).cell? ⟨w3.heap.size, 0, none⟩ = some (.slice none 0 0) := Boxed.cell (Boxed.other (gD) (by first | omega | exact n1 | exact n2 | exact n3 | exact n4 | exact n5 | exact n6) _)); (try have xd15 : (w4.setCell ⟨w2.heap.size + 1, 0, none⟩ (.slice Aa na ca)).frozen? ⟨w3.heap.size, 0, none⟩ = false := Boxed.frozen (Boxed.other (gD) (by first | omega | exact n1 | exact n2 | exact n3 | exact n4 | exact n5 | exact n6) _)); (try have xc16 : (w4.setCell ⟨w3.heap.size + 1, 0, none⟩ (.slice Aa na ca)).cell? ⟨w3.heap.size, 0, none⟩ = some (.slice none 0 0) := Boxed.cell (Boxed.other (gD) (by first | omega | exact n1 | exact n2 | exact n3 | exact n4 | exact n5 | exact n6) _)); (try have xd16 : (w4.setCell ⟨w3.heap.size + 1, 0, none⟩ (.slice Aa na ca)).frozen? ⟨w3.heap.size, 0, none⟩ = false := Boxed.frozen (Boxed.other (gD) (by first | omega | exact n1 | exact n2 | exact n3 | exact n4 | exact n5 | exact n6) _)); (try have xa17 : (w4.alloc (.cells #[.slice Aa na ca] 79)).cell? ⟨w3.heap.size, 0, none⟩ = some (.slice none 0 0) := Boxed.cell (Boxed.alloc (gA.1) _)); (try have xb17 : (w4.alloc (.cells #[.slice Aa na ca] 79)).frozen? ⟨w3.heap.size, 0, none⟩ = false := Boxed.frozen (Boxed.alloc (gA.1) _)); (try have xc18 : (w4.setCell ⟨w2.heap.size, 0, none⟩ (.slice Aa na ca)).cell? ⟨w3.heap.size, 0, none⟩ = some (.slice none 0 0) := Boxed.cell (Boxed.other (gA.1) (by first | omega | exact n1 | exact n2 | exact n3 | exact n4 | exact n5 | exact n6) _)); (try have xd18 : (w4.setCell ⟨w2.heap.size, 0, none⟩ (.slice Aa na ca)).frozen? ⟨w3.heap.size, 0, none⟩ = false := Boxed.frozen (Boxed.other (gA.1) (by first | omega | exact n1 | exact n2 | exact n3 | exact n4 | exact n5 | exact n6) _)); (try have xc19 : (w4.setCell ⟨w2.heap.size + 1, 0, none⟩ (.slice Aa na ca)).cell? ⟨w3.heap.size, 0, none⟩ = some (.slice none 0 0) := Boxed.cell (Boxed.other (gA.1) (by first | omega | exact n1 | exact n2 | exact n3 | exact n4 | exact n5 | exact n6) _)); (try have xd19 : (w4.setCell ⟨w2.heap.size + 1, 0, none⟩ (.slice Aa na ca)).frozen? ⟨w3.heap.size, 0, none⟩ = false := Boxed.frozen (Boxed.other (gA.1) (by first | omega | exact n1 | exact n2 | exact n3 | exact n4 | exact n5 | exact n6) _)); (try have xc20 : (w4.setCell ⟨w3.heap.size + 1, 0, none⟩ (.slice Aa na ca)).cell? ⟨w3.heap.size, 0, none⟩ = some (.slice none 0 0) := Boxed.cell (Boxed.other (gA.1) (by first | omega | exact n1 | exact n2 | exact n3 | exact n4 | exact n5 | exact n6) _)); (try have xd20 : (w4.setCell ⟨w3.heap.size + 1, 0, none⟩ (.slice Aa na ca)).frozen? ⟨w3.heap.size, 0, none⟩ = false := Boxed.frozen (Boxed.other (gA.1) (by first | omega | exact n1 | exact n2 | exact n3 | exact n4 | exact n5 | exact n6) _)); (try have xa21 : (w4.alloc (.cells #[.slice Aa na ca] 79)).cell? ⟨w3.heap.size + 1, 0, none⟩ = some (.slice none 0 0) := Boxed.cell (Boxed.alloc (gA.2) _)); (try have xb21 : (w4.alloc (.cells #[.slice Aa na ca] 79)).frozen? ⟨w3.heap.size + 1, 0, none⟩ = false := Boxed.frozen (Boxed.alloc (gA.2) _)); (try have xc22 : (w4.setCell ⟨w2.heap.size, 0, none⟩ (.slice Aa na ca)).cell? ⟨w3.heap.size + 1, 0, none⟩ = some (.slice none 0 0) := Boxed.cell (Boxed.other (gA.2) (by first | omega | exact n1 | exact n2 | exact n3 | exact n4 | exact n5 | exact n6) _)); (try have xd22 : (w4.setCell ⟨w2.heap.size, 0, none⟩ (.slice Aa na ca)).frozen? ⟨w3.heap.size + 1, 0, none⟩ = false := Boxed.frozen (Boxed.other (gA.2) (by first | omega | exact n1 | exact n2 | exact n3 | exact n4 | exact n5 | exact n6) _)); (try have xc23 : (w4.setCell ⟨w2.heap.size + 1, 0, none⟩ (.slice Aa na ca)).cell? ⟨w3.heap.size + 1, 0, none⟩ = some (.slice none 0 0) := Boxed.cell (Boxed.other (gA.2) (by first | omega | exact n1 | exact n2 | exact n3 | exact n4 | exact n5 | exact n6) _)); (try have xd23 : (w4.setCell ⟨w2.heap.size + 1, 0, none⟩ (.slice Aa na ca)).frozen? ⟨w3.heap.size + 1, 0, none⟩ = false := Boxed.frozen (Boxed.other (gA.2) (by first | omega | exact n1 | exact n2 | exact n3 | exact n4 | exact n5 | exact n6) _)); (try have xc24 : (w4.setCell ⟨w3.heap.size, 0, none⟩ (.slice Aa na ca)).cell? ⟨w3.heap.size + 1, 0, none⟩ = some (.slice none 0 0) := Boxed.cell (Boxed.other (gA.2) (by first | omega | exact n1 | exact n2 | exact n3 | exact n4 | exact n5 | exact n6) _)); (try have xd24 : (w4.setCell ⟨w3.heap.size, 0, none⟩ (.slice Aa na ca)).frozen? ⟨w3.heap.size + 1, 0, none⟩ = false := Boxed.frozen (Boxed.other (gA.2) (by first | omega | exact n1 | exact n2 | exact n3 | exact n4 | exact n5 | exact n6) _)); (try have xe25 : ((w4.setCell ⟨w2.heap.size, 0, none⟩ (.slice Aa na ca)).alloc (.cells #[.slice none 0 0] 79)).cell? ⟨w4.heap.size, 0, none⟩ = some (.slice none 0 0) := by simp); (try have xf25 : ((w4.setCell ⟨w2.heap.size, 0, none⟩ (.slice Aa na ca)).alloc (.cells #[.slice none 0 0] 79)).frozen? ⟨w4.heap.size, 0, none⟩ = false := by simp); (try have xg25 : ((w4.alloc (.cells #[.slice none 0 0] 79)).setCell ⟨w2.heap.size, 0, none⟩ (.slice Aa na ca)).cell? ⟨w4.heap.size, 0, none⟩ = some (.slice none 0 0) := Boxed.cell (Boxed.other (Boxed.new w4 _ _) (by first | omega | exact n1 | exact n2 | exact n3 | exact n4 | exact n5 | exact n6) _)); (try have xh25 : ((w4.alloc (.cells #[.slice none 0 0] 79)).setCell ⟨w2.heap.size, 0, none⟩ (.slice Aa na ca)).frozen? ⟨w4.heap.size, 0, none⟩ = false := Boxed.frozen (Boxed.other (Boxed.new w4 _ _) (by first | omega | exact n1 | exact n2 | exact n3 | exact n4 | exact n5 | exact n6) _)); (try have xe26 : ((w4.setCell ⟨w2.heap.size + 1, 0, none⟩ (.slice Aa na ca)).alloc (.cells #[.slice none 0 0] 79)).cell? ⟨w4.heap.size, 0, none⟩ = some (.slice none 0 0) := by simp); (try have xf26 : ((w4.setCell ⟨w2.heap.size + 1, 0, none⟩ (.slice Aa na ca)).alloc (.cells #[.slice none 0 0] 79)).frozen? ⟨w4.heap.size, 0, none⟩ = false := by simp); (try have xg26 : ((w4.alloc (.cells #[.slice none 0 0] 79)).setCell ⟨w2.heap.size + 1, 0, none⟩ (.slice Aa na ca)).cell? ⟨w4.heap.size, 0, none⟩ = some (.slice none 0 0) := Boxed.cell (Boxed.other (Boxed.new w4 _ _) (by first | omega | exact n1 | exact n2 | exact n3 | exact n4 | exact n5 | exact n6) _)); (try have xh26 : ((w4.alloc (.cells #[.slice none 0 0] 79)).setCell ⟨w2.heap.size + 1, 0, none⟩ (.slice Aa na ca)).frozen? ⟨w4.heap.size, 0, none⟩ = false := Boxed.frozen (Boxed.other (Boxed.new w4 _ _) (by first | omega | exact n1 | exact n2 | exact n3 | exact n4 | exact n5 | exact n6) _)); (try have xe27 : ((w4.setCell ⟨w3.heap.size, 0, none⟩ (.slice Aa na ca)).alloc (.cells #[.slice none 0 0] 79)).cell? ⟨w4.heap.size, 0, none⟩ = some (.slice none 0 0) := by simp); (try have xf27 : ((w4.setCell ⟨w3.heap.size, 0, none⟩ (.slice Aa na ca)).alloc (.cells #[.slice none 0 0] 79)).frozen? ⟨w4.heap.size, 0, none⟩ = false := by simp); (try have xg27 : ((w4.alloc (.cells #[.slice none 0 0] 79)).setCell ⟨w3.heap.size, 0, none⟩ (.slice Aa na ca)).cell? ⟨w4.heap.size, 0, none⟩ = some (.slice none 0 0) := Boxed.cell (Boxed.other (Boxed.new w4 _ _) (by first | omega | exact n1 | exact n2 | exact n3 | exact n4 | exact n5 | exact n6) _)); (try have xh27 : ((w4.alloc (.cells #[.slice none 0 0] 79)).setCell ⟨w3.heap.size, 0, none⟩ (.slice Aa na ca)).frozen? ⟨w4.heap.size, 0, none⟩ = false := Boxed.frozen (Boxed.other (Boxed.new w4 _ _) (by first | omega | exact n1 | exact n2 | exact n3 | exact n4 | exact n5 | exact n6) _)); (try have xe28 : ((w4.setCell ⟨w3.heap.size + 1, 0, none⟩ (.slice Aa na ca)).alloc (.cells #[.slice none 0 0] 79)).cell? ⟨w4.heap.size, 0, none⟩ = some (.slice none 0 0) := by simp); (try have xf28 : ((w4.setCell ⟨w3.heap.size + 1, 0, none⟩ (.slice Aa na ca)).alloc (.cells #[.slice none 0 0] 79)).frozen? ⟨w4.heap.size, 0, none⟩ = false := by simp); (try have xg28 : ((w4.alloc (.cells #[.slice none 0 0] 79)).setCell ⟨w3.heap.size + 1, 0, none⟩ (.slice Aa na ca)).cell? ⟨w4.heap.size, 0, none⟩ = some (.slice none 0 0) := Boxed.cell (Boxed.other (Boxed.new w4 _ _) (by first | omega | exact n1 | exact n2 | exact n3 | exact n4 | exact n5 | exact n6) _)); (try have xh28 : ((w4.alloc (.cells #[.slice none 0 0] 79)).setCell ⟨w3.heap.size + 1, 0, none⟩ (.slice Aa na ca)).frozen? ⟨w4.heap.size, 0, none⟩ = false := Boxed.frozen (Boxed.other (Boxed.new w4 _ _) (by first | omega | exact n1 | exact n2 | exact n3 | exact n4 | exact n5 | exact n6) _))))
  · have hBW : Below w2.heap.size w2 (World.alloc (World.alloc w4 (.cells #[.slice Aa na ca] 79)) (.cells #[.slice (some ⟨gB, 0, none⟩) n cpB] 79)) := And.left (by assumption)
    have hc6 : World.cell? (World.alloc (World.alloc w4 (.cells #[.slice Aa na ca] 79)) (.cells #[.slice (some ⟨gB, 0, none⟩) n cpB] 79)) ⟨w4.heap.size + 1, 0, none⟩ = some (.slice (some ⟨gB, 0, none⟩) n cpB) := by first | (simp; done) | exact World.cell?_setCell_same _ _ _ (by assumption)
    have hO6 : OwnM 5 22 (World.alloc (World.alloc w4 (.cells #[.slice Aa na ca] 79)) (.cells #[.slice (some ⟨gB, 0, none⟩) n cpB] 79)) w2.heap.size (World.heap (World.alloc (World.alloc w4 (.cells #[.slice Aa na ca] 79)) (.cells #[.slice (some ⟨gB, 0, none⟩) n cpB] 79))).size (.slice (some ⟨gB, 0, none⟩) n cpB) (mkM n n (bst F idF n n)) us := OwnM.wider ((hO.keep (turn_alloc _ _) (by first | omega | (simp at * <;> omega))).keep (turn_alloc _ _) (by first | omega | (simp at * <;> omega))) (by first | omega | (simp at * <;> omega)) (by first | (simp; done) | (simp; omega)) (Nat.le_refl _)
    have r1 := (hBW.cell (p := ⟨w.heap.size + 1, 0, none⟩) l1).trans q1
    have r1f := (hBW.frozen (p := ⟨w.heap.size + 1, 0, none⟩) l1).trans q1f
    have HO6 := Lib.hid hO6
    have HBB := Lib.hid (kB.to_below.trans (hBW.mono kB.size))
    clear hO6 hBW
    generalize (World.alloc (World.alloc w4 (.cells #[.slice Aa na ca] 79)) (.cells #[.slice (some ⟨gB, 0, none⟩) n cpB] 79)) = Wf at *
    generalize (w4.heap.size + 1) = b6 at *
    have HEQ : (((est F n n).2 : Int) == (n : Int)) = decide ((est F n n).2 = n) := natInt_beq _ _
    generalize hee : decide ((est F n n).2 = n) = db at *
    generalize (est F n n).2 = ee at *
    go_wp2_with fail
    refine bodyPost_ret (v := .tuple #[.agg #[.slice (some ⟨gB, 0, none⟩) n cpB], .bool db]) (by simp [results, Tryd.results92, go_sem, r1]) rfl ?_
    have kk := turn_setCell Wf (w.heap.size + 1) 0 (.slice (some ⟨gB, 0, none⟩) n cpB)
    have hzb := HZB.out
    have hbw := HBB.out.setCell (p := ⟨w.heap.size + 1, 0, none⟩) (Nat.le_succ _) (.slice (some ⟨gB, 0, none⟩) n cpB)
    exact ⟨_, us, rfl, (HO6.out.keep kk (by omega)).wider (by omega) (by simp) (by simp), TurnIn.of_below hbw⟩
  · have hBW : Below w2.heap.size w2 (World.alloc (World.alloc w4 (.cells #[.slice (some ⟨gB, 0, none⟩) n cpB] 79)) (.cells #[.slice Aa na ca] 79)) := And.left (by assumption)
    have hc6 : World.cell? (World.alloc (World.alloc w4 (.cells #[.slice (some ⟨gB, 0, none⟩) n cpB] 79)) (.cells #[.slice Aa na ca] 79)) ⟨w4.heap.size, 0, none⟩ = some (.slice (some ⟨gB, 0, none⟩) n cpB) := by first | (simp; done) | exact World.cell?_setCell_same _ _ _ (by assumption)
    have hO6 : OwnM 5 22 (World.alloc (World.alloc w4 (.cells #[.slice (some ⟨gB, 0, none⟩) n cpB] 79)) (.cells #[.slice Aa na ca] 79)) w2.heap.size (World.heap (World.alloc (World.alloc w4 (.cells #[.slice (some ⟨gB, 0, none⟩) n cpB] 79)) (.cells #[.slice Aa na ca] 79))).size (.slice (some ⟨gB, 0, none⟩) n cpB) (mkM n n (bst F idF n n)) us := OwnM.wider ((hO.keep (turn_alloc _ _) (by first | omega | (simp at * <;> omega))).keep (turn_alloc _ _) (by first | omega | (simp at * <;> omega))) (by first | omega | (simp at * <;> omega)) (by first | (simp; done) | (simp; omega)) (Nat.le_refl _)
    have r1 := (hBW.cell (p := ⟨w.heap.size + 1, 0, none⟩) l1).trans q1
    have r1f := (hBW.frozen (p := ⟨w.heap.size + 1, 0, none⟩) l1).trans q1f
    have HO6 := Lib.hid hO6
    have HBB := Lib.hid (kB.to_below.trans (hBW.mono kB.size))
    clear hO6 hBW
    generalize (World.alloc (World.alloc w4 (.cells #[.slice (some ⟨gB, 0, none⟩) n cpB] 79)) (.cells #[.slice Aa na ca] 79)) = Wf at *
    generalize (w4.heap.size) = b6 at *
    have HEQ : (((est F n n).2 : Int) == (n : Int)) = decide ((est F n n).2 = n) := natInt_beq _ _
    generalize hee : decide ((est F n n).2 = n) = db at *
    generalize (est F n n).2 = ee at *
    go_wp2_with fail
    refine bodyPost_ret (v := .tuple #[.agg #[.slice (some ⟨gB, 0, none⟩) n cpB], .bool db]) (by simp [results, Tryd.results92, go_sem, r1]) rfl ?_
    have kk := turn_setCell Wf (w.heap.size + 1) 0 (.slice (some ⟨gB, 0, none⟩) n cpB)
    have hzb := HZB.out
    have hbw := HBB.out.setCell (p := ⟨w.heap.size + 1, 0, none⟩) (Nat.le_succ _) (.slice (some ⟨gB, 0, none⟩) n cpB)
    exact ⟨_, us, rfl, (HO6.out.keep kk (by omega)).wider (by omega) (by simp) (by simp), TurnIn.of_below hbw⟩
  · have hBW : Below w2.heap.size w2 (World.setCell (World.setCell (World.alloc w4 (.cells #[.slice none 0 0] 79)) ⟨w3.heap.size, 0, none⟩ (.slice Aa na ca)) ⟨w4.heap.size, 0, none⟩ (.slice (some ⟨gB, 0, none⟩) n cpB)) := And.left (by assumption)
    have hc6 : World.cell? (World.setCell (World.setCell (World.alloc w4 (.cells #[.slice none 0 0] 79)) ⟨w3.heap.size, 0, none⟩ (.slice Aa na ca)) ⟨w4.heap.size, 0, none⟩ (.slice (some ⟨gB, 0, none⟩) n cpB)) ⟨w4.heap.size, 0, none⟩ = some (.slice (some ⟨gB, 0, none⟩) n cpB) := by first | (simp; done) | exact World.cell?_setCell_same _ _ _ (by assumption)
    have hO6 : OwnM 5 22 (World.setCell (World.setCell (World.alloc w4 (.cells #[.slice none 0 0] 79)) ⟨w3.heap.size, 0, none⟩ (.slice Aa na ca)) ⟨w4.heap.size, 0, none⟩ (.slice (some ⟨gB, 0, none⟩) n cpB)) w2.heap.size (World.heap (World.setCell (World.setCell (World.alloc w4 (.cells #[.slice none 0 0] 79)) ⟨w3.heap.size, 0, none⟩ (.slice Aa na ca)) ⟨w4.heap.size, 0, none⟩ (.slice (some ⟨gB, 0, none⟩) n cpB))).size (.slice (some ⟨gB, 0, none⟩) n cpB) (mkM n n (bst F idF n n)) us := OwnM.wider (((hO.keep (turn_alloc _ _) (by first | omega | (simp at * <;> omega))).keep (turn_setCell _ _ 0 _) (by first | omega | (simp at * <;> omega))).keep (turn_setCell _ _ 0 _) (by first | omega | (simp at * <;> omega))) (by first | omega | (simp at * <;> omega)) (by first | (simp; done) | (simp; omega)) (Nat.le_refl _)
    have r1 := (hBW.cell (p := ⟨w.heap.size + 1, 0, none⟩) l1).trans q1
    have r1f := (hBW.frozen (p := ⟨w.heap.size + 1, 0, none⟩) l1).trans q1f
    have HO6 := Lib.hid hO6
    have HBB := Lib.hid (kB.to_below.trans (hBW.mono kB.size))
    clear hO6 hBW
    generalize (World.setCell (World.setCell (World.alloc w4 (.cells #[.slice none 0 0] 79)) ⟨w3.heap.size, 0, none⟩ (.slice Aa na ca)) ⟨w4.heap.size, 0, none⟩ (.slice (some ⟨gB, 0, none⟩) n cpB)) = Wf at *
    generalize (w4.heap.size) = b6 at *
    have HEQ : (((est F n n).2 : Int) == (n : Int)) = decide ((est F n n).2 = n) := natInt_beq _ _
    generalize hee : decide ((est F n n).2 = n) = db at *
    generalize (est F n n).2 = ee at *
    go_wp2_with fail
    refine bodyPost_ret (v := .tuple #[.agg #[.slice (some ⟨gB, 0, none⟩) n cpB], .bool db]) (by simp [results, Tryd.results92, go_sem, r1]) rfl ?_
    have kk := turn_setCell Wf (w.heap.size + 1) 0 (.slice (some ⟨gB, 0, none⟩) n cpB)
    have hzb := HZB.out
    have hbw := HBB.out.setCell (p := ⟨w.heap.size + 1, 0, none⟩) (Nat.le_succ _) (.slice (some ⟨gB, 0, none⟩) n cpB)
    exact ⟨_, us, rfl, (HO6.out.keep kk (by omega)).wider (by omega) (by simp) (by simp), TurnIn.of_below hbw⟩
  · have hBW : Below w2.heap.size w2 (World.setCell (World.setCell w4 ⟨w3.heap.size, 0, none⟩ (.slice Aa na ca)) ⟨w3.heap.size + 1, 0, none⟩ (.slice (some ⟨gB, 0, none⟩) n cpB)) := And.left (by assumption)
    have hc6 : World.cell? (World.setCell (World.setCell w4 ⟨w3.heap.size, 0, none⟩ (.slice Aa na ca)) ⟨w3.heap.size + 1, 0, none⟩ (.slice (some ⟨gB, 0, none⟩) n cpB)) ⟨w3.heap.size + 1, 0, none⟩ = some (.slice (some ⟨gB, 0, none⟩) n cpB) := by first | (simp; done) | exact World.cell?_setCell_same _ _ _ (by assumption)
    have hO6 : OwnM 5 22 (World.setCell (World.setCell w4 ⟨w3.heap.size, 0, none⟩ (.slice Aa na ca)) ⟨w3.heap.size + 1, 0, none⟩ (.slice (some ⟨gB, 0, none⟩) n cpB)) w2.heap.size (World.heap (World.setCell (World.setCell w4 ⟨w3.heap.size, 0, none⟩ (.slice Aa na ca)) ⟨w3.heap.size + 1, 0, none⟩ (.slice (some ⟨gB, 0, none⟩) n cpB))).size (.slice (some ⟨gB, 0, none⟩) n cpB) (mkM n n (bst F idF n n)) us := OwnM.wider ((hO.keep (turn_setCell _ _ 0 _) (by first | omega | (simp at * <;> omega))).keep (turn_setCell _ _ 0 _) (by first | omega | (simp at * <;> omega))) (by first | omega | (simp at * <;> omega)) (by first | (simp; done) | (simp; omega)) (Nat.le_refl _)
    have r1 := (hBW.cell (p := ⟨w.heap.size + 1, 0, none⟩) l1).trans q1
    have r1f := (hBW.frozen (p := ⟨w.heap.size + 1, 0, none⟩) l1).trans q1f
    have HO6 := Lib.hid hO6
    have HBB := Lib.hid (kB.to_below.trans (hBW.mono kB.size))
    clear hO6 hBW
    generalize (World.setCell (World.setCell w4 ⟨w3.heap.size, 0, none⟩ (.slice Aa na ca)) ⟨w3.heap.size + 1, 0, none⟩ (.slice (some ⟨gB, 0, none⟩) n cpB)) = Wf at *
    generalize (w3.heap.size + 1) = b6 at *
    have HEQ : (((est F n n).2 : Int) == (n : Int)) = decide ((est F n n).2 = n) := natInt_beq _ _
    generalize hee : decide ((est F n n).2 = n) = db at *
    generalize (est F n n).2 = ee at *
    go_wp2_with fail
    refine bodyPost_ret (v := .tuple #[.agg #[.slice (some ⟨gB, 0, none⟩) n cpB], .bool db]) (by simp [results, Tryd.results92, go_sem, r1]) rfl ?_
    have kk := turn_setCell Wf (w.heap.size + 1) 0 (.slice (some ⟨gB, 0, none⟩) n cpB)
    have hzb := HZB.out
    have hbw := HBB.out.setCell (p := ⟨w.heap.size + 1, 0, none⟩) (Nat.le_succ _) (.slice (some ⟨gB, 0, none⟩) n cpB)
    exact ⟨_, us, rfl, (HO6.out.keep kk (by omega)).wider (by omega) (by simp) (by simp), TurnIn.of_below hbw⟩
  · have hBW : Below w2.heap.size w2 (World.setCell (World.alloc w4 (.cells #[.slice Aa na ca] 79)) ⟨w3.heap.size, 0, none⟩ (.slice (some ⟨gB, 0, none⟩) n cpB)) := And.left (by assumption)
    have hc6 : World.cell? (World.setCell (World.alloc w4 (.cells #[.slice Aa na ca] 79)) ⟨w3.heap.size, 0, none⟩ (.slice (some ⟨gB, 0, none⟩) n cpB)) ⟨w3.heap.size, 0, none⟩ = some (.slice (some ⟨gB, 0, none⟩) n cpB) := by first | (simp; done) | exact World.cell?_setCell_same _ _ _ (by assumption)
    have hO6 : OwnM 5 22 (World.setCell (World.alloc w4 (.cells #[.slice Aa na ca] 79)) ⟨w3.heap.size, 0, none⟩ (.slice (some ⟨gB, 0, none⟩) n cpB)) w2.heap.size (World.heap (World.setCell (World.alloc w4 (.cells #[.slice Aa na ca] 79)) ⟨w3.heap.size, 0, none⟩ (.slice (some ⟨gB, 0, none⟩) n cpB))).size (.slice (some ⟨gB, 0, none⟩) n cpB) (mkM n n (bst F idF n n)) us := OwnM.wider ((hO.keep (turn_alloc _ _) (by first | omega | (simp at * <;> omega))).keep (turn_setCell _ _ 0 _) (by first | omega | (simp at * <;> omega))) (by first | omega | (simp at * <;> omega)) (by first | (simp; done) | (simp; omega)) (Nat.le_refl _)
    have r1 := (hBW.cell (p := ⟨w.heap.size + 1, 0, none⟩) l1).trans q1
    have r1f := (hBW.frozen (p := ⟨w.heap.size + 1, 0, none⟩) l1).trans q1f
    have HO6 := Lib.hid hO6
    have HBB := Lib.hid (kB.to_below.trans (hBW.mono kB.size))
    clear hO6 hBW
    generalize (World.setCell (World.alloc w4 (.cells #[.slice Aa na ca] 79)) ⟨w3.heap.size, 0, none⟩ (.slice (some ⟨gB, 0, none⟩) n cpB)) = Wf at *
    generalize (w3.heap.size) = b6 at *
    have HEQ : (((est F n n).2 : Int) == (n : Int)) = decide ((est F n n).2 = n) := natInt_beq _ _
    generalize hee : decide ((est F n n).2 = n) = db at *
    generalize (est F n n).2 = ee at *
    go_wp2_with fail
    refine bodyPost_ret (v := .tuple #[.agg #[.slice (some ⟨gB, 0, none⟩) n cpB], .bool db]) (by simp [results, Tryd.results92, go_sem, r1]) rfl ?_
    have kk := turn_setCell Wf (w.heap.size + 1) 0 (.slice (some ⟨gB, 0, none⟩) n cpB)
    have hzb := HZB.out
    have hbw := HBB.out.setCell (p := ⟨w.heap.size + 1, 0, none⟩) (Nat.le_succ _) (.slice (some ⟨gB, 0, none⟩) n cpB)
    exact ⟨_, us, rfl, (HO6.out.keep kk (by omega)).wider (by omega) (by simp) (by simp), TurnIn.of_below hbw⟩
  · have hBW : Below w2.heap.size w2 (World.setCell (World.setCell w4 ⟨w3.heap.size + 1, 0, none⟩ (.slice Aa na ca)) ⟨w3.heap.size, 0, none⟩ (.slice (some ⟨gB, 0, none⟩) n cpB)) := And.left (by assumption)
    have hc6 : World.cell? (World.setCell (World.setCell w4 ⟨w3.heap.size + 1, 0, none⟩ (.slice Aa na ca)) ⟨w3.heap.size, 0, none⟩ (.slice (some ⟨gB, 0, none⟩) n cpB)) ⟨w3.heap.size, 0, none⟩ = some (.slice (some ⟨gB, 0, none⟩) n cpB) := by first | (simp; done) | exact World.cell?_setCell_same _ _ _ (by assumption)
    have hO6 : OwnM 5 22 (World.setCell (World.setCell w4 ⟨w3.heap.size + 1, 0, none⟩ (.slice Aa na ca)) ⟨w3.heap.size, 0, none⟩ (.slice (some ⟨gB, 0, none⟩) n cpB)) w2.heap.size (World.heap (World.setCell (World.setCell w4 ⟨w3.heap.size + 1, 0, none⟩ (.slice Aa na ca)) ⟨w3.heap.size, 0, none⟩ (.slice (some ⟨gB, 0, none⟩) n cpB))).size (.slice (some ⟨gB, 0, none⟩) n cpB) (mkM n n (bst F idF n n)) us := OwnM.wider ((hO.keep (turn_setCell _ _ 0 _) (by first | omega | (simp at * <;> omega))).keep (turn_setCell _ _ 0 _) (by first | omega | (simp at * <;> omega))) (by first | omega | (simp at * <;> omega)) (by first | (simp; done) | (simp; omega)) (Nat.le_refl _)
    have r1 := (hBW.cell (p := ⟨w.heap.size + 1, 0, none⟩) l1).trans q1
    have r1f := (hBW.frozen (p := ⟨w.heap.size + 1, 0, none⟩) l1).trans q1f
    have HO6 := Lib.hid hO6
    have HBB := Lib.hid (kB.to_below.trans (hBW.mono kB.size))
    clear hO6 hBW
    generalize (World.setCell (World.setCell w4 ⟨w3.heap.size + 1, 0, none⟩ (.slice Aa na ca)) ⟨w3.heap.size, 0, none⟩ (.slice (some ⟨gB, 0, none⟩) n cpB)) = Wf at *
    generalize (w3.heap.size) = b6 at *
    have HEQ : (((est F n n).2 : Int) == (n : Int)) = decide ((est F n n).2 = n) := natInt_beq _ _
    generalize hee : decide ((est F n n).2 = n) = db at *
    generalize (est F n n).2 = ee at *
    go_wp2_with fail
    refine bodyPost_ret (v := .tuple #[.agg #[.slice (some ⟨gB, 0, none⟩) n cpB], .bool db]) (by simp [results, Tryd.results92, go_sem, r1]) rfl ?_
    have kk := turn_setCell Wf (w.heap.size + 1) 0 (.slice (some ⟨gB, 0, none⟩) n cpB)
    have hzb := HZB.out
    have hbw := HBB.out.setCell (p := ⟨w.heap.size + 1, 0, none⟩) (Nat.le_succ _) (.slice (some ⟨gB, 0, none⟩) n cpB)
    exact ⟨_, us, rfl, (HO6.out.keep kk (by omega)).wider (by omega) (by simp) (by simp), TurnIn.of_below hbw⟩
  · have hBW : Below w2.heap.size w2 (World.setCell (World.setCell (World.alloc w4 (.cells #[.slice none 0 0] 79)) ⟨w2.heap.size, 0, none⟩ (.slice Aa na ca)) ⟨w4.heap.size, 0, none⟩ (.slice (some ⟨gB, 0, none⟩) n cpB)) := And.left (by assumption)
    have hc6 : World.cell? (World.setCell (World.setCell (World.alloc w4 (.cells #[.slice none 0 0] 79)) ⟨w2.heap.size, 0, none⟩ (.slice Aa na ca)) ⟨w4.heap.size, 0, none⟩ (.slice (some ⟨gB, 0, none⟩) n cpB)) ⟨w4.heap.size, 0, none⟩ = some (.slice (some ⟨gB, 0, none⟩) n cpB) := by first | (simp; done) | exact World.cell?_setCell_same _ _ _ (by assumption)
    have hO6 : OwnM 5 22 (World.setCell (World.setCell (World.alloc w4 (.cells #[.slice none 0 0] 79)) ⟨w2.heap.size, 0, none⟩ (.slice Aa na ca)) ⟨w4.heap.size, 0, none⟩ (.slice (some ⟨gB, 0, none⟩) n cpB)) w2.heap.size (World.heap (World.setCell (World.setCell (World.alloc w4 (.cells #[.slice none 0 0] 79)) ⟨w2.heap.size, 0, none⟩ (.slice Aa na ca)) ⟨w4.heap.size, 0, none⟩ (.slice (some ⟨gB, 0, none⟩) n cpB))).size (.slice (some ⟨gB, 0, none⟩) n cpB) (mkM n n (bst F idF n n)) us := OwnM.wider (((hO.keep (turn_alloc _ _) (by first | omega | (simp at * <;> omega))).keep (turn_setCell _ _ 0 _) (by first | omega | (simp at * <;> omega))).keep (turn_setCell _ _ 0 _) (by first | omega | (simp at * <;> omega))) (by first | omega | (simp at * <;> omega)) (by first | (simp; done) | (simp; omega)) (Nat.le_refl _)
    have r1 := (hBW.cell (p := ⟨w.heap.size + 1, 0, none⟩) l1).trans q1
    have r1f := (hBW.frozen (p := ⟨w.heap.size + 1, 0, none⟩) l1).trans q1f
    have HO6 := Lib.hid hO6
    have HBB := Lib.hid (kB.to_below.trans (hBW.mono kB.size))
    clear hO6 hBW
    generalize (World.setCell (World.setCell (World.alloc w4 (.cells #[.slice none 0 0] 79)) ⟨w2.heap.size, 0, none⟩ (.slice Aa na ca)) ⟨w4.heap.size, 0, none⟩ (.slice (some ⟨gB, 0, none⟩) n cpB)) = Wf at *
    generalize (w4.heap.size) = b6 at *
    have HEQ : (((est F n n).2 : Int) == (n : Int)) = decide ((est F n n).2 = n) := natInt_beq _ _
    generalize hee : decide ((est F n n).2 = n) = db at *
    generalize (est F n n).2 = ee at *
    go_wp2_with fail
    refine bodyPost_ret (v := .tuple #[.agg #[.slice (some ⟨gB, 0, none⟩) n cpB], .bool db]) (by simp [results, Tryd.results92, go_sem, r1]) rfl ?_
    have kk := turn_setCell Wf (w.heap.size + 1) 0 (.slice (some ⟨gB, 0, none⟩) n cpB)
    have hzb := HZB.out
    have hbw := HBB.out.setCell (p := ⟨w.heap.size + 1, 0, none⟩) (Nat.le_succ _) (.slice (some ⟨gB, 0, none⟩) n cpB)
    exact ⟨_, us, rfl, (HO6.out.keep kk (by omega)).wider (by omega) (by simp) (by simp), TurnIn.of_below hbw⟩
  · have hBW : Below w2.heap.size w2 (World.setCell (World.setCell w4 ⟨w2.heap.size, 0, none⟩ (.slice Aa na ca)) ⟨w3.heap.size, 0, none⟩ (.slice (some ⟨gB, 0, none⟩) n cpB)) := And.left (by assumption)
    have hc6 : World.cell? (World.setCell (World.setCell w4 ⟨w2.heap.size, 0, none⟩ (.slice Aa na ca)) ⟨w3.heap.size, 0, none⟩ (.slice (some ⟨gB, 0, none⟩) n cpB)) ⟨w3.heap.size, 0, none⟩ = some (.slice (some ⟨gB, 0, none⟩) n cpB) := by first | (simp; done) | exact World.cell?_setCell_same _ _ _ (by assumption)
    have hO6 : OwnM 5 22 (World.setCell (World.setCell w4 ⟨w2.heap.size, 0, none⟩ (.slice Aa na ca)) ⟨w3.heap.size, 0, none⟩ (.slice (some ⟨gB, 0, none⟩) n cpB)) w2.heap.size (World.heap (World.setCell (World.setCell w4 ⟨w2.heap.size, 0, none⟩ (.slice Aa na ca)) ⟨w3.heap.size, 0, none⟩ (.slice (some ⟨gB, 0, none⟩) n cpB))).size (.slice (some ⟨gB, 0, none⟩) n cpB) (mkM n n (bst F idF n n)) us := OwnM.wider ((hO.keep (turn_setCell _ _ 0 _) (by first | omega | (simp at * <;> omega))).keep (turn_setCell _ _ 0 _) (by first | omega | (simp at * <;> omega))) (by first | omega | (simp at * <;> omega)) (by first | (simp; done) | (simp; omega)) (Nat.le_refl _)
    have r1 := (hBW.cell (p := ⟨w.heap.size + 1, 0, none⟩) l1).trans q1
    have r1f := (hBW.frozen (p := ⟨w.heap.size + 1, 0, none⟩) l1).trans q1f
    have HO6 := Lib.hid hO6
    have HBB := Lib.hid (kB.to_below.trans (hBW.mono kB.size))
    clear hO6 hBW
    generalize (World.setCell (World.setCell w4 ⟨w2.heap.size, 0, none⟩ (.slice Aa na ca)) ⟨w3.heap.size, 0, none⟩ (.slice (some ⟨gB, 0, none⟩) n cpB)) = Wf at *
    generalize (w3.heap.size) = b6 at *
    have HEQ : (((est F n n).2 : Int) == (n : Int)) = decide ((est F n n).2 = n) := natInt_beq _ _
    generalize hee : decide ((est F n n).2 = n) = db at *
    generalize (est F n n).2 = ee at *
    go_wp2_with fail
    refine bodyPost_ret (v := .tuple #[.agg #[.slice (some ⟨gB, 0, none⟩) n cpB], .bool db]) (by simp [results, Tryd.results92, go_sem, r1]) rfl ?_
    have kk := turn_setCell Wf (w.heap.size + 1) 0 (.slice (some ⟨gB, 0, none⟩) n cpB)
    have hzb := HZB.out
    have hbw := HBB.out.setCell (p := ⟨w.heap.size + 1, 0, none⟩) (Nat.le_succ _) (.slice (some ⟨gB, 0, none⟩) n cpB)
    exact ⟨_, us, rfl, (HO6.out.keep kk (by omega)).wider (by omega) (by simp) (by simp), TurnIn.of_below hbw⟩
  · have hBW : Below w2.heap.size w2 (World.setCell (World.setCell w4 ⟨w2.heap.size, 0, none⟩ (.slice Aa na ca)) ⟨w2.heap.size + 1, 0, none⟩ (.slice (some ⟨gB, 0, none⟩) n cpB)) := And.left (by assumption)
    have hc6 : World.cell? (World.setCell (World.setCell w4 ⟨w2.heap.size, 0, none⟩ (.slice Aa na ca)) ⟨w2.heap.size + 1, 0, none⟩ (.slice (some ⟨gB, 0, none⟩) n cpB)) ⟨w2.heap.size + 1, 0, none⟩ = some (.slice (some ⟨gB, 0, none⟩) n cpB) := by first | (simp; done) | exact World.cell?_setCell_same _ _ _ (by assumption)
    have hO6 : OwnM 5 22 (World.setCell (World.setCell w4 ⟨w2.heap.size, 0, none⟩ (.slice Aa na ca)) ⟨w2.heap.size + 1, 0, none⟩ (.slice (some ⟨gB, 0, none⟩) n cpB)) w2.heap.size (World.heap (World.setCell (World.setCell w4 ⟨w2.heap.size, 0, none⟩ (.slice Aa na ca)) ⟨w2.heap.size + 1, 0, none⟩ (.slice (some ⟨gB, 0, none⟩) n cpB))).size (.slice (some ⟨gB, 0, none⟩) n cpB) (mkM n n (bst F idF n n)) us := OwnM.wider ((hO.keep (turn_setCell _ _ 0 _) (by first | omega | (simp at * <;> omega))).keep (turn_setCell _ _ 0 _) (by first | omega | (simp at * <;> omega))) (by first | omega | (simp at * <;> omega)) (by first | (simp; done) | (simp; omega)) (Nat.le_refl _)
    have r1 := (hBW.cell (p := ⟨w.heap.size + 1, 0, none⟩) l1).trans q1
    have r1f := (hBW.frozen (p := ⟨w.heap.size + 1, 0, none⟩) l1).trans q1f
    have HO6 := Lib.hid hO6
    have HBB := Lib.hid (kB.to_below.trans (hBW.mono kB.size))
    clear hO6 hBW
    generalize (World.setCell (World.setCell w4 ⟨w2.heap.size, 0, none⟩ (.slice Aa na ca)) ⟨w2.heap.size + 1, 0, none⟩ (.slice (some ⟨gB, 0, none⟩) n cpB)) = Wf at *
    generalize (w2.heap.size + 1) = b6 at *
    have HEQ : (((est F n n).2 : Int) == (n : Int)) = decide ((est F n n).2 = n) := natInt_beq _ _
    generalize hee : decide ((est F n n).2 = n) = db at *
    generalize (est F n n).2 = ee at *
    go_wp2_with fail
    refine bodyPost_ret (v := .tuple #[.agg #[.slice (some ⟨gB, 0, none⟩) n cpB], .bool db]) (by simp [results, Tryd.results92, go_sem, r1]) rfl ?_
    have kk := turn_setCell Wf (w.heap.size + 1) 0 (.slice (some ⟨gB, 0, none⟩) n cpB)
    have hzb := HZB.out
    have hbw := HBB.out.setCell (p := ⟨w.heap.size + 1, 0, none⟩) (Nat.le_succ _) (.slice (some ⟨gB, 0, none⟩) n cpB)
    exact ⟨_, us, rfl, (HO6.out.keep kk (by omega)).wider (by omega) (by simp) (by simp), TurnIn.of_below hbw⟩
  · have hBW : Below w2.heap.size w2 (World.setCell (World.alloc w4 (.cells #[.slice Aa na ca] 79)) ⟨w2.heap.size, 0, none⟩ (.slice (some ⟨gB, 0, none⟩) n cpB)) := And.left (by assumption)
    have hc6 : World.cell? (World.setCell (World.alloc w4 (.cells #[.slice Aa na ca] 79)) ⟨w2.heap.size, 0, none⟩ (.slice (some ⟨gB, 0, none⟩) n cpB)) ⟨w2.heap.size, 0, none⟩ = some (.slice (some ⟨gB, 0, none⟩) n cpB) := by first | (simp; done) | exact World.cell?_setCell_same _ _ _ (by assumption)
    have hO6 : OwnM 5 22 (World.setCell (World.alloc w4 (.cells #[.slice Aa na ca] 79)) ⟨w2.heap.size, 0, none⟩ (.slice (some ⟨gB, 0, none⟩) n cpB)) w2.heap.size (World.heap (World.setCell (World.alloc w4 (.cells #[.slice Aa na ca] 79)) ⟨w2.heap.size, 0, none⟩ (.slice (some ⟨gB, 0, none⟩) n cpB))).size (.slice (some ⟨gB, 0, none⟩) n cpB) (mkM n n (bst F idF n n)) us := OwnM.wider ((hO.keep (turn_alloc _ _) (by first | omega | (simp at * <;> omega))).keep (turn_setCell _ _ 0 _) (by first | omega | (simp at * <;> omega))) (by first | omega | (simp at * <;> omega)) (by first | (simp; done) | (simp; omega)) (Nat.le_refl _)
    have r1 := (hBW.cell (p := ⟨w.heap.size + 1, 0, none⟩) l1).trans q1
    have r1f := (hBW.frozen (p := ⟨w.heap.size + 1, 0, none⟩) l1).trans q1f
    have HO6 := Lib.hid hO6
    have HBB := Lib.hid (kB.to_below.trans (hBW.mono kB.size))
    clear hO6 hBW
    generalize (World.setCell (World.alloc w4 (.cells #[.slice Aa na ca] 79)) ⟨w2.heap.size, 0, none⟩ (.slice (some ⟨gB, 0, none⟩) n cpB)) = Wf at *
    generalize (w2.heap.size) = b6 at *
    have HEQ : (((est F n n).2 : Int) == (n : Int)) = decide ((est F n n).2 = n) := natInt_beq _ _
    generalize hee : decide ((est F n n).2 = n) = db at *
    generalize (est F n n).2 = ee at *
    go_wp2_with fail
    refine bodyPost_ret (v := .tuple #[.agg #[.slice (some ⟨gB, 0, none⟩) n cpB], .bool db]) (by simp [results, Tryd.results92, go_sem, r1]) rfl ?_
    have kk := turn_setCell Wf (w.heap.size + 1) 0 (.slice (some ⟨gB, 0, none⟩) n cpB)
    have hzb := HZB.out
    have hbw := HBB.out.setCell (p := ⟨w.heap.size + 1, 0, none⟩) (Nat.le_succ _) (.slice (some ⟨gB, 0, none⟩) n cpB)
    exact ⟨_, us, rfl, (HO6.out.keep kk (by omega)).wider (by omega) (by simp) (by simp), TurnIn.of_below hbw⟩
  · have hBW : Below w2.heap.size w2 (World.setCell (World.setCell w4 ⟨w3.heap.size, 0, none⟩ (.slice Aa na ca)) ⟨w2.heap.size, 0, none⟩ (.slice (some ⟨gB, 0, none⟩) n cpB)) := And.left (by assumption)
    have hc6 : World.cell? (World.setCell (World.setCell w4 ⟨w3.heap.size, 0, none⟩ (.slice Aa na ca)) ⟨w2.heap.size, 0, none⟩ (.slice (some ⟨gB, 0, none⟩) n cpB)) ⟨w2.heap.size, 0, none⟩ = some (.slice (some ⟨gB, 0, none⟩) n cpB) := by first | (simp; done) | exact World.cell?_setCell_same _ _ _ (by assumption)
    have hO6 : OwnM 5 22 (World.setCell (World.setCell w4 ⟨w3.heap.size, 0, none⟩ (.slice Aa na ca)) ⟨w2.heap.size, 0, none⟩ (.slice (some ⟨gB, 0, none⟩) n cpB)) w2.heap.size (World.heap (World.setCell (World.setCell w4 ⟨w3.heap.size, 0, none⟩ (.slice Aa na ca)) ⟨w2.heap.size, 0, none⟩ (.slice (some ⟨gB, 0, none⟩) n cpB))).size (.slice (some ⟨gB, 0, none⟩) n cpB) (mkM n n (bst F idF n n)) us := OwnM.wider ((hO.keep (turn_setCell _ _ 0 _) (by first | omega | (simp at * <;> omega))).keep (turn_setCell _ _ 0 _) (by first | omega | (simp at * <;> omega))) (by first | omega | (simp at * <;> omega)) (by first | (simp; done) | (simp; omega)) (Nat.le_refl _)
    have r1 := (hBW.cell (p := ⟨w.heap.size + 1, 0, none⟩) l1).trans q1
    have r1f := (hBW.frozen (p := ⟨w.heap.size + 1, 0, none⟩) l1).trans q1f
    have HO6 := Lib.hid hO6
    have HBB := Lib.hid (kB.to_below.trans (hBW.mono kB.size))
    clear hO6 hBW
    generalize (World.setCell (World.setCell w4 ⟨w3.heap.size, 0, none⟩ (.slice Aa na ca)) ⟨w2.heap.size, 0, none⟩ (.slice (some ⟨gB, 0, none⟩) n cpB)) = Wf at *
    generalize (w2.heap.size) = b6 at *
    have HEQ : (((est F n n).2 : Int) == (n : Int)) = decide ((est F n n).2 = n) := natInt_beq _ _
    generalize hee : decide ((est F n n).2 = n) = db at *
    generalize (est F n n).2 = ee at *
    go_wp2_with fail
    refine bodyPost_ret (v := .tuple #[.agg #[.slice (some ⟨gB, 0, none⟩) n cpB], .bool db]) (by simp [results, Tryd.results92, go_sem, r1]) rfl ?_
    have kk := turn_setCell Wf (w.heap.size + 1) 0 (.slice (some ⟨gB, 0, none⟩) n cpB)
    have hzb := HZB.out
    have hbw := HBB.out.setCell (p := ⟨w.heap.size + 1, 0, none⟩) (Nat.le_succ _) (.slice (some ⟨gB, 0, none⟩) n cpB)
    exact ⟨_, us, rfl, (HO6.out.keep kk (by omega)).wider (by omega) (by simp) (by simp), TurnIn.of_below hbw⟩
  · have hBW : Below w2.heap.size w2 (World.setCell (World.setCell w4 ⟨w2.heap.size + 1, 0, none⟩ (.slice Aa na ca)) ⟨w2.heap.size, 0, none⟩ (.slice (some ⟨gB, 0, none⟩) n cpB)) := And.left (by assumption)
    have hc6 : World.cell? (World.setCell (World.setCell w4 ⟨w2.heap.size + 1, 0, none⟩ (.slice Aa na ca)) ⟨w2.heap.size, 0, none⟩ (.slice (some ⟨gB, 0, none⟩) n cpB)) ⟨w2.heap.size, 0, none⟩ = some (.slice (some ⟨gB, 0, none⟩) n cpB) := by first | (simp; done) | exact World.cell?_setCell_same _ _ _ (by assumption)
    have hO6 : OwnM 5 22 (World.setCell (World.setCell w4 ⟨w2.heap.size + 1, 0, none⟩ (.slice Aa na ca)) ⟨w2.heap.size, 0, none⟩ (.slice (some ⟨gB, 0, none⟩) n cpB)) w2.heap.size (World.heap (World.setCell (World.setCell w4 ⟨w2.heap.size + 1, 0, none⟩ (.slice Aa na ca)) ⟨w2.heap.size, 0, none⟩ (.slice (some ⟨gB, 0, none⟩) n cpB))).size (.slice (some ⟨gB, 0, none⟩) n cpB) (mkM n n (bst F idF n n)) us := OwnM.wider ((hO.keep (turn_setCell _ _ 0 _) (by first | omega | (simp at * <;> omega))).keep (turn_setCell _ _ 0 _) (by first | omega | (simp at * <;> omega))) (by first | omega | (simp at * <;> omega)) (by first | (simp; done) | (simp; omega)) (Nat.le_refl _)
    have r1 := (hBW.cell (p := ⟨w.heap.size + 1, 0, none⟩) l1).trans q1
    have r1f := (hBW.frozen (p := ⟨w.heap.size + 1, 0, none⟩) l1).trans q1f
    have HO6 := Lib.hid hO6
    have HBB := Lib.hid (kB.to_below.trans (hBW.mono kB.size))
    clear hO6 hBW
    generalize (World.setCell (World.setCell w4 ⟨w2.heap.size + 1, 0, none⟩ (.slice Aa na ca)) ⟨w2.heap.size, 0, none⟩ (.slice (some ⟨gB, 0, none⟩) n cpB)) = Wf at *
    generalize (w2.heap.size) = b6 at *
    have HEQ : (((est F n n).2 : Int) == (n : Int)) = decide ((est F n n).2 = n) := natInt_beq _ _
    generalize hee : decide ((est F n n).2 = n) = db at *
    generalize (est F n n).2 = ee at *
    go_wp2_with fail
    refine bodyPost_ret (v := .tuple #[.agg #[.slice (some ⟨gB, 0, none⟩) n cpB], .bool db]) (by simp [results, Tryd.results92, go_sem, r1]) rfl ?_
    have kk := turn_setCell Wf (w.heap.size + 1) 0 (.slice (some ⟨gB, 0, none⟩) n cpB)
    have hzb := HZB.out
    have hbw := HBB.out.setCell (p := ⟨w.heap.size + 1, 0, none⟩) (Nat.le_succ _) (.slice (some ⟨gB, 0, none⟩) n cpB)
    exact ⟨_, us, rfl, (HO6.out.keep kk (by omega)).wider (by omega) (by simp) (by simp), TurnIn.of_below hbw⟩

end Go.Proofs.YtjklngheehhggaaDoor

/- Increasing lists of indexes, and parts of matrices: plain functions. -/
namespace G294
def okAt (l : List Int) (size : Nat) (i : Nat) : Prop := 0 ≤ l.getD i 0 ∧ l.getD i 0 < size ∧ (0 < i → l.getD (i - 1) 0 < l.getD i 0)
instance (l : List Int) (size i : Nat) : Decidable (okAt l size i) := by unfold okAt; infer_instance
def someOk (l : List Int) (size : Nat) : Bool := decide (∀ i, i < l.length → okAt l size i)
def chosen (l : List Int) (size : Nat) : Bool := someOk l size && decide (0 < l.length)
theorem someOk_iff (l : List Int) (size : Nat) : someOk l size = true ↔ ∀ i, i < l.length → okAt l size i := by simp only [someOk, decide_eq_true_eq]
theorem someOk_no {l : List Int} {size k : Nat} (hk : k < l.length) (h : ¬ okAt l size k) : someOk l size = false := by
  rw [Bool.eq_false_iff]; intro e; exact h ((someOk_iff l size).1 e k hk)
def ptOk (m : Mat) (l c : List Int) : Bool := goodM m && chosen l m.length && chosen c (wid m)
def ptF (m : Mat) (l c : List Int) : Ents := fun i j => ent m (l.getD i 0).toNat (c.getD j 0).toNat
def ptR (m : Mat) (l c : List Int) : Mat := if ptOk m l c = true then mkM l.length c.length (ptF m l c) else []
/-- an increasing list of indexes below size is no longer than size -/
theorem okAt_lo (l : List Int) (size : Nat) (h : ∀ i, i < l.length → okAt l size i) : ∀ i, i < l.length → (i : Int) ≤ l.getD i 0 := by
  intro i
  induction i with
  | zero => intro hi; exact (h 0 hi).1
  | succ i ih =>
    intro hi
    have h1 := ih (by omega)
    have h2 := (h (i + 1) hi).2.2 (by omega)
    simp only [Nat.add_sub_cancel] at h2
    omega
theorem some_len {l : List Int} {size : Nat} (h : someOk l size = true) : l.length ≤ size := by
  have h' := (someOk_iff l size).1 h
  rcases Nat.eq_zero_or_pos l.length with h0 | h0
  · omega
  · have h1 := okAt_lo l size h' (l.length - 1) (by omega)
    have h2 := (h' (l.length - 1) (by omega)).2.1
    omega
end G294

/- The model's PartOf. -/
namespace Go.Proofs.YtjklngheehhggaaDoor
open Go.RowKit G294

set_option maxRecDepth 100000 in
set_option maxHeartbeats 4000000 in
theorem l2Part_own (r c : Nat) (F : Ents) (l m : List Int) (v u x : Value) (w : World) (hs : SeenM w v (mkM r c F)) (hl : Seen w u (ints l)) (hm : Seen w x (ints m))
    (hlo : ∀ i, i < l.length → 0 ≤ l.getD i 0 ∧ l.getD i 0 < r) (hmo : ∀ i, i < m.length → 0 ≤ m.getD i 0 ∧ m.getD i 0 < c) (hn : l.length ≤ 1000) (hn2 : m.length ≤ 1000) :
    Calls Tryd.prog 200 #[.agg #[v], u, x] w (RetMat 5 22 w (mkM l.length m.length fun i j => F (l.getD i 0).toNat (m.getD j 0).toNat)) := by
  have k1 : TurnIn 0 0 w (w.alloc (.cells #[v] 79)) := turn_alloc _ _
  have k3 : TurnIn 0 0 w (((w.alloc (.cells #[v] 79)).alloc (.cells #[.slice none 0 0] 79)).alloc (.cells #[.slice none 0 0] 79)) := turn_trans (turn_trans k1 (turn_alloc _ _) (by omega)) (turn_alloc _ _) (by omega)
  have z3 : (((w.alloc (.cells #[v] 79)).alloc (.cells #[.slice none 0 0] 79)).alloc (.cells #[.slice none 0 0] 79)).heap.size = w.heap.size + 3 := by simp
  have q0 : (((w.alloc (.cells #[v] 79)).alloc (.cells #[.slice none 0 0] 79)).alloc (.cells #[.slice none 0 0] 79)).cell? ⟨w.heap.size, 0, none⟩ = some v := cell_turn (turn_trans (turn_alloc _ _) (turn_alloc _ _) (by omega)) (show (w.alloc (.cells #[v] 79)).cell? ⟨w.heap.size, 0, none⟩ = some v by simp) (by simp)
  have q1 : (((w.alloc (.cells #[v] 79)).alloc (.cells #[.slice none 0 0] 79)).alloc (.cells #[.slice none 0 0] 79)).cell? ⟨w.heap.size + 1, 0, none⟩ = some (.slice none 0 0) := alloc_mid_cell _ _ _ _ _
  have q1f : (((w.alloc (.cells #[v] 79)).alloc (.cells #[.slice none 0 0] 79)).alloc (.cells #[.slice none 0 0] 79)).frozen? ⟨w.heap.size + 1, 0, none⟩ = false := alloc_mid_frozen _ _ _ _ _
  have q2 : (((w.alloc (.cells #[v] 79)).alloc (.cells #[.slice none 0 0] 79)).alloc (.cells #[.slice none 0 0] 79)).cell? ⟨w.heap.size + 1 + 1, 0, none⟩ = some (.slice none 0 0) := alloc_last_cell _ _ _ _ _
  have q2f : (((w.alloc (.cells #[v] 79)).alloc (.cells #[.slice none 0 0] 79)).alloc (.cells #[.slice none 0 0] 79)).frozen? ⟨w.heap.size + 1 + 1, 0, none⟩ = false := alloc_last_frozen _ _ _ _ _
  have hM0 : OwnM 5 22 (((w.alloc (.cells #[v] 79)).alloc (.cells #[.slice none 0 0] 79)).alloc (.cells #[.slice none 0 0] 79)) (w.heap.size + 3) (((w.alloc (.cells #[v] 79)).alloc (.cells #[.slice none 0 0] 79)).alloc (.cells #[.slice none 0 0] 79)).heap.size (.slice none 0 0) (mkM 0 m.length fun i j => F (l.getD i 0).toNat (m.getD j 0).toNat) [] := OwnM.nil _ _ _ _
  obtain ⟨A, cp, hvv, _, _⟩ := hs.len
  obtain ⟨A1, c1, hu⟩ := hl.len
  obtain ⟨A2, c2, hx⟩ := hm.len
  rw [ints_length] at hu hx
  rw [mkM_length] at hvv
  subst hu hx hvv
  have HS := Lib.hid hs
  have HL := Lib.hid hl
  have HM := Lib.hid hm
  have HLO := Lib.hid hlo
  have HMO := Lib.hid hmo
  have K3 := Lib.hid k3
  have HM0 := Lib.hid hM0
  clear hs hl hm hlo hmo k1 k3 hM0
  obtain ⟨n, hnn⟩ : ∃ n, n = l.length := ⟨_, rfl⟩
  obtain ⟨n2, hnn2⟩ : ∃ n, n = m.length := ⟨_, rfl⟩
  have HN := Lib.hid hnn
  have HN2 := Lib.hid hnn2
  rw [← hnn] at hn HL ⊢
  rw [← hnn2] at hn2 HM HM0 ⊢
  clear hnn hnn2
  go_enter Tryd.func200, Tryd.ntmps200
  go_wp2_with fail
  generalize (((w.alloc (.cells #[.slice A r cp] 79)).alloc (.cells #[.slice none 0 0] 79)).alloc (.cells #[.slice none 0 0] 79)) = w3 at *
  go_loopw [16] (fun i wr => ∃ (k : Nat) (o : Value) (vs : List Value), k ≤ n ∧ i = .int .i64 k ∧ Hid (OwnM 5 22 wr (w.heap.size + 3) wr.heap.size o (mkM k n2 fun i j => F (l.getD i 0).toNat (m.getD j 0).toNat) vs) ∧
      wr.cell? ⟨w.heap.size + 1 + 1, 0, none⟩ = some o ∧ wr.frozen? ⟨w.heap.size + 1 + 1, 0, none⟩ = false ∧ wr.cell? ⟨w.heap.size + 1, 0, none⟩ = some (.slice none 0 0) ∧ wr.frozen? ⟨w.heap.size + 1, 0, none⟩ = false ∧ wr.cell? ⟨w.heap.size, 0, none⟩ = some (.slice A r cp) ∧ Hid (Below w.heap.size w wr) ∧ w.heap.size + 3 ≤ wr.heap.size)
    (fun i _ => n - (intOf i).toNat)
  case atStart => exact ⟨0, .slice none 0 0, [], Nat.zero_le _, rfl, HM0, q2, q2f, q1, q1f, q0, Lib.hid K3.out.to_below, by omega⟩
  case round =>
    obtain ⟨k, o, vs, hk, rfl, HO, hc2, hf2, hc1, hf1, hc0, HB, hsz⟩ := hrel
    clear q0 q1 q1f q2 q2f z3
    by_cases hlt : k < n
    · have hki : (k : Int) < (n : Int) := by omega
      have hkl : k < l.length := by rw [← HN.out]; exact hlt
      obtain ⟨p, hp⟩ := Int.eq_ofNat_of_zero_le (HLO.out k hkl).1
      have hpr : p < r := by have := (HLO.out k hkl).2; omega
      have HP := Lib.hid hp
      obtain ⟨A3, c3, e3, hlc3, hcm3, hx3⟩ := HL.out.below HB.out
      rw [ints_length, ← HN.out] at e3 hlc3 hx3
      simp only [Value.slice.injEq] at e3
      obtain ⟨rfl, z9, rfl⟩ := e3
      clear z9
      obtain ⟨b3, o3, rfl, hb3, hc3⟩ := hx3 (by omega)
      have g3 := hc3 k _ (ints_get l k hkl)
      have e4 : l[k] = (p : Int) := by simp [List.getD, hkl] at hp; exact hp
      rw [e4] at g3
      unfold maxLen at hcm3
      clear hc3 hx3 e4 hp
      obtain ⟨B0, hB0⟩ : ∃ B0, B0 = wr.heap.size := ⟨_, rfl⟩
      have hB1 : B0 ≤ wr.heap.size := by omega
      have hB2 : wr.heap.size ≤ B0 := by omega
      clear hB0
      go_wp2_with fail
      go_loopw [10, 22] (fun y i wq => ∃ mm : Nat, mm ≤ n2 ∧ i = .int .i64 mm ∧ Hid (wq.ownsRow B0 5 1 y mm (bys (mkRow mm fun j => F p (m.getD j 0).toNat))) ∧ Hid (TurnIn 0 0 wr wq))
        (fun _ i _ => n2 - (intOf i).toNat)
      case atStart => exact ⟨0, Nat.zero_le _, rfl, Lib.hid (World.ownsRow_nil _ _ _ _), Lib.hid (TurnIn.refl _)⟩
      case round =>
        obtain ⟨mm, hmm, rfl, HOWN, HT⟩ := hrel
        have hst := HT.out.size
        have hBB := HT.out.base HB.out (by omega) (by omega)
        have HBB := Lib.hid hBB
        have hc0' := cell_turn HT.out hc0 (by omega)
        clear hBB
        by_cases hlm : mm < n2
        · have hmi : (mm : Int) < (n2 : Int) := by omega
          have hml : mm < m.length := by rw [← HN2.out]; exact hlm
          obtain ⟨q, hq⟩ := Int.eq_ofNat_of_zero_le (HMO.out mm hml).1
          have hqr : q < c := by have := (HMO.out mm hml).2; omega
          have HQ := Lib.hid hq
          obtain ⟨A4, c4, e5, hlc4, hcm4, hx4⟩ := HM.out.below HBB.out
          rw [ints_length, ← HN2.out] at e5 hlc4 hx4
          simp only [Value.slice.injEq] at e5
          obtain ⟨rfl, z9, rfl⟩ := e5
          clear z9
          obtain ⟨b4, o4, rfl, hb4, hc4⟩ := hx4 (by omega)
          have g4 := hc4 mm _ (ints_get m mm hml)
          have e4 : m[mm] = (q : Int) := by simp [List.getD, hml] at hq; exact hq
          rw [e4] at g4
          unfold maxLen at hcm4
          obtain ⟨bb, off, cp5, b', off', c', e6, hl5, h5, h6, h7, hl6, h8⟩ := (HS.out.below HBB.out).cellF p q hpr hqr
          simp only [Value.slice.injEq] at e6
          obtain ⟨rfl, z9, rfl⟩ := e6
          clear z9
          unfold maxLen at hl5 hl6
          have hown := HOWN.out
          have HF : Hid (F p (m.getD mm 0).toNat = F p q) := by show F p _ = F p q; rw [HQ.out]; rfl
          have hpi : (p : Int) < (r : Int) := by omega
          have hqi : (q : Int) < (c : Int) := by omega
          clear hc4 hx4 e4 hq
          go_wp2_with (at_builtin; refine wpList_append1 rfl _ _ _ rfl _ 5 _ _ Tryd.underlying22 infoByte rfl _ mm _ rfl (hown.alloc _) wr.heap.size (.int .u8 ((F p q).toNat : Int)) rfl ?c1 rfl ?c2 ?c3 ?c4 ?_)
          case c1 => simp
          case c2 => omega
          case c3 => omega
          case c4 => simp; omega
          intro v' w' hown' hg' _
          have hT2 := turn_trans (turn_trans HT.out (turn_alloc wr (.cells #[.int .u8 ((F p q).toNat : Int)] 5)) (by omega)) (TurnIn.of_grown hg' (fun g e => (hown.alloc (.cells #[.int .u8 ((F p q).toNat : Int)] 5)).lt g e)) (by omega)
          have hown2 : w'.ownsRow B0 5 1 v' (mm + 1) (bys (mkRow (mm + 1) fun j => F p (m.getD j 0).toNat)) := by
            have e : (mkRow (mm + 1) fun j => F p (m.getD j 0).toNat) = (mkRow mm fun j => F p (m.getD j 0).toNat) ++ [F p q] := by
              rw [← HF.out]; simp [mkRow, List.range_succ]
            rw [e, bys_append]; exact hown'
          have HT2 := Lib.hid hT2
          have HOWN2 := Lib.hid hown2
          clear hown' hg' hown2 hT2 hown
          go_wp2_with fail
          go_roundw
          case rel => exact ⟨mm + 1, by omega, by go_num, HOWN2, HT2⟩
          case measure => simp [intOf]; omega
        · obtain rfl : mm = n2 := by omega
          have hmi : ¬ (mm : Int) < (mm : Int) := by omega
          obtain ⟨A5, n5, c5, rfl⟩ := own_isSlice HOWN.out
          obtain ⟨A6, n6, c6, rfl⟩ := HO.out.isSlice
          have hrow : wr.ownsRow (w.heap.size + 3) 22 1 (.slice A6 n6 c6) k vs := by simpa using (HO.out.keep HT.out (by omega)).row
          have hob : ∀ g, (Value.slice A6 n6 c6).ownBlock = some g → w.heap.size + 3 ≤ g := fun g e => (hrow.lt g e).1
          have hne2 : (Value.slice A6 n6 c6).ownBlock ≠ some (w.heap.size + 1 + 1) := fun e => by have := hob _ e; omega
          have hne1 : (Value.slice A6 n6 c6).ownBlock ≠ some (w.heap.size + 1) := fun e => by have := hob _ e; omega
          have hne0 : (Value.slice A6 n6 c6).ownBlock ≠ some w.heap.size := fun e => by have := hob _ e; omega
          have kW := turn_trans HT.out (turn_alloc wr (.cells #[.slice A5 n5 c5] 22)) (by omega)
          have hR : OwnBytes 5 (wr.alloc (.cells #[.slice A5 n5 c5] 22)) B0 wr.heap.size (.slice A5 n5 c5) (mkRow mm fun j => F p (m.getD j 0).toNat) := ⟨by simpa using HOWN.out.alloc _, by simp, fun g e => (HOWN.out.lt g e).2⟩
          have hc2' := cell_turn HT.out hc2 (by omega)
          go_wp2_with (at_builtin; refine wpList_append1 rfl _ _ _ rfl (w.heap.size + 3) 22 _ _ Tryd.underlying77 infoRowB rfl _ k vs rfl (hrow.alloc _) wr.heap.size (.slice A5 n5 c5) rfl ?d1 rfl ?d2 ?d3 ?d4 ?_)
          case d2 => omega
          case d4 => omega
          intro v' w' hown' hg' hv'
          obtain ⟨A7, n7, c7, rfl⟩ := own_isSlice hown'
          have g2 := (cell_past kW hg' hne2 (by omega) 0).trans hc2
          have g2f := (frozen_past kW hg' hne2 (by omega) 0).trans hf2
          have g1 := (cell_past kW hg' hne1 (by omega) 0).trans hc1
          have g1f := (frozen_past kW hg' hne1 (by omega) 0).trans hf1
          have g0 := (cell_past kW hg' hne0 (by omega) 0).trans hc0
          have hM5 := (((HO.out.push kW hR hB2 (by omega) (by simpa using hown') hg' (by rw [World.size_alloc]; exact hv')).keep (turn_setCell w' (w.heap.size + 1 + 1) 0 (.slice A7 n7 c7)) (by omega)).congr (L' := mkM (k + 1) mm fun i j => F (l.getD i 0).toNat (m.getD j 0).toNat) (by rw [mkM_succ, HP.out]; rfl))
          have HM5 := Lib.hid hM5
          have hsw : wr.heap.size ≤ w'.heap.size := by have := hg'.size; have e : (wr.alloc (.cells #[.slice A5 n5 c5] 22)).heap.size = wr.heap.size + 1 := by simp
                                                       omega
          have hb5 : Below w.heap.size w (w'.setCell ⟨w.heap.size + 1 + 1, 0, none⟩ (.slice A7 n7 c7)) := Below.setCell (TurnIn.base (TurnIn.of_grown hg' (fun g e => (hrow.alloc (.cells #[.slice A5 n5 c5] 22)).lt g e)) (kW.base HB.out (by omega) (by omega)) (by have := kW.size; omega) (by omega)) (show w.heap.size ≤ w.heap.size + 1 + 1 by omega) _
          have HB5 := Lib.hid hb5
          clear hM5 hb5 hown' hg' hv' hR kW hrow hob hc0 hc1 hf1 hc2 hf2
          go_wp2_with fail
          go_roundw
          case rel => exact ⟨k + 1, .slice A7 n7 c7, _, by omega, by go_num, Lib.hid (HM5.out.wider (Nat.le_refl _) (by simp) (Nat.le_refl _)), World.cell?_setCell_same _ _ _ g2, by simp [g2f], (cell_set_other w' _ _ _ (by omega)).trans g1, (frozen_set_other w' _ _ _ (by omega)).trans g1f, (cell_set_other w' _ _ _ (by omega)).trans g0, HB5, by simp; omega⟩
          case measure => simp [intOf]; omega
    · obtain rfl : k = n := by omega
      have hki : ¬ (k : Int) < (k : Int) := by omega
      obtain ⟨A9, n9, c9, rfl⟩ := HO.out.isSlice
      go_wp2_with fail
      refine bodyPost_ret (v := .agg #[.slice A9 n9 c9]) (by simp [results, Tryd.results200, go_sem, hc1]) rfl ?_
      have kk := turn_setCell wr (w.heap.size + 1) 0 (.slice A9 n9 c9)
      exact ⟨_, vs, rfl, (HO.out.keep kk (by omega)).wider (by omega) (by simp) (by simp), TurnIn.of_below (HB.out.setCell (Nat.le_succ _) _)⟩

end Go.Proofs.YtjklngheehhggaaDoor
