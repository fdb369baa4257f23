/- Joined texts: SpecInv, SameBytes, StrMem, ShrMem, Arr3, GoodShr, ShrWalks. -/
import Derived.Test.YtblfobbeojdihaaGreatDoorBd11
import Derived.Test.YtblfobbeojdihaaGreatDoorBd06
import Derived.RangeFuncBox
import Derived.RangeFuncNested
import Derived.Test.YtblfobbeojdihaaGreatDoorProg
import Derived.Laws.BytesArg
import Derived.Test.YtblfobbeojdihaaGreatDoorBd02
import Derived.Test.YtblfobbeojdihaaGreatDoorBd01
import Derived.Test.YtblfobbeojdihaaGreatDoorBd03
import Derived.Test.YtblfobbeojdihaaGreatDoorBd04
import Derived.Deep.RegionHeld3
import Derived.BigQuiet
set_option linter.unusedSimpArgs false
set_option linter.unusedVariables false
/- The model's l2Inverse. -/
namespace G294
open Go Go.RowKit
theorem sAlloc {w2 W : World} {a : Addr} {x : Value} (h : Below w2.heap.size w2 W ∧ W.cell? a = some x) (ha : a.block < w2.heap.size) (o : Obj) : Below w2.heap.size w2 (W.alloc o) ∧ (W.alloc o).cell? a = some x := by
  have hb := h.1.alloc h.1.size o
  exact ⟨hb, (((Below.refl _ W).alloc (Nat.le_refl _) o).cell (p := a) (Nat.lt_of_lt_of_le ha h.1.size)).trans h.2⟩
theorem sTurn {w2 W W' : World} {a : Addr} {x : Value} (h : Below w2.heap.size w2 W ∧ W.cell? a = some x) (ha : a.block < w2.heap.size) (k : TurnIn 0 0 W W') : Below w2.heap.size w2 W' ∧ W'.cell? a = some x :=
  ⟨k.base h.1 h.1.size (by omega), (k.to_below.cell (p := a) (Nat.lt_of_lt_of_le ha h.1.size)).trans h.2⟩
theorem sSet {w2 W : World} {a : Addr} {x : Value} (h : Below w2.heap.size w2 W ∧ W.cell? a = some x) (ha : a.block < w2.heap.size) {B : Nat} (hB : w2.heap.size ≤ B) (u : Value) : Below w2.heap.size w2 (W.setCell ⟨B, 0, none⟩ u) ∧ (W.setCell ⟨B, 0, none⟩ u).cell? a = some x :=
  ⟨h.1.setCell (p := ⟨B, 0, none⟩) hB u, (World.cell?_setCell_other _ _ _ _ (fun e => by rw [← e] at ha; simp at ha; omega)).trans h.2⟩
theorem natInt_beq (a b : Nat) : ((a : Int) == (b : Int)) = decide (a = b) := by
  by_cases h : a = b
  · subst h; simp
  · have h2 : ((a : Int) == (b : Int)) = false := by rw [beq_eq_false_iff_ne]; omega
    rw [h2]; simp [h]
theorem Boxed.turn {W W' : World} {B : Nat} {T : TypeId} {v : Value} (h : Boxed W B T v) (k : TurnIn 0 0 W W') : Boxed W' B T v := (k.block B h.lt (by omega)).trans h
theorem boxes1 {w w' : World} {v : Value} {T : TypeId} (k : TurnIn 0 0 (w.alloc (.cells #[v] T)) w') : Boxed w' w.heap.size T v := Boxed.turn (Boxed.new w T v) k
theorem boxes2 {w w' : World} {v v' : Value} {T T' : TypeId} (k : TurnIn 0 0 ((w.alloc (.cells #[v] T)).alloc (.cells #[v'] T')) w') : Boxed w' w.heap.size T v ∧ Boxed w' (w.heap.size + 1) T' v' := by
  refine ⟨Boxed.turn ((Boxed.new w T v).alloc _) k, ?_⟩
  have h := Boxed.turn (Boxed.new (w.alloc (.cells #[v] T)) T' v') k
  rwa [World.size_alloc] at h
end G294
namespace Go.Proofs.YtblfobbeojdihaaGreatDoor
open Go.RowKit G294

set_option maxRecDepth 100000 in
set_option maxHeartbeats 4000000 in
theorem l2Inverse_own (n : Nat) (F : Ents) (v : Value) (w : World) (hs : SeenM w v (mkM n n F)) (hn1 : 1 ≤ n) (hn : n ≤ 1000) :
    Calls Tryz.prog 49 #[.agg #[v]] w (RetMatOk 5 22 w (mkM n n (bst F idF n n)) (decide ((est F n n).2 = n))) := by
  obtain ⟨A, cp, rfl, hlc, hcm⟩ := hs.len
  rw [mkM_length] at *
  unfold maxLen at hcm
  have kB : TurnIn 0 0 w ((w.alloc (.cells #[.slice A n cp] 70)).alloc (.cells #[.slice none 0 0] 70)) := turn_trans (turn_alloc _ _) (turn_alloc _ _) (by omega)
  have zB : ((w.alloc (.cells #[.slice A n cp] 70)).alloc (.cells #[.slice none 0 0] 70)).heap.size = w.heap.size + 2 := by simp
  have q0 : ((w.alloc (.cells #[.slice A n cp] 70)).alloc (.cells #[.slice none 0 0] 70)).cell? ⟨w.heap.size, 0, none⟩ = some (.slice A n cp) := by simp
  have q1 : ((w.alloc (.cells #[.slice A n cp] 70)).alloc (.cells #[.slice none 0 0] 70)).cell? ⟨w.heap.size + 1, 0, none⟩ = some (.slice none 0 0) := by simp
  have q1f : ((w.alloc (.cells #[.slice A n cp] 70)).alloc (.cells #[.slice none 0 0] 70)).frozen? ⟨w.heap.size + 1, 0, none⟩ = false := by simp
  have HS := Lib.hid (hs.touch kB)
  go_enter Tryz.func49, Tryz.ntmps49
  go_wp2_with fail
  generalize ((w.alloc (.cells #[.slice A n cp] 70)).alloc (.cells #[.slice none 0 0] 70)) = w2 at *
  have hB2 : Below w2.heap.size w2 w2 := Below.refl _ _
  have l0 : (⟨w.heap.size, 0, none⟩ : Addr).block < w2.heap.size := by show w.heap.size < w2.heap.size; omega
  have l1 : (⟨w.heap.size + 1, 0, none⟩ : Addr).block < w2.heap.size := by show w.heap.size + 1 < w2.heap.size; omega
  have HZB := Lib.hid zB
  clear zB
  go_region_held3 (fun w' => Below w2.heap.size w2 w' ∧ w'.cell? ⟨w.heap.size, 0, none⟩ = some (.slice A n cp))
    (first | exact ⟨hB2.drew, q0⟩ | exact hS4 | exact sAlloc (by assumption) l0 _ | exact sTurn (by assumption) l0 (by assumption) | exact sSet (by assumption) l0 (by omega) _ | exact sSet (by assumption) l0 (by simp; omega) _ | exact sAlloc (sAlloc hS4 l0 _) l0 _ | exact sAlloc hS4 l0 _ | exact sAlloc (sSet hS4 l0 (by omega) _) l0 _ | exact sSet (sSet hS4 l0 (by omega) _) l0 (by omega) _)
    (first
      | (go_at_call 78; refine (l2Identity_own n _ hn1 hn).mono ?_; rintro e w3 ⟨vI, vsI, rfl, hI, k3⟩; obtain ⟨gI, cpI, rfl, hgI, hgI', hpI, hpI'⟩ := hI.sliceF (by omega); have hz3 := (sTurn (by assumption) l0 k3).1.size; have hk3 := k3.size; (first | (have fA := boxes2 (undrew k3)) | (have fA := boxes1 (undrew k3)) | skip))
      | (go_at_call 77; refine (l2Reduce_own n n n F idF _ _ _ (HS.out.below (And.left (by assumption))) (by first | exact hI.seen | exact (hI.keep (turn_alloc _ _) (by omega)).seen | exact ((hI.keep (turn_alloc _ _) (by omega)).keep (turn_alloc _ _) (by omega)).seen) hn1 hn hn1 hn hn1 hn).mono ?_; rintro e w4 ⟨Aa, na, ca, vb, us, rfl, hO, k4⟩; obtain ⟨gB, cpB, rfl, hgB, hgB', hpB, hpB'⟩ := hO.sliceF (by omega); have hS4 := sTurn (by assumption) l0 k4; have hz4 := hS4.1.size; have hk4 := k4.size; have k34 : TurnIn 0 0 w3 w4 := (by first | exact k4 | exact turn_trans (turn_alloc _ _) k4 (by omega) | exact turn_trans (turn_trans (turn_alloc _ _) (turn_alloc _ _) (by omega)) k4 (by omega)); (try have fac0 : w4.cell? ⟨w2.heap.size, 0, none⟩ = some (.slice none 0 0) := Boxed.cell (Boxed.turn fA k34)); (try have faf0 : w4.frozen? ⟨w2.heap.size, 0, none⟩ = false := Boxed.frozen (Boxed.turn fA k34)); (try have fac1 : (w4.alloc (.cells #[.slice none 0 0] 70)).cell? ⟨w2.heap.size, 0, none⟩ = some (.slice none 0 0) := Boxed.cell (Boxed.alloc (Boxed.turn fA k34) _)); (try have faf1 : (w4.alloc (.cells #[.slice none 0 0] 70)).frozen? ⟨w2.heap.size, 0, none⟩ = false := Boxed.frozen (Boxed.alloc (Boxed.turn fA k34) _)); (try have fbc0 : w4.cell? ⟨w2.heap.size, 0, none⟩ = some (.slice none 0 0) := Boxed.cell (Boxed.turn fA.1 k34)); (try have fbf0 : w4.frozen? ⟨w2.heap.size, 0, none⟩ = false := Boxed.frozen (Boxed.turn fA.1 k34)); (try have fbc1 : (w4.alloc (.cells #[.slice none 0 0] 70)).cell? ⟨w2.heap.size, 0, none⟩ = some (.slice none 0 0) := Boxed.cell (Boxed.alloc (Boxed.turn fA.1 k34) _)); (try have fbf1 : (w4.alloc (.cells #[.slice none 0 0] 70)).frozen? ⟨w2.heap.size, 0, none⟩ = false := Boxed.frozen (Boxed.alloc (Boxed.turn fA.1 k34) _)); (try have fcc0 : w4.cell? ⟨w2.heap.size + 1, 0, none⟩ = some (.slice none 0 0) := Boxed.cell (Boxed.turn fA.2 k34)); (try have fcf0 : w4.frozen? ⟨w2.heap.size + 1, 0, none⟩ = false := Boxed.frozen (Boxed.turn fA.2 k34)); (try have fcc1 : (w4.alloc (.cells #[.slice none 0 0] 70)).cell? ⟨w2.heap.size + 1, 0, none⟩ = some (.slice none 0 0) := Boxed.cell (Boxed.alloc (Boxed.turn fA.2 k34) _)); (try have fcf1 : (w4.alloc (.cells #[.slice none 0 0] 70)).frozen? ⟨w2.heap.size + 1, 0, none⟩ = false := Boxed.frozen (Boxed.alloc (Boxed.turn fA.2 k34) _)); (try have n1 : w2.heap.size ≠ w3.heap.size := Nat.ne_of_lt (Boxed.lt fA)); (try have n2 : w3.heap.size ≠ w2.heap.size := Nat.ne_of_gt (Boxed.lt fA)); (try have gA := boxes2 k4); (try have gD := boxes1 k4); (try have gac0 : w4.cell? ⟨w3.heap.size, 0, none⟩ = some (.slice none 0 0) := Boxed.cell (gA.1)); (try have gaf0 : w4.frozen? ⟨w3.heap.size, 0, none⟩ = false := Boxed.frozen (gA.1)); (try have gac1 : (w4.alloc (.cells #[.slice none 0 0] 70)).cell? ⟨w3.heap.size, 0, none⟩ = some (.slice none 0 0) := Boxed.cell (Boxed.alloc (gA.1) _)); (try have gaf1 : (w4.alloc (.cells #[.slice none 0 0] 70)).frozen? ⟨w3.heap.size, 0, none⟩ = false := Boxed.frozen (Boxed.alloc (gA.1) _)); (try have gbc0 : w4.cell? ⟨w3.heap.size + 1, 0, none⟩ = some (.slice none 0 0) := Boxed.cell (gA.2)); (try have gbf0 : w4.frozen? ⟨w3.heap.size + 1, 0, none⟩ = false := Boxed.frozen (gA.2)); (try have gbc1 : (w4.alloc (.cells #[.slice none 0 0] 70)).cell? ⟨w3.heap.size + 1, 0, none⟩ = some (.slice none 0 0) := Boxed.cell (Boxed.alloc (gA.2) _)); (try have gbf1 : (w4.alloc (.cells #[.slice none 0 0] 70)).frozen? ⟨w3.heap.size + 1, 0, none⟩ = false := Boxed.frozen (Boxed.alloc (gA.2) _)); (try have gcc0 : w4.cell? ⟨w3.heap.size, 0, none⟩ = some (.slice none 0 0) := Boxed.cell (gD)); (try have gcf0 : w4.frozen? ⟨w3.heap.size, 0, none⟩ = false := Boxed.frozen (gD)); (try have gcc1 : (w4.alloc (.cells #[.slice none 0 0] 70)).cell? ⟨w3.heap.size, 0, none⟩ = some (.slice none 0 0) := Boxed.cell (Boxed.alloc (gD) _)); (try have gcf1 : (w4.alloc (.cells #[.slice none 0 0] 70)).frozen? ⟨w3.heap.size, 0, none⟩ = false := Boxed.frozen (Boxed.alloc (gD) _)); (try have n3 : w3.heap.size ≠ w4.heap.size := Nat.ne_of_lt (Boxed.lt gD)); (try have n4 : w4.heap.size ≠ w3.heap.size := Nat.ne_of_gt (Boxed.lt gD)); (try have n5 : w2.heap.size ≠ w4.heap.size := Nat.ne_of_lt (Boxed.lt (Boxed.turn fA k34))); (try have n6 : w4.heap.size ≠ w2.heap.size := Nat.ne_of_gt (Boxed.lt (Boxed.turn fA k34))); (try have xa1 : (w4.alloc (.cells #[.slice Aa na ca] 70)).cell? ⟨w2.heap.size, 0, none⟩ = some (.slice none 0 0) := Boxed.cell (Boxed.alloc (Boxed.turn fA k34) _)); (try have xb1 : (w4.alloc (.cells #[.slice Aa na ca] 70)).frozen? ⟨w2.heap.size, 0, none⟩ = false := Boxed.frozen (Boxed.alloc (Boxed.turn fA k34) _)); (try have xc2 : (w4.setCell ⟨w2.heap.size + 1, 0, none⟩ (.slice Aa na ca)).cell? ⟨w2.heap.size, 0, none⟩ = some (.slice none 0 0) := Boxed.cell (Boxed.other (Boxed.turn fA k34) (by first | omega | exact n1 | exact n2 | exact n3 | exact n4 | exact n5 | exact n6) _)); (try have xd2 : (w4.setCell ⟨w2.heap.size + 1, 0, none⟩ (.slice Aa na ca)).frozen? ⟨w2.heap.size, 0, none⟩ = false := Boxed.frozen (Boxed.other (Boxed.turn fA k34) (by first | omega | exact n1 | exact n2 | exact n3 | exact n4 | exact n5 | exact n6) _)); (try have xc3 : (w4.setCell ⟨w3.heap.size, 0, none⟩ (.slice Aa na ca)).cell? ⟨w2.heap.size, 0, none⟩ = some (.slice none 0 0) := Boxed.cell (Boxed.other (Boxed.turn fA k34) (by first | omega | exact n1 | exact n2 | exact n3 | exact n4 | exact n5 | exact n6) _)); (try have xd3 : (w4.setCell ⟨w3.heap.size, 0, none⟩ (.slice Aa na ca)).frozen? ⟨w2.heap.size, 0, none⟩ = false := Boxed.frozen (Boxed.other (Boxed.turn fA k34) (by first | omega | exact n1 | exact n2 | exact n3 | exact n4 | exact n5 | exact n6) _)); (try have xc4 : (w4.setCell ⟨w3.heap.size + 1, 0, none⟩ (.slice Aa na ca)).cell? ⟨w2.heap.size, 0, none⟩ = some (.slice none 0 0) := Boxed.cell (Boxed.other (Boxed.turn fA k34) (by first | omega | exact n1 | exact n2 | exact n3 | exact n4 | exact n5 | exact n6) _)); (try have xd4 : (w4.setCell ⟨w3.heap.size + 1, 0, none⟩ (.slice Aa na ca)).frozen? ⟨w2.heap.size, 0, none⟩ = false := Boxed.frozen (Boxed.other (Boxed.turn fA k34) (by first | omega | exact n1 | exact n2 | exact n3 | exact n4 | exact n5 | exact n6) _)); (try have xa5 : (w4.alloc (.cells #[.slice Aa na ca] 70)).cell? ⟨w2.heap.size, 0, none⟩ = some (.slice none 0 0) := Boxed.cell (Boxed.alloc (Boxed.turn fA.1 k34) _)); (try have xb5 : (w4.alloc (.cells #[.slice Aa na ca] 70)).frozen? ⟨w2.heap.size, 0, none⟩ = false := Boxed.frozen (Boxed.alloc (Boxed.turn fA.1 k34) _)); (try have xc6 : (w4.setCell ⟨w2.heap.size + 1, 0, none⟩ (.slice Aa na ca)).cell? ⟨w2.heap.size, 0, none⟩ = some (.slice none 0 0) := Boxed.cell (Boxed.other (Boxed.turn fA.1 k34) (by first | omega | exact n1 | exact n2 | exact n3 | exact n4 | exact n5 | exact n6) _)); (try have xd6 : (w4.setCell ⟨w2.heap.size + 1, 0, none⟩ (.slice Aa na ca)).frozen? ⟨w2.heap.size, 0, none⟩ = false := Boxed.frozen (Boxed.other (Boxed.turn fA.1 k34) (by first | omega | exact n1 | exact n2 | exact n3 | exact n4 | exact n5 | exact n6) _)); (try have xc7 : (w4.setCell ⟨w3.heap.size, 0, none⟩ (.slice Aa na ca)).cell? ⟨w2.heap.size, 0, none⟩ = some (.slice none 0 0) := Boxed.cell (Boxed.other (Boxed.turn fA.1 k34) (by first | omega | exact n1 | exact n2 | exact n3 | exact n4 | exact n5 | exact n6) _)); (try have xd7 : (w4.setCell ⟨w3.heap.size, 0, none⟩ (.slice Aa na ca)).frozen? ⟨w2.heap.size, 0, none⟩ = false := Boxed.frozen (Boxed.other (Boxed.turn fA.1 k34) (by first | omega | exact n1 | exact n2 | exact n3 | exact n4 | exact n5 | exact n6) _)); (try have xc8 : (w4.setCell ⟨w3.heap.size + 1, 0, none⟩ (.slice Aa na ca)).cell? ⟨w2.heap.size, 0, none⟩ = some (.slice none 0 0) := Boxed.cell (Boxed.other (Boxed.turn fA.1 k34) (by first | omega | exact n1 | exact n2 | exact n3 | exact n4 | exact n5 | exact n6) _)); (try have xd8 : (w4.setCell ⟨w3.heap.size + 1, 0, none⟩ (.slice Aa na ca)).frozen? ⟨w2.heap.size, 0, none⟩ = false := Boxed.frozen (Boxed.other (Boxed.turn fA.1 k34) (by first | omega | exact n1 | exact n2 | exact n3 | exact n4 | exact n5 | exact n6) _)); (try have xa9 : (w4.alloc (.cells #[.slice Aa na ca] 70)).cell? ⟨w2.heap.size + 1, 0, none⟩ = some (.slice none 0 0) := Boxed.cell (Boxed.alloc (Boxed.turn fA.2 k34) _)); (try have xb9 : (w4.alloc (.cells #[.slice Aa na ca] 70)).frozen? ⟨w2.heap.size + 1, 0, none⟩ = false := Boxed.frozen (Boxed.alloc (Boxed.turn fA.2 k34) _)); (try have xc10 : (w4.setCell ⟨w2.heap.size, 0, none⟩ (.slice Aa na ca)).cell? ⟨w2.heap.size + 1, 0, none⟩ = some (.slice none 0 0) := Boxed.cell (Boxed.other (Boxed.turn fA.2 k34) (by first | omega | exact n1 | exact n2 | exact n3 | exact n4 | exact n5 | exact n6) _)); (try have xd10 : (w4.setCell ⟨w2.heap.size, 0, none⟩ (.slice Aa na ca)).frozen? ⟨w2.heap.size + 1, 0, none⟩ = false := Boxed.frozen (Boxed.other (Boxed.turn fA.2 k34) (by first | omega | exact n1 | exact n2 | exact n3 | exact n4 | exact n5 | exact n6) _)); (try have xc11 : (w4.setCell ⟨w3.heap.size, 0, none⟩ (.slice Aa na ca)).cell? ⟨w2.heap.size + 1, 0, none⟩ = some (.slice none 0 0) := Boxed.cell (Boxed.other (Boxed.turn fA.2 k34) (by first | omega | exact n1 | exact n2 | exact n3 | exact n4 | exact n5 | exact n6) _)); (try have xd11 : (w4.setCell ⟨w3.heap.size, 0, none⟩ (.slice Aa na ca)).frozen? ⟨w2.heap.size + 1, 0, none⟩ = false := Boxed.frozen (Boxed.other (Boxed.turn fA.2 k34) (by first | omega | exact n1 | exact n2 | exact n3 | exact n4 | exact n5 | exact n6) _)); (try have xc12 : (w4.setCell ⟨w3.heap.size + 1, 0, none⟩ (.slice Aa na ca)).cell? ⟨w2.heap.size + 1, 0, none⟩ = some (.slice none 0 0) := Boxed.cell (Boxed.other (Boxed.turn fA.2 k34) (by first | omega | exact n1 | exact n2 | exact n3 | exact n4 | exact n5 | exact n6) _)); (try have xd12 : (w4.setCell ⟨w3.heap.size + 1, 0, none⟩ (.slice Aa na ca)).frozen? ⟨w2.heap.size + 1, 0, none⟩ = false := Boxed.frozen (Boxed.other (Boxed.turn fA.2 k34) (by first | omega | exact n1 | exact n2 | exact n3 | exact n4 | exact n5 | exact n6) _)); (try have xa13 : (w4.alloc (.cells #[.slice Aa na ca] 70)).cell? ⟨w3.heap.size, 0, none⟩ = some (.slice none 0 0) := Boxed.cell (Boxed.alloc (gD) _)); (try have xb13 : (w4.alloc (.cells #[.slice Aa na ca] 70)).frozen? ⟨w3.heap.size, 0, none⟩ = false := Boxed.frozen (Boxed.alloc (gD) _)); (try have xc14 : (w4.setCell ⟨w2.heap.size, 0, none⟩ (.slice Aa na ca)).cell? ⟨w3.heap.size, 0, none⟩ = some (.slice none 0 0) := Boxed.cell (Boxed.other (gD) (by first | omega | exact n1 | exact n2 | exact n3 | exact n4 | exact n5 | exact n6) _)); (try have xd14 : (w4.setCell ⟨w2.heap.size, 0, none⟩ (.slice Aa na ca)).frozen? ⟨w3.heap.size, 0, none⟩ = false := Boxed.frozen (Boxed.other (gD) (by first | omega | exact n1 | exact n2 | exact n3 | exact n4 | exact n5 | exact n6) _)); (try have xc15 : (w4.setCell ⟨w2.heap.size + 1, 0, none⟩ (.slice Aa na ca)).cell? ⟨w3.heap.size, 0, none⟩ = some (.slice none 0 0) := Boxed.cell (Boxed.other (gD) (by first | omega | exact n1 | exact n2 | exact n3 | exact n4 | exact n5 | exact n6) _)); (try have xd15 : (w4.setCell ⟨w2.heap.size + 1, 0, none⟩ (.slice Aa na ca)).frozen? ⟨w3.heap.size, 0, none⟩ = false := Boxed.frozen (Boxed.other (gD) (by first | omega | exact n1 | exact n2 | exact n3 | exact n4 | exact n5 | exact n6) _)); (try have xc16 : (w4.setCell ⟨w3.heap.size + 1, 0, none⟩ (.slice Aa na ca)).cell? ⟨w3.heap.size, 0, none⟩ = some (.slice none 0 0) := Boxed.cell (Boxed.other (gD) (by first | omega | exact n1 | exact n2 | exact n3 | exact n4 | exact n5 | exact n6) _)); (try have xd16 : (w4.setCell ⟨w3.heap.size + 1, 0, none⟩ (.slice Aa na ca)).frozen? ⟨w3.heap.size, 0, none⟩ = false := Boxed.frozen (Boxed.other (gD) (by first | omega | exact n1 | exact n2 | exact n3 | exact n4 | exact n5 | exact n6) _)); (try have xa17 : (w4.alloc (.cells #[.slice Aa na ca] 70)).cell? ⟨w3.heap.size, 0, none⟩ = some (.slice none 0 0) := Boxed.cell (Boxed.alloc (gA.1) _)); (try have xb17 : (w4.alloc (.cells #[.slice Aa na ca] 70)).frozen? ⟨w3.heap.size, 0, none⟩ = false := Boxed.frozen (Boxed.alloc (gA.1) _)); (try have xc18 : (w4.setCell ⟨w2.heap.size, 0, none⟩ (.slice Aa na ca)).cell? ⟨w3.heap.size, 0, none⟩ = some (.slice none 0 0) := Boxed.cell (Boxed.other (gA.1) (by first | omega | exact n1 | exact n2 | exact n3 | exact n4 | exact n5 | exact n6) _)); (try have xd18 : (w4.setCell ⟨w2.heap.size, 0, none⟩ (.slice Aa na ca)).frozen? ⟨w3.heap.size, 0, none⟩ = false := Boxed.frozen (Boxed.other (gA.1) (by first | omega | exact n1 | exact n2 | exact n3 | exact n4 | exact n5 | exact n6) _)); (try have xc19 : (w4.setCell ⟨w2.heap.size + 1, 0, none⟩ (.slice Aa na ca)).cell? ⟨w3.heap.size, 0, none⟩ = some (.slice none 0 0) := Boxed.cell (Boxed.other (gA.1) (by first | omega | exact n1 | exact n2 | exact n3 | exact n4 | exact n5 | exact n6) _)); (try have xd19 : (w4.setCell ⟨w2.heap.size + 1, 0, none⟩ (.slice Aa na ca)).frozen? ⟨w3.heap.size, 0, none⟩ = false := Boxed.frozen (Boxed.other (gA.1) (by first | omega | exact n1 | exact n2 | exact n3 | exact n4 | exact n5 | exact n6) _)); (try have xc20 : (w4.setCell ⟨w3.heap.size + 1, 0, none⟩ (.slice Aa na ca)).cell? ⟨w3.heap.size, 0, none⟩ = some (.slice none 0 0) := Boxed.cell (Boxed.other (gA.1) (by first | omega | exact n1 | exact n2 | exact n3 | exact n4 | exact n5 | exact n6) _)); (try have xd20 : (w4.setCell ⟨w3.heap.size + 1, 0, none⟩ (.slice Aa na ca)).frozen? ⟨w3.heap.size, 0, none⟩ = false := Boxed.frozen (Boxed.other (gA.1) (by first | omega | exact n1 | exact n2 | exact n3 | exact n4 | exact n5 | exact n6) _)); (try have xa21 : (w4.alloc (.cells #[.slice Aa na ca] 70)).cell? ⟨w3.heap.size + 1, 0, none⟩ = some (.slice none 0 0) := Boxed.cell (Boxed.alloc (gA.2) _)); (try have xb21 : (w4.alloc (.cells #[.slice Aa na ca] 70)).frozen? ⟨w3.heap.size + 1, 0, none⟩ = false := Boxed.frozen (Boxed.alloc (gA.2) _)); (try have xc22 : (w4.setCell ⟨w2.heap.size, 0, none⟩ (.slice Aa na ca)).cell? ⟨w3.heap.size + 1, 0, none⟩ = some (.slice none 0 0) := Boxed.cell (Boxed.other (gA.2) (by first | omega | exact n1 | exact n2 | exact n3 | exact n4 | exact n5 | exact n6) _)); (try have xd22 : (w4.setCell ⟨w2.heap.size, 0, none⟩ (.slice Aa na ca)).frozen? ⟨w3.heap.size + 1, 0, none⟩ = false := Boxed.frozen (Boxed.other (gA.2) (by first | omega | exact n1 | exact n2 | exact n3 | exact n4 | exact n5 | exact n6) _)); (try have xc23 : (w4.setCell ⟨w2.heap.size + 1, 0, none⟩ (.slice Aa na ca)).cell? ⟨w3.heap.size + 1, 0, none⟩ = some (.slice none 0 0) := Boxed.cell (Boxed.other (gA.2) (by first | omega | exact n1 | exact n2 | exact n3 | exact n4 | exact n5 | exact n6) _)); (try have xd23 : (w4.setCell ⟨w2.heap.size + 1, 0, none⟩ (.slice Aa na ca)).frozen? ⟨w3.heap.size + 1, 0, none⟩ = false := Boxed.frozen (Boxed.other (gA.2) (by first | omega | exact n1 | exact n2 | exact n3 | exact n4 | exact n5 | exact n6) _)); (try have xc24 : (w4.setCell ⟨w3.heap.size, 0, none⟩ (.slice Aa na ca)).cell? ⟨w3.heap.size + 1, 0, none⟩ = some (.slice none 0 0) := Boxed.cell (Boxed.other (gA.2) (by first | omega | exact n1 | exact n2 | exact n3 | exact n4 | exact n5 | exact n6) _)); (try have xd24 : (w4.setCell ⟨w3.heap.size, 0, none⟩ (.slice Aa na ca)).frozen? ⟨w3.heap.size + 1, 0, none⟩ = false := Boxed.frozen (Boxed.other (gA.2) (by first | omega | exact n1 | exact n2 | exact n3 | exact n4 | exact n5 | exact n6) _)); (try have xe25 : ((w4.setCell ⟨w2.heap.size, 0, none⟩ (.slice Aa na ca)).alloc (.cells #[.slice none 0 0] 70)).cell? ⟨w4.heap.size, 0, none⟩ = some (.slice none 0 0) := by simp); (try have xf25 : ((w4.setCell ⟨w2.heap.size, 0, none⟩ (.slice Aa na ca)).alloc (.cells #[.slice none 0 0] 70)).frozen? ⟨w4.heap.size, 0, none⟩ = false := by simp); (try have xg25 : ((w4.alloc (.cells #[.slice none 0 0] 70)).setCell ⟨w2.heap.size, 0, none⟩ (.slice Aa na ca)).cell? ⟨w4.heap.size, 0, none⟩ = some (.slice none 0 0) := Boxed.cell (Boxed.other (Boxed.new w4 _ _) (by first | omega | exact n1 | exact n2 | exact n3 | exact n4 | exact n5 | exact n6) _)); (try have xh25 : ((w4.alloc (.cells #[.slice none 0 0] 70)).setCell ⟨w2.heap.size, 0, none⟩ (.slice Aa na ca)).frozen? ⟨w4.heap.size, 0, none⟩ = false := Boxed.frozen (Boxed.other (Boxed.new w4 _ _) (by first | omega | exact n1 | exact n2 | exact n3 | exact n4 | exact n5 | exact n6) _)); (try have xe26 : ((w4.setCell ⟨w2.heap.size + 1, 0, none⟩ (.slice Aa na ca)).alloc (.cells #[.slice none 0 0] 70)).cell? ⟨w4.heap.size, 0, none⟩ = some (.slice none 0 0) := by simp); (try have xf26 : ((w4.setCell ⟨w2.heap.size + 1, 0, none⟩ (.slice Aa na ca)).alloc (.cells #[.slice none 0 0] 70)).frozen? ⟨w4.heap.size, 0, none⟩ = false := by simp); (try have xg26 : ((w4.alloc (.cells #[.slice none 0 0] 70)).setCell ⟨w2.heap.size + 1, 0, none⟩ (.slice Aa na ca)).cell? ⟨w4.heap.size, 0, none⟩ = some (.slice none 0 0) := Boxed.cell (Boxed.other (Boxed.new w4 _ _) (by first | omega | exact n1 | exact n2 | exact n3 | exact n4 | exact n5 | exact n6) _)); (try have xh26 : ((w4.alloc (.cells #[.slice none 0 0] 70)).setCell ⟨w2.heap.size + 1, 0, none⟩ (.slice Aa na ca)).frozen? ⟨w4.heap.size, 0, none⟩ = false := Boxed.frozen (Boxed.other (Boxed.new w4 _ _) (by first | omega | exact n1 | exact n2 | exact n3 | exact n4 | exact n5 | exact n6) _)); (try have xe27 : ((w4.setCell ⟨w3.heap.size, 0, none⟩ (.slice Aa na ca)).alloc (.cells #[.slice none 0 0] 70)).cell? ⟨w4.heap.size, 0, none⟩ = some (.slice none 0 0) := by simp); (try have xf27 : ((w4.setCell ⟨w3.heap.size, 0, none⟩ (.slice Aa na ca)).alloc (.cells #[.slice none 0 0] 70)).frozen? ⟨w4.heap.size, 0, none⟩ = false := by simp); (try have xg27 : ((w4.alloc (.cells #[.slice none 0 0] 70)).setCell ⟨w3.heap.size, 0, none⟩ (.slice Aa na ca)).cell? ⟨w4.heap.size, 0, none⟩ = some (.slice none 0 0) := Boxed.cell (Boxed.other (Boxed.new w4 _ _) (by first | omega | exact n1 | exact n2 | exact n3 | exact n4 | exact n5 | exact n6) _)); (try have xh27 : ((w4.alloc (.cells #[.slice none 0 0] 70)).setCell ⟨w3.heap.size, 0, none⟩ (.slice Aa na ca)).frozen? ⟨w4.heap.size, 0, none⟩ = false := Boxed.frozen (Boxed.other (Boxed.new w4 _ _) (by first | omega | exact n1 | exact n2 | exact n3 | exact n4 | exact n5 | exact n6) _)); (try have xe28 : ((w4.setCell ⟨w3.heap.size + 1, 0, none⟩ (.slice Aa na ca)).alloc (.cells #[.slice none 0 0] 70)).cell? ⟨w4.heap.size, 0, none⟩ = some (.slice none 0 0) := by simp); (try have xf28 : ((w4.setCell ⟨w3.heap.size + 1, 0, none⟩ (.slice Aa na ca)).alloc (.cells #[.slice none 0 0] 70)).frozen? ⟨w4.heap.size, 0, none⟩ = false := by simp); (try have xg28 : ((w4.alloc (.cells #[.slice none 0 0] 70)).setCell ⟨w3.heap.size + 1, 0, none⟩ (.slice Aa na ca)).cell? ⟨w4.heap.size, 0, none⟩ = some (.slice none 0 0) := Boxed.cell (Boxed.other (Boxed.new w4 _ _) (by first | omega | exact n1 | exact n2 | exact n3 | exact n4 | exact n5 | exact n6) _)); (try have xh28 : ((w4.alloc (.cells #[.slice none 0 0] 70)).setCell ⟨w3.heap.size + 1, 0, none⟩ (.slice Aa na ca)).frozen? ⟨w4.heap.size, 0, none⟩ = false := Boxed.frozen (Boxed.other (Boxed.new w4 _ _) (by first | omega | exact n1 | exact n2 | exact n3 | exact n4 | exact n5 | exact n6) _))))
  · have hBW : Below w2.heap.size w2 (World.alloc (World.alloc w4 (.cells #[.slice Aa na ca] 70)) (.cells #[.slice (some ⟨gB, 0, none⟩) n cpB] 70)) := And.left (by assumption)
    have hc6 : World.cell? (World.alloc (World.alloc w4 (.cells #[.slice Aa na ca] 70)) (.cells #[.slice (some ⟨gB, 0, none⟩) n cpB] 70)) ⟨w4.heap.size + 1, 0, none⟩ = some (.slice (some ⟨gB, 0, none⟩) n cpB) := by first | (simp; done) | exact World.cell?_setCell_same _ _ _ (by assumption)
    have hO6 : OwnM 5 22 (World.alloc (World.alloc w4 (.cells #[.slice Aa na ca] 70)) (.cells #[.slice (some ⟨gB, 0, none⟩) n cpB] 70)) w2.heap.size (World.heap (World.alloc (World.alloc w4 (.cells #[.slice Aa na ca] 70)) (.cells #[.slice (some ⟨gB, 0, none⟩) n cpB] 70))).size (.slice (some ⟨gB, 0, none⟩) n cpB) (mkM n n (bst F idF n n)) us := OwnM.wider ((hO.keep (turn_alloc _ _) (by first | omega | (simp at * <;> omega))).keep (turn_alloc _ _) (by first | omega | (simp at * <;> omega))) (by first | omega | (simp at * <;> omega)) (by first | (simp; done) | (simp; omega)) (Nat.le_refl _)
    have r1 := (hBW.cell (p := ⟨w.heap.size + 1, 0, none⟩) l1).trans q1
    have r1f := (hBW.frozen (p := ⟨w.heap.size + 1, 0, none⟩) l1).trans q1f
    have HO6 := Lib.hid hO6
    have HBB := Lib.hid (kB.to_below.trans (hBW.mono kB.size))
    clear hO6 hBW
    generalize (World.alloc (World.alloc w4 (.cells #[.slice Aa na ca] 70)) (.cells #[.slice (some ⟨gB, 0, none⟩) n cpB] 70)) = Wf at *
    generalize (w4.heap.size + 1) = b6 at *
    have HEQ : (((est F n n).2 : Int) == (n : Int)) = decide ((est F n n).2 = n) := natInt_beq _ _
    generalize hee : decide ((est F n n).2 = n) = db at *
    generalize (est F n n).2 = ee at *
    go_wp2_with fail
    refine bodyPost_ret (v := .tuple #[.agg #[.slice (some ⟨gB, 0, none⟩) n cpB], .bool db]) (by simp [results, Tryz.results49, go_sem, r1]) rfl ?_
    have kk := turn_setCell Wf (w.heap.size + 1) 0 (.slice (some ⟨gB, 0, none⟩) n cpB)
    have hzb := HZB.out
    have hbw := HBB.out.setCell (p := ⟨w.heap.size + 1, 0, none⟩) (Nat.le_succ _) (.slice (some ⟨gB, 0, none⟩) n cpB)
    exact ⟨_, us, rfl, (HO6.out.keep kk (by omega)).wider (by omega) (by simp) (by simp), TurnIn.of_below hbw⟩
  · have hBW : Below w2.heap.size w2 (World.alloc (World.alloc w4 (.cells #[.slice (some ⟨gB, 0, none⟩) n cpB] 70)) (.cells #[.slice Aa na ca] 70)) := And.left (by assumption)
    have hc6 : World.cell? (World.alloc (World.alloc w4 (.cells #[.slice (some ⟨gB, 0, none⟩) n cpB] 70)) (.cells #[.slice Aa na ca] 70)) ⟨w4.heap.size, 0, none⟩ = some (.slice (some ⟨gB, 0, none⟩) n cpB) := by first | (simp; done) | exact World.cell?_setCell_same _ _ _ (by assumption)
    have hO6 : OwnM 5 22 (World.alloc (World.alloc w4 (.cells #[.slice (some ⟨gB, 0, none⟩) n cpB] 70)) (.cells #[.slice Aa na ca] 70)) w2.heap.size (World.heap (World.alloc (World.alloc w4 (.cells #[.slice (some ⟨gB, 0, none⟩) n cpB] 70)) (.cells #[.slice Aa na ca] 70))).size (.slice (some ⟨gB, 0, none⟩) n cpB) (mkM n n (bst F idF n n)) us := OwnM.wider ((hO.keep (turn_alloc _ _) (by first | omega | (simp at * <;> omega))).keep (turn_alloc _ _) (by first | omega | (simp at * <;> omega))) (by first | omega | (simp at * <;> omega)) (by first | (simp; done) | (simp; omega)) (Nat.le_refl _)
    have r1 := (hBW.cell (p := ⟨w.heap.size + 1, 0, none⟩) l1).trans q1
    have r1f := (hBW.frozen (p := ⟨w.heap.size + 1, 0, none⟩) l1).trans q1f
    have HO6 := Lib.hid hO6
    have HBB := Lib.hid (kB.to_below.trans (hBW.mono kB.size))
    clear hO6 hBW
    generalize (World.alloc (World.alloc w4 (.cells #[.slice (some ⟨gB, 0, none⟩) n cpB] 70)) (.cells #[.slice Aa na ca] 70)) = Wf at *
    generalize (w4.heap.size) = b6 at *
    have HEQ : (((est F n n).2 : Int) == (n : Int)) = decide ((est F n n).2 = n) := natInt_beq _ _
    generalize hee : decide ((est F n n).2 = n) = db at *
    generalize (est F n n).2 = ee at *
    go_wp2_with fail
    refine bodyPost_ret (v := .tuple #[.agg #[.slice (some ⟨gB, 0, none⟩) n cpB], .bool db]) (by simp [results, Tryz.results49, go_sem, r1]) rfl ?_
    have kk := turn_setCell Wf (w.heap.size + 1) 0 (.slice (some ⟨gB, 0, none⟩) n cpB)
    have hzb := HZB.out
    have hbw := HBB.out.setCell (p := ⟨w.heap.size + 1, 0, none⟩) (Nat.le_succ _) (.slice (some ⟨gB, 0, none⟩) n cpB)
    exact ⟨_, us, rfl, (HO6.out.keep kk (by omega)).wider (by omega) (by simp) (by simp), TurnIn.of_below hbw⟩
  · have hBW : Below w2.heap.size w2 (World.setCell (World.setCell (World.alloc w4 (.cells #[.slice none 0 0] 70)) ⟨w3.heap.size, 0, none⟩ (.slice Aa na ca)) ⟨w4.heap.size, 0, none⟩ (.slice (some ⟨gB, 0, none⟩) n cpB)) := And.left (by assumption)
    have hc6 : World.cell? (World.setCell (World.setCell (World.alloc w4 (.cells #[.slice none 0 0] 70)) ⟨w3.heap.size, 0, none⟩ (.slice Aa na ca)) ⟨w4.heap.size, 0, none⟩ (.slice (some ⟨gB, 0, none⟩) n cpB)) ⟨w4.heap.size, 0, none⟩ = some (.slice (some ⟨gB, 0, none⟩) n cpB) := by first | (simp; done) | exact World.cell?_setCell_same _ _ _ (by assumption)
    have hO6 : OwnM 5 22 (World.setCell (World.setCell (World.alloc w4 (.cells #[.slice none 0 0] 70)) ⟨w3.heap.size, 0, none⟩ (.slice Aa na ca)) ⟨w4.heap.size, 0, none⟩ (.slice (some ⟨gB, 0, none⟩) n cpB)) w2.heap.size (World.heap (World.setCell (World.setCell (World.alloc w4 (.cells #[.slice none 0 0] 70)) ⟨w3.heap.size, 0, none⟩ (.slice Aa na ca)) ⟨w4.heap.size, 0, none⟩ (.slice (some ⟨gB, 0, none⟩) n cpB))).size (.slice (some ⟨gB, 0, none⟩) n cpB) (mkM n n (bst F idF n n)) us := OwnM.wider (((hO.keep (turn_alloc _ _) (by first | omega | (simp at * <;> omega))).keep (turn_setCell _ _ 0 _) (by first | omega | (simp at * <;> omega))).keep (turn_setCell _ _ 0 _) (by first | omega | (simp at * <;> omega))) (by first | omega | (simp at * <;> omega)) (by first | (simp; done) | (simp; omega)) (Nat.le_refl _)
    have r1 := (hBW.cell (p := ⟨w.heap.size + 1, 0, none⟩) l1).trans q1
    have r1f := (hBW.frozen (p := ⟨w.heap.size + 1, 0, none⟩) l1).trans q1f
    have HO6 := Lib.hid hO6
    have HBB := Lib.hid (kB.to_below.trans (hBW.mono kB.size))
    clear hO6 hBW
    generalize (World.setCell (World.setCell (World.alloc w4 (.cells #[.slice none 0 0] 70)) ⟨w3.heap.size, 0, none⟩ (.slice Aa na ca)) ⟨w4.heap.size, 0, none⟩ (.slice (some ⟨gB, 0, none⟩) n cpB)) = Wf at *
    generalize (w4.heap.size) = b6 at *
    have HEQ : (((est F n n).2 : Int) == (n : Int)) = decide ((est F n n).2 = n) := natInt_beq _ _
    generalize hee : decide ((est F n n).2 = n) = db at *
    generalize (est F n n).2 = ee at *
    go_wp2_with fail
    refine bodyPost_ret (v := .tuple #[.agg #[.slice (some ⟨gB, 0, none⟩) n cpB], .bool db]) (by simp [results, Tryz.results49, go_sem, r1]) rfl ?_
    have kk := turn_setCell Wf (w.heap.size + 1) 0 (.slice (some ⟨gB, 0, none⟩) n cpB)
    have hzb := HZB.out
    have hbw := HBB.out.setCell (p := ⟨w.heap.size + 1, 0, none⟩) (Nat.le_succ _) (.slice (some ⟨gB, 0, none⟩) n cpB)
    exact ⟨_, us, rfl, (HO6.out.keep kk (by omega)).wider (by omega) (by simp) (by simp), TurnIn.of_below hbw⟩
  · have hBW : Below w2.heap.size w2 (World.setCell (World.setCell w4 ⟨w3.heap.size, 0, none⟩ (.slice Aa na ca)) ⟨w3.heap.size + 1, 0, none⟩ (.slice (some ⟨gB, 0, none⟩) n cpB)) := And.left (by assumption)
    have hc6 : World.cell? (World.setCell (World.setCell w4 ⟨w3.heap.size, 0, none⟩ (.slice Aa na ca)) ⟨w3.heap.size + 1, 0, none⟩ (.slice (some ⟨gB, 0, none⟩) n cpB)) ⟨w3.heap.size + 1, 0, none⟩ = some (.slice (some ⟨gB, 0, none⟩) n cpB) := by first | (simp; done) | exact World.cell?_setCell_same _ _ _ (by assumption)
    have hO6 : OwnM 5 22 (World.setCell (World.setCell w4 ⟨w3.heap.size, 0, none⟩ (.slice Aa na ca)) ⟨w3.heap.size + 1, 0, none⟩ (.slice (some ⟨gB, 0, none⟩) n cpB)) w2.heap.size (World.heap (World.setCell (World.setCell w4 ⟨w3.heap.size, 0, none⟩ (.slice Aa na ca)) ⟨w3.heap.size + 1, 0, none⟩ (.slice (some ⟨gB, 0, none⟩) n cpB))).size (.slice (some ⟨gB, 0, none⟩) n cpB) (mkM n n (bst F idF n n)) us := OwnM.wider ((hO.keep (turn_setCell _ _ 0 _) (by first | omega | (simp at * <;> omega))).keep (turn_setCell _ _ 0 _) (by first | omega | (simp at * <;> omega))) (by first | omega | (simp at * <;> omega)) (by first | (simp; done) | (simp; omega)) (Nat.le_refl _)
    have r1 := (hBW.cell (p := ⟨w.heap.size + 1, 0, none⟩) l1).trans q1
    have r1f := (hBW.frozen (p := ⟨w.heap.size + 1, 0, none⟩) l1).trans q1f
    have HO6 := Lib.hid hO6
    have HBB := Lib.hid (kB.to_below.trans (hBW.mono kB.size))
    clear hO6 hBW
    generalize (World.setCell (World.setCell w4 ⟨w3.heap.size, 0, none⟩ (.slice Aa na ca)) ⟨w3.heap.size + 1, 0, none⟩ (.slice (some ⟨gB, 0, none⟩) n cpB)) = Wf at *
    generalize (w3.heap.size + 1) = b6 at *
    have HEQ : (((est F n n).2 : Int) == (n : Int)) = decide ((est F n n).2 = n) := natInt_beq _ _
    generalize hee : decide ((est F n n).2 = n) = db at *
    generalize (est F n n).2 = ee at *
    go_wp2_with fail
    refine bodyPost_ret (v := .tuple #[.agg #[.slice (some ⟨gB, 0, none⟩) n cpB], .bool db]) (by simp [results, Tryz.results49, go_sem, r1]) rfl ?_
    have kk := turn_setCell Wf (w.heap.size + 1) 0 (.slice (some ⟨gB, 0, none⟩) n cpB)
    have hzb := HZB.out
    have hbw := HBB.out.setCell (p := ⟨w.heap.size + 1, 0, none⟩) (Nat.le_succ _) (.slice (some ⟨gB, 0, none⟩) n cpB)
    exact ⟨_, us, rfl, (HO6.out.keep kk (by omega)).wider (by omega) (by simp) (by simp), TurnIn.of_below hbw⟩
  · have hBW : Below w2.heap.size w2 (World.setCell (World.alloc w4 (.cells #[.slice Aa na ca] 70)) ⟨w3.heap.size, 0, none⟩ (.slice (some ⟨gB, 0, none⟩) n cpB)) := And.left (by assumption)
    have hc6 : World.cell? (World.setCell (World.alloc w4 (.cells #[.slice Aa na ca] 70)) ⟨w3.heap.size, 0, none⟩ (.slice (some ⟨gB, 0, none⟩) n cpB)) ⟨w3.heap.size, 0, none⟩ = some (.slice (some ⟨gB, 0, none⟩) n cpB) := by first | (simp; done) | exact World.cell?_setCell_same _ _ _ (by assumption)
    have hO6 : OwnM 5 22 (World.setCell (World.alloc w4 (.cells #[.slice Aa na ca] 70)) ⟨w3.heap.size, 0, none⟩ (.slice (some ⟨gB, 0, none⟩) n cpB)) w2.heap.size (World.heap (World.setCell (World.alloc w4 (.cells #[.slice Aa na ca] 70)) ⟨w3.heap.size, 0, none⟩ (.slice (some ⟨gB, 0, none⟩) n cpB))).size (.slice (some ⟨gB, 0, none⟩) n cpB) (mkM n n (bst F idF n n)) us := OwnM.wider ((hO.keep (turn_alloc _ _) (by first | omega | (simp at * <;> omega))).keep (turn_setCell _ _ 0 _) (by first | omega | (simp at * <;> omega))) (by first | omega | (simp at * <;> omega)) (by first | (simp; done) | (simp; omega)) (Nat.le_refl _)
    have r1 := (hBW.cell (p := ⟨w.heap.size + 1, 0, none⟩) l1).trans q1
    have r1f := (hBW.frozen (p := ⟨w.heap.size + 1, 0, none⟩) l1).trans q1f
    have HO6 := Lib.hid hO6
    have HBB := Lib.hid (kB.to_below.trans (hBW.mono kB.size))
    clear hO6 hBW
    generalize (World.setCell (World.alloc w4 (.cells #[.slice Aa na ca] 70)) ⟨w3.heap.size, 0, none⟩ (.slice (some ⟨gB, 0, none⟩) n cpB)) = Wf at *
    generalize (w3.heap.size) = b6 at *
    have HEQ : (((est F n n).2 : Int) == (n : Int)) = decide ((est F n n).2 = n) := natInt_beq _ _
    generalize hee : decide ((est F n n).2 = n) = db at *
    generalize (est F n n).2 = ee at *
    go_wp2_with fail
    refine bodyPost_ret (v := .tuple #[.agg #[.slice (some ⟨gB, 0, none⟩) n cpB], .bool db]) (by simp [results, Tryz.results49, go_sem, r1]) rfl ?_
    have kk := turn_setCell Wf (w.heap.size + 1) 0 (.slice (some ⟨gB, 0, none⟩) n cpB)
    have hzb := HZB.out
    have hbw := HBB.out.setCell (p := ⟨w.heap.size + 1, 0, none⟩) (Nat.le_succ _) (.slice (some ⟨gB, 0, none⟩) n cpB)
    exact ⟨_, us, rfl, (HO6.out.keep kk (by omega)).wider (by omega) (by simp) (by simp), TurnIn.of_below hbw⟩
  · have hBW : Below w2.heap.size w2 (World.setCell (World.setCell w4 ⟨w3.heap.size + 1, 0, none⟩ (.slice Aa na ca)) ⟨w3.heap.size, 0, none⟩ (.slice (some ⟨gB, 0, none⟩) n cpB)) := And.left (by assumption)
    have hc6 : World.cell? (World.setCell (World.setCell w4 ⟨w3.heap.size + 1, 0, none⟩ (.slice Aa na ca)) ⟨w3.heap.size, 0, none⟩ (.slice (some ⟨gB, 0, none⟩) n cpB)) ⟨w3.heap.size, 0, none⟩ = some (.slice (some ⟨gB, 0, none⟩) n cpB) := by first | (simp; done) | exact World.cell?_setCell_same _ _ _ (by assumption)
    have hO6 : OwnM 5 22 (World.setCell (World.setCell w4 ⟨w3.heap.size + 1, 0, none⟩ (.slice Aa na ca)) ⟨w3.heap.size, 0, none⟩ (.slice (some ⟨gB, 0, none⟩) n cpB)) w2.heap.size (World.heap (World.setCell (World.setCell w4 ⟨w3.heap.size + 1, 0, none⟩ (.slice Aa na ca)) ⟨w3.heap.size, 0, none⟩ (.slice (some ⟨gB, 0, none⟩) n cpB))).size (.slice (some ⟨gB, 0, none⟩) n cpB) (mkM n n (bst F idF n n)) us := OwnM.wider ((hO.keep (turn_setCell _ _ 0 _) (by first | omega | (simp at * <;> omega))).keep (turn_setCell _ _ 0 _) (by first | omega | (simp at * <;> omega))) (by first | omega | (simp at * <;> omega)) (by first | (simp; done) | (simp; omega)) (Nat.le_refl _)
    have r1 := (hBW.cell (p := ⟨w.heap.size + 1, 0, none⟩) l1).trans q1
    have r1f := (hBW.frozen (p := ⟨w.heap.size + 1, 0, none⟩) l1).trans q1f
    have HO6 := Lib.hid hO6
    have HBB := Lib.hid (kB.to_below.trans (hBW.mono kB.size))
    clear hO6 hBW
    generalize (World.setCell (World.setCell w4 ⟨w3.heap.size + 1, 0, none⟩ (.slice Aa na ca)) ⟨w3.heap.size, 0, none⟩ (.slice (some ⟨gB, 0, none⟩) n cpB)) = Wf at *
    generalize (w3.heap.size) = b6 at *
    have HEQ : (((est F n n).2 : Int) == (n : Int)) = decide ((est F n n).2 = n) := natInt_beq _ _
    generalize hee : decide ((est F n n).2 = n) = db at *
    generalize (est F n n).2 = ee at *
    go_wp2_with fail
    refine bodyPost_ret (v := .tuple #[.agg #[.slice (some ⟨gB, 0, none⟩) n cpB], .bool db]) (by simp [results, Tryz.results49, go_sem, r1]) rfl ?_
    have kk := turn_setCell Wf (w.heap.size + 1) 0 (.slice (some ⟨gB, 0, none⟩) n cpB)
    have hzb := HZB.out
    have hbw := HBB.out.setCell (p := ⟨w.heap.size + 1, 0, none⟩) (Nat.le_succ _) (.slice (some ⟨gB, 0, none⟩) n cpB)
    exact ⟨_, us, rfl, (HO6.out.keep kk (by omega)).wider (by omega) (by simp) (by simp), TurnIn.of_below hbw⟩
  · have hBW : Below w2.heap.size w2 (World.setCell (World.setCell (World.alloc w4 (.cells #[.slice none 0 0] 70)) ⟨w2.heap.size, 0, none⟩ (.slice Aa na ca)) ⟨w4.heap.size, 0, none⟩ (.slice (some ⟨gB, 0, none⟩) n cpB)) := And.left (by assumption)
    have hc6 : World.cell? (World.setCell (World.setCell (World.alloc w4 (.cells #[.slice none 0 0] 70)) ⟨w2.heap.size, 0, none⟩ (.slice Aa na ca)) ⟨w4.heap.size, 0, none⟩ (.slice (some ⟨gB, 0, none⟩) n cpB)) ⟨w4.heap.size, 0, none⟩ = some (.slice (some ⟨gB, 0, none⟩) n cpB) := by first | (simp; done) | exact World.cell?_setCell_same _ _ _ (by assumption)
    have hO6 : OwnM 5 22 (World.setCell (World.setCell (World.alloc w4 (.cells #[.slice none 0 0] 70)) ⟨w2.heap.size, 0, none⟩ (.slice Aa na ca)) ⟨w4.heap.size, 0, none⟩ (.slice (some ⟨gB, 0, none⟩) n cpB)) w2.heap.size (World.heap (World.setCell (World.setCell (World.alloc w4 (.cells #[.slice none 0 0] 70)) ⟨w2.heap.size, 0, none⟩ (.slice Aa na ca)) ⟨w4.heap.size, 0, none⟩ (.slice (some ⟨gB, 0, none⟩) n cpB))).size (.slice (some ⟨gB, 0, none⟩) n cpB) (mkM n n (bst F idF n n)) us := OwnM.wider (((hO.keep (turn_alloc _ _) (by first | omega | (simp at * <;> omega))).keep (turn_setCell _ _ 0 _) (by first | omega | (simp at * <;> omega))).keep (turn_setCell _ _ 0 _) (by first | omega | (simp at * <;> omega))) (by first | omega | (simp at * <;> omega)) (by first | (simp; done) | (simp; omega)) (Nat.le_refl _)
    have r1 := (hBW.cell (p := ⟨w.heap.size + 1, 0, none⟩) l1).trans q1
    have r1f := (hBW.frozen (p := ⟨w.heap.size + 1, 0, none⟩) l1).trans q1f
    have HO6 := Lib.hid hO6
    have HBB := Lib.hid (kB.to_below.trans (hBW.mono kB.size))
    clear hO6 hBW
    generalize (World.setCell (World.setCell (World.alloc w4 (.cells #[.slice none 0 0] 70)) ⟨w2.heap.size, 0, none⟩ (.slice Aa na ca)) ⟨w4.heap.size, 0, none⟩ (.slice (some ⟨gB, 0, none⟩) n cpB)) = Wf at *
    generalize (w4.heap.size) = b6 at *
    have HEQ : (((est F n n).2 : Int) == (n : Int)) = decide ((est F n n).2 = n) := natInt_beq _ _
    generalize hee : decide ((est F n n).2 = n) = db at *
    generalize (est F n n).2 = ee at *
    go_wp2_with fail
    refine bodyPost_ret (v := .tuple #[.agg #[.slice (some ⟨gB, 0, none⟩) n cpB], .bool db]) (by simp [results, Tryz.results49, go_sem, r1]) rfl ?_
    have kk := turn_setCell Wf (w.heap.size + 1) 0 (.slice (some ⟨gB, 0, none⟩) n cpB)
    have hzb := HZB.out
    have hbw := HBB.out.setCell (p := ⟨w.heap.size + 1, 0, none⟩) (Nat.le_succ _) (.slice (some ⟨gB, 0, none⟩) n cpB)
    exact ⟨_, us, rfl, (HO6.out.keep kk (by omega)).wider (by omega) (by simp) (by simp), TurnIn.of_below hbw⟩
  · have hBW : Below w2.heap.size w2 (World.setCell (World.setCell w4 ⟨w2.heap.size, 0, none⟩ (.slice Aa na ca)) ⟨w3.heap.size, 0, none⟩ (.slice (some ⟨gB, 0, none⟩) n cpB)) := And.left (by assumption)
    have hc6 : World.cell? (World.setCell (World.setCell w4 ⟨w2.heap.size, 0, none⟩ (.slice Aa na ca)) ⟨w3.heap.size, 0, none⟩ (.slice (some ⟨gB, 0, none⟩) n cpB)) ⟨w3.heap.size, 0, none⟩ = some (.slice (some ⟨gB, 0, none⟩) n cpB) := by first | (simp; done) | exact World.cell?_setCell_same _ _ _ (by assumption)
    have hO6 : OwnM 5 22 (World.setCell (World.setCell w4 ⟨w2.heap.size, 0, none⟩ (.slice Aa na ca)) ⟨w3.heap.size, 0, none⟩ (.slice (some ⟨gB, 0, none⟩) n cpB)) w2.heap.size (World.heap (World.setCell (World.setCell w4 ⟨w2.heap.size, 0, none⟩ (.slice Aa na ca)) ⟨w3.heap.size, 0, none⟩ (.slice (some ⟨gB, 0, none⟩) n cpB))).size (.slice (some ⟨gB, 0, none⟩) n cpB) (mkM n n (bst F idF n n)) us := OwnM.wider ((hO.keep (turn_setCell _ _ 0 _) (by first | omega | (simp at * <;> omega))).keep (turn_setCell _ _ 0 _) (by first | omega | (simp at * <;> omega))) (by first | omega | (simp at * <;> omega)) (by first | (simp; done) | (simp; omega)) (Nat.le_refl _)
    have r1 := (hBW.cell (p := ⟨w.heap.size + 1, 0, none⟩) l1).trans q1
    have r1f := (hBW.frozen (p := ⟨w.heap.size + 1, 0, none⟩) l1).trans q1f
    have HO6 := Lib.hid hO6
    have HBB := Lib.hid (kB.to_below.trans (hBW.mono kB.size))
    clear hO6 hBW
    generalize (World.setCell (World.setCell w4 ⟨w2.heap.size, 0, none⟩ (.slice Aa na ca)) ⟨w3.heap.size, 0, none⟩ (.slice (some ⟨gB, 0, none⟩) n cpB)) = Wf at *
    generalize (w3.heap.size) = b6 at *
    have HEQ : (((est F n n).2 : Int) == (n : Int)) = decide ((est F n n).2 = n) := natInt_beq _ _
    generalize hee : decide ((est F n n).2 = n) = db at *
    generalize (est F n n).2 = ee at *
    go_wp2_with fail
    refine bodyPost_ret (v := .tuple #[.agg #[.slice (some ⟨gB, 0, none⟩) n cpB], .bool db]) (by simp [results, Tryz.results49, go_sem, r1]) rfl ?_
    have kk := turn_setCell Wf (w.heap.size + 1) 0 (.slice (some ⟨gB, 0, none⟩) n cpB)
    have hzb := HZB.out
    have hbw := HBB.out.setCell (p := ⟨w.heap.size + 1, 0, none⟩) (Nat.le_succ _) (.slice (some ⟨gB, 0, none⟩) n cpB)
    exact ⟨_, us, rfl, (HO6.out.keep kk (by omega)).wider (by omega) (by simp) (by simp), TurnIn.of_below hbw⟩
  · have hBW : Below w2.heap.size w2 (World.setCell (World.setCell w4 ⟨w2.heap.size, 0, none⟩ (.slice Aa na ca)) ⟨w2.heap.size + 1, 0, none⟩ (.slice (some ⟨gB, 0, none⟩) n cpB)) := And.left (by assumption)
    have hc6 : World.cell? (World.setCell (World.setCell w4 ⟨w2.heap.size, 0, none⟩ (.slice Aa na ca)) ⟨w2.heap.size + 1, 0, none⟩ (.slice (some ⟨gB, 0, none⟩) n cpB)) ⟨w2.heap.size + 1, 0, none⟩ = some (.slice (some ⟨gB, 0, none⟩) n cpB) := by first | (simp; done) | exact World.cell?_setCell_same _ _ _ (by assumption)
    have hO6 : OwnM 5 22 (World.setCell (World.setCell w4 ⟨w2.heap.size, 0, none⟩ (.slice Aa na ca)) ⟨w2.heap.size + 1, 0, none⟩ (.slice (some ⟨gB, 0, none⟩) n cpB)) w2.heap.size (World.heap (World.setCell (World.setCell w4 ⟨w2.heap.size, 0, none⟩ (.slice Aa na ca)) ⟨w2.heap.size + 1, 0, none⟩ (.slice (some ⟨gB, 0, none⟩) n cpB))).size (.slice (some ⟨gB, 0, none⟩) n cpB) (mkM n n (bst F idF n n)) us := OwnM.wider ((hO.keep (turn_setCell _ _ 0 _) (by first | omega | (simp at * <;> omega))).keep (turn_setCell _ _ 0 _) (by first | omega | (simp at * <;> omega))) (by first | omega | (simp at * <;> omega)) (by first | (simp; done) | (simp; omega)) (Nat.le_refl _)
    have r1 := (hBW.cell (p := ⟨w.heap.size + 1, 0, none⟩) l1).trans q1
    have r1f := (hBW.frozen (p := ⟨w.heap.size + 1, 0, none⟩) l1).trans q1f
    have HO6 := Lib.hid hO6
    have HBB := Lib.hid (kB.to_below.trans (hBW.mono kB.size))
    clear hO6 hBW
    generalize (World.setCell (World.setCell w4 ⟨w2.heap.size, 0, none⟩ (.slice Aa na ca)) ⟨w2.heap.size + 1, 0, none⟩ (.slice (some ⟨gB, 0, none⟩) n cpB)) = Wf at *
    generalize (w2.heap.size + 1) = b6 at *
    have HEQ : (((est F n n).2 : Int) == (n : Int)) = decide ((est F n n).2 = n) := natInt_beq _ _
    generalize hee : decide ((est F n n).2 = n) = db at *
    generalize (est F n n).2 = ee at *
    go_wp2_with fail
    refine bodyPost_ret (v := .tuple #[.agg #[.slice (some ⟨gB, 0, none⟩) n cpB], .bool db]) (by simp [results, Tryz.results49, go_sem, r1]) rfl ?_
    have kk := turn_setCell Wf (w.heap.size + 1) 0 (.slice (some ⟨gB, 0, none⟩) n cpB)
    have hzb := HZB.out
    have hbw := HBB.out.setCell (p := ⟨w.heap.size + 1, 0, none⟩) (Nat.le_succ _) (.slice (some ⟨gB, 0, none⟩) n cpB)
    exact ⟨_, us, rfl, (HO6.out.keep kk (by omega)).wider (by omega) (by simp) (by simp), TurnIn.of_below hbw⟩
  · have hBW : Below w2.heap.size w2 (World.setCell (World.alloc w4 (.cells #[.slice Aa na ca] 70)) ⟨w2.heap.size, 0, none⟩ (.slice (some ⟨gB, 0, none⟩) n cpB)) := And.left (by assumption)
    have hc6 : World.cell? (World.setCell (World.alloc w4 (.cells #[.slice Aa na ca] 70)) ⟨w2.heap.size, 0, none⟩ (.slice (some ⟨gB, 0, none⟩) n cpB)) ⟨w2.heap.size, 0, none⟩ = some (.slice (some ⟨gB, 0, none⟩) n cpB) := by first | (simp; done) | exact World.cell?_setCell_same _ _ _ (by assumption)
    have hO6 : OwnM 5 22 (World.setCell (World.alloc w4 (.cells #[.slice Aa na ca] 70)) ⟨w2.heap.size, 0, none⟩ (.slice (some ⟨gB, 0, none⟩) n cpB)) w2.heap.size (World.heap (World.setCell (World.alloc w4 (.cells #[.slice Aa na ca] 70)) ⟨w2.heap.size, 0, none⟩ (.slice (some ⟨gB, 0, none⟩) n cpB))).size (.slice (some ⟨gB, 0, none⟩) n cpB) (mkM n n (bst F idF n n)) us := OwnM.wider ((hO.keep (turn_alloc _ _) (by first | omega | (simp at * <;> omega))).keep (turn_setCell _ _ 0 _) (by first | omega | (simp at * <;> omega))) (by first | omega | (simp at * <;> omega)) (by first | (simp; done) | (simp; omega)) (Nat.le_refl _)
    have r1 := (hBW.cell (p := ⟨w.heap.size + 1, 0, none⟩) l1).trans q1
    have r1f := (hBW.frozen (p := ⟨w.heap.size + 1, 0, none⟩) l1).trans q1f
    have HO6 := Lib.hid hO6
    have HBB := Lib.hid (kB.to_below.trans (hBW.mono kB.size))
    clear hO6 hBW
    generalize (World.setCell (World.alloc w4 (.cells #[.slice Aa na ca] 70)) ⟨w2.heap.size, 0, none⟩ (.slice (some ⟨gB, 0, none⟩) n cpB)) = Wf at *
    generalize (w2.heap.size) = b6 at *
    have HEQ : (((est F n n).2 : Int) == (n : Int)) = decide ((est F n n).2 = n) := natInt_beq _ _
    generalize hee : decide ((est F n n).2 = n) = db at *
    generalize (est F n n).2 = ee at *
    go_wp2_with fail
    refine bodyPost_ret (v := .tuple #[.agg #[.slice (some ⟨gB, 0, none⟩) n cpB], .bool db]) (by simp [results, Tryz.results49, go_sem, r1]) rfl ?_
    have kk := turn_setCell Wf (w.heap.size + 1) 0 (.slice (some ⟨gB, 0, none⟩) n cpB)
    have hzb := HZB.out
    have hbw := HBB.out.setCell (p := ⟨w.heap.size + 1, 0, none⟩) (Nat.le_succ _) (.slice (some ⟨gB, 0, none⟩) n cpB)
    exact ⟨_, us, rfl, (HO6.out.keep kk (by omega)).wider (by omega) (by simp) (by simp), TurnIn.of_below hbw⟩
  · have hBW : Below w2.heap.size w2 (World.setCell (World.setCell w4 ⟨w3.heap.size, 0, none⟩ (.slice Aa na ca)) ⟨w2.heap.size, 0, none⟩ (.slice (some ⟨gB, 0, none⟩) n cpB)) := And.left (by assumption)
    have hc6 : World.cell? (World.setCell (World.setCell w4 ⟨w3.heap.size, 0, none⟩ (.slice Aa na ca)) ⟨w2.heap.size, 0, none⟩ (.slice (some ⟨gB, 0, none⟩) n cpB)) ⟨w2.heap.size, 0, none⟩ = some (.slice (some ⟨gB, 0, none⟩) n cpB) := by first | (simp; done) | exact World.cell?_setCell_same _ _ _ (by assumption)
    have hO6 : OwnM 5 22 (World.setCell (World.setCell w4 ⟨w3.heap.size, 0, none⟩ (.slice Aa na ca)) ⟨w2.heap.size, 0, none⟩ (.slice (some ⟨gB, 0, none⟩) n cpB)) w2.heap.size (World.heap (World.setCell (World.setCell w4 ⟨w3.heap.size, 0, none⟩ (.slice Aa na ca)) ⟨w2.heap.size, 0, none⟩ (.slice (some ⟨gB, 0, none⟩) n cpB))).size (.slice (some ⟨gB, 0, none⟩) n cpB) (mkM n n (bst F idF n n)) us := OwnM.wider ((hO.keep (turn_setCell _ _ 0 _) (by first | omega | (simp at * <;> omega))).keep (turn_setCell _ _ 0 _) (by first | omega | (simp at * <;> omega))) (by first | omega | (simp at * <;> omega)) (by first | (simp; done) | (simp; omega)) (Nat.le_refl _)
    have r1 := (hBW.cell (p := ⟨w.heap.size + 1, 0, none⟩) l1).trans q1
    have r1f := (hBW.frozen (p := ⟨w.heap.size + 1, 0, none⟩) l1).trans q1f
    have HO6 := Lib.hid hO6
    have HBB := Lib.hid (kB.to_below.trans (hBW.mono kB.size))
    clear hO6 hBW
    generalize (World.setCell (World.setCell w4 ⟨w3.heap.size, 0, none⟩ (.slice Aa na ca)) ⟨w2.heap.size, 0, none⟩ (.slice (some ⟨gB, 0, none⟩) n cpB)) = Wf at *
    generalize (w2.heap.size) = b6 at *
    have HEQ : (((est F n n).2 : Int) == (n : Int)) = decide ((est F n n).2 = n) := natInt_beq _ _
    generalize hee : decide ((est F n n).2 = n) = db at *
    generalize (est F n n).2 = ee at *
    go_wp2_with fail
    refine bodyPost_ret (v := .tuple #[.agg #[.slice (some ⟨gB, 0, none⟩) n cpB], .bool db]) (by simp [results, Tryz.results49, go_sem, r1]) rfl ?_
    have kk := turn_setCell Wf (w.heap.size + 1) 0 (.slice (some ⟨gB, 0, none⟩) n cpB)
    have hzb := HZB.out
    have hbw := HBB.out.setCell (p := ⟨w.heap.size + 1, 0, none⟩) (Nat.le_succ _) (.slice (some ⟨gB, 0, none⟩) n cpB)
    exact ⟨_, us, rfl, (HO6.out.keep kk (by omega)).wider (by omega) (by simp) (by simp), TurnIn.of_below hbw⟩
  · have hBW : Below w2.heap.size w2 (World.setCell (World.setCell w4 ⟨w2.heap.size + 1, 0, none⟩ (.slice Aa na ca)) ⟨w2.heap.size, 0, none⟩ (.slice (some ⟨gB, 0, none⟩) n cpB)) := And.left (by assumption)
    have hc6 : World.cell? (World.setCell (World.setCell w4 ⟨w2.heap.size + 1, 0, none⟩ (.slice Aa na ca)) ⟨w2.heap.size, 0, none⟩ (.slice (some ⟨gB, 0, none⟩) n cpB)) ⟨w2.heap.size, 0, none⟩ = some (.slice (some ⟨gB, 0, none⟩) n cpB) := by first | (simp; done) | exact World.cell?_setCell_same _ _ _ (by assumption)
    have hO6 : OwnM 5 22 (World.setCell (World.setCell w4 ⟨w2.heap.size + 1, 0, none⟩ (.slice Aa na ca)) ⟨w2.heap.size, 0, none⟩ (.slice (some ⟨gB, 0, none⟩) n cpB)) w2.heap.size (World.heap (World.setCell (World.setCell w4 ⟨w2.heap.size + 1, 0, none⟩ (.slice Aa na ca)) ⟨w2.heap.size, 0, none⟩ (.slice (some ⟨gB, 0, none⟩) n cpB))).size (.slice (some ⟨gB, 0, none⟩) n cpB) (mkM n n (bst F idF n n)) us := OwnM.wider ((hO.keep (turn_setCell _ _ 0 _) (by first | omega | (simp at * <;> omega))).keep (turn_setCell _ _ 0 _) (by first | omega | (simp at * <;> omega))) (by first | omega | (simp at * <;> omega)) (by first | (simp; done) | (simp; omega)) (Nat.le_refl _)
    have r1 := (hBW.cell (p := ⟨w.heap.size + 1, 0, none⟩) l1).trans q1
    have r1f := (hBW.frozen (p := ⟨w.heap.size + 1, 0, none⟩) l1).trans q1f
    have HO6 := Lib.hid hO6
    have HBB := Lib.hid (kB.to_below.trans (hBW.mono kB.size))
    clear hO6 hBW
    generalize (World.setCell (World.setCell w4 ⟨w2.heap.size + 1, 0, none⟩ (.slice Aa na ca)) ⟨w2.heap.size, 0, none⟩ (.slice (some ⟨gB, 0, none⟩) n cpB)) = Wf at *
    generalize (w2.heap.size) = b6 at *
    have HEQ : (((est F n n).2 : Int) == (n : Int)) = decide ((est F n n).2 = n) := natInt_beq _ _
    generalize hee : decide ((est F n n).2 = n) = db at *
    generalize (est F n n).2 = ee at *
    go_wp2_with fail
    refine bodyPost_ret (v := .tuple #[.agg #[.slice (some ⟨gB, 0, none⟩) n cpB], .bool db]) (by simp [results, Tryz.results49, go_sem, r1]) rfl ?_
    have kk := turn_setCell Wf (w.heap.size + 1) 0 (.slice (some ⟨gB, 0, none⟩) n cpB)
    have hzb := HZB.out
    have hbw := HBB.out.setCell (p := ⟨w.heap.size + 1, 0, none⟩) (Nat.le_succ _) (.slice (some ⟨gB, 0, none⟩) n cpB)
    exact ⟨_, us, rfl, (HO6.out.keep kk (by omega)).wider (by omega) (by simp) (by simp), TurnIn.of_below hbw⟩

end Go.Proofs.YtblfobbeojdihaaGreatDoor

/- Contracts of the laws' own helpers: sameBytes, numberOf. -/
namespace G294
open Go Go.RowKit
/-- bytes as a string's bytes -/
def str (l : List UInt8) : ByteArray := ⟨l.toArray⟩
theorem run_string_seen {P : Program} {w : World} {v : Value} {l : List UInt8} (src e dst : TypeId) (hs : P.underlying src = some (.slice e)) (he : P.underlying e = some (.int .u8)) (hd : P.underlying dst = some .string)
    (hv : Seen w v (bys l)) : (convert src dst v).run P w = .ok (.string (str l)) w := by
  obtain ⟨A, c, rfl, hlc, hcm, hx⟩ := hv
  rw [bys_length] at hx ⊢
  cases hl : l with
  | nil =>
    simp only [List.length_nil]
    cases A with
    | none => exact run_convert_bytes_nil w src e hs he 0 c dst hd
    | some a =>
      rw [run_convert_bytes_string w src dst e _ 0 c hs he hd, run_bytesToString w a 0 c [] (by simp [loadCells, loadCellsFrom])]
      rfl
  | cons x r =>
    rw [← hl]
    obtain ⟨b, off, rfl, hb, hc⟩ := hx (by rw [hl]; simp)
    have h := run_convert_bytes_arg (P := P) w src e hs he b off l.length c (l.map fun x => (x.toNat : Int)) (by simp) (fun i hi => by
      rw [hc i _ (bys_get l i hi)]; simp [List.getD, hi]) dst hd
    rw [h]
    congr 2
    simp [strOfNums, str]
    apply List.ext_getElem
    · simp
    · intro i h1 h2
      simp
theorem str_toList (l : List UInt8) : (str l).toList = l := ByteArray.toList_mk l
end G294
namespace Go.Proofs.YtblfobbeojdihaaGreatDoor
open Go.RowKit G294

set_option maxHeartbeats 400000 in
theorem sameBytes_any (v u : Value) (l m : List UInt8) (w : World) (hv : Seen w v (bys l)) (hu : Seen w u (bys m)) :
    Calls Tryz.prog 8 #[v, u] w fun e w' => e = .returned (.bool (l == m)) ∧ w = w' := by
  have r1 := run_string_seen (P := Tryz.prog) 22 5 9 Tryz.underlying22 Tryz.underlying5 Tryz.underlying9 hv
  have r2 := run_string_seen (P := Tryz.prog) 22 5 9 Tryz.underlying22 Tryz.underlying5 Tryz.underlying9 hu
  obtain ⟨A, c, rfl, _⟩ := hv
  obtain ⟨A', c', rfl, _⟩ := hu
  rw [bys_length] at r1 r2
  simp only [bys_length]
  go_enter Tryz.func8, Tryz.ntmps8
  go_wp2_with fail
  go_ret
  exact ⟨by simp [str_toList], rfl⟩

end Go.Proofs.YtblfobbeojdihaaGreatDoor

/- Texts in memory: a slice of strings that is seen, or of the call's own; the texts that a mark writes. -/
namespace G294
open Go Go.RowKit
theorem str_size (l : List UInt8) : (str l).size = l.length := by
  show l.toArray.size = _
  simp
theorem str_eq (s : ByteArray) : s = str s.data.toList := by cases s; rfl
theorem str_inj {a b : List UInt8} (h : str a = str b) : a = b := by
  have := congrArg ByteArray.toList h
  rwa [str_toList, str_toList] at this
theorem str_append (a b : List UInt8) : str a ++ str b = str (a ++ b) := by
  unfold str
  rw [ByteArray.mk_append_mk]
theorem str_nil : str [] = ⟨#[]⟩ := rfl
theorem str_same (s : List UInt8) : ((str s).toList == (str s).toList) = true := by simp
/-- texts as the cells of memory -/
def strs (l : List (List UInt8)) : List Value := l.map fun s => .string (str s)
@[simp] theorem strs_length (l : List (List UInt8)) : (strs l).length = l.length := by simp [strs]
theorem strs_append (l m : List (List UInt8)) : strs (l ++ m) = strs l ++ strs m := by simp [strs]
theorem strs_get (l : List (List UInt8)) (i : Nat) (h : i < l.length) : (strs l)[i]? = some (.string (str l[i])) := by simp [strs, h]
theorem strs_oneC (l : List (List UInt8)) : ∀ y, y ∈ strs l → y.oneCell' = true := by
  intro y hy
  simp only [strs, List.mem_map] at hy
  obtain ⟨x, _, rfl⟩ := hy
  rfl
/-- a row of texts of the call's own, its block from lo to hi -/
def OwnStrs (E : TypeId) (w : World) (lo hi : Nat) (v : Value) (l : List (List UInt8)) : Prop := w.ownsRow lo E 1 v l.length (strs l) ∧ hi ≤ w.heap.size ∧ ∀ g, v.ownBlock = some g → g < hi
section
variable {w w' : World} {lo hi a b : Nat} {v : Value} {l : List (List UInt8)} {E : TypeId}
theorem OwnStrs.keep (h : OwnStrs E w lo hi v l) (t : TurnIn a b w w') (d : hi ≤ a ∨ b ≤ lo) : OwnStrs E w' lo hi v l := by
  obtain ⟨h1, h2, h3⟩ := h
  have hs := t.size
  refine ⟨⟨h1.1, ?_⟩, by omega, h3⟩
  rcases h1.2 with hn | ⟨g, cap, cur, rfl, hbg, hg, rest⟩
  · exact .inl hn
  · refine .inr ⟨g, cap, cur, rfl, hbg, ?_, rest⟩
    have := h3 g rfl
    rw [t.block g (Array.getElem?_eq_some_iff.1 hg).1 (by omega)]
    exact hg
theorem OwnStrs.seen (h : OwnStrs E w lo hi v l) : Seen w v (strs l) := Seen.of_own h.1
theorem OwnStrs.nil (E : TypeId) (w : World) (lo : Nat) : OwnStrs E w lo w.heap.size (.slice none 0 0) [] := ⟨World.ownsRow_nil _ _ _ _, Nat.le_refl _, fun g h => by simp [Value.ownBlock] at h⟩
theorem OwnStrs.of_made (h : w'.ownsRow w.heap.size E 1 v l.length (strs l)) : OwnStrs E w' w.heap.size w'.heap.size v l := ⟨h, Nat.le_refl _, fun g hg => (h.lt g hg).2⟩
theorem OwnStrs.isSlice (h : OwnStrs E w lo hi v l) : ∃ A n c, v = .slice A n c := by
  rcases h.1.2 with ⟨hh, _⟩ | ⟨g, cap, cur, hh, _⟩ <;> exact ⟨_, _, _, hh⟩
theorem owns_turn0 {size n : Nat} {xs : List Value} {base : Nat} {e : TypeId} (h : w.ownsRow base e size v n xs) (t : TurnIn 0 0 w w') : w'.ownsRow base e size v n xs := own_below h t.to_below
end
def RetStrs (E : TypeId) (w : World) (l : List (List UInt8)) (e : Ending) (w' : World) : Prop := ∃ v, e = .returned v ∧ OwnStrs E w' w.heap.size w'.heap.size v l ∧ TurnIn 0 0 w w'
def RetStrsOk (E : TypeId) (w : World) (l : List (List UInt8)) (ok : Bool) (e : Ending) (w' : World) : Prop := ∃ v, e = .returned (.tuple #[v, .bool ok]) ∧ OwnStrs E w' w.heap.size w'.heap.size v l ∧ TurnIn 0 0 w w'
def RetStr (w : World) (s : List UInt8) (e : Ending) (w' : World) : Prop := e = .returned (.string (str s)) ∧ TurnIn 0 0 w w'
def RetStrOk (w : World) (s : List UInt8) (ok : Bool) (e : Ending) (w' : World) : Prop := e = .returned (.tuple #[.string (str s), .bool ok]) ∧ TurnIn 0 0 w w'
/-- what is left of a bound -/
def szV (left n : Nat) : Int := if n ≤ left then (left : Int) - n else -1
theorem szV_yes {left n : Nat} (h : n ≤ left) : szV left n = ((left - n : Nat) : Int) := by unfold szV; rw [if_pos h]; omega
theorem szV_no {left n : Nat} (h : left < n) : szV left n = -1 := by unfold szV; rw [if_neg (by omega)]
/-- the decimal digits of k, ahead of acc -/
def mdig (k : Nat) (acc : List UInt8) : List UInt8 := if h : k = 0 then acc else mdig (k / 10) (UInt8.ofNat (48 + k % 10) :: acc)
termination_by k
decreasing_by omega
def mtext (k : Nat) : List UInt8 := 109 :: mdig k []
theorem mdig_zero (acc : List UInt8) : mdig 0 acc = acc := by unfold mdig; simp
theorem mdig_pos {k : Nat} (h : 0 < k) (acc : List UInt8) : mdig k acc = mdig (k / 10) (UInt8.ofNat (48 + k % 10) :: acc) := by
  rw [mdig, dif_neg (by omega)]
/-- the texts of the marks k, k + 1, .. -/
def marksS (k n : Nat) : List (List UInt8) := (List.range n).map fun i => mtext (k + i)
@[simp] theorem marksS_length (k n : Nat) : (marksS k n).length = n := by simp [marksS]
theorem marksS_get (k n i : Nat) (h : i < n) : (strs (marksS k n))[i]? = some (.string (str (mtext (k + i)))) := by simp [strs, marksS, h]
def RetMarkS (E : TypeId) (w : World) (lo hi : Nat) (v : Value) (k n : Nat) (e : Ending) (w' : World) : Prop :=
  e = .returned (.int .i64 ((k + n : Nat) : Int)) ∧ OwnStrs E w' lo hi v (marksS k n) ∧ TurnIn lo hi w w'
end G294

/- Shares in memory: a slice of structs of two bytes that is seen, or of the call's own; what a mark writes. -/
namespace G294
open Go Go.RowKit
theorem at_ltR {α : Type} {l : List α} {n k : Nat} (hn : l.length = n) (h : k < n) : ∃ s, l[k]? = some s := ⟨_, List.getElem?_eq_getElem (by omega)⟩
/-- shards as the cells of memory -/
def srs : List Sr → List Value
  | [] => []
  | s :: l => .int .u8 (s.1.toNat : Int) :: .int .u8 (s.2.toNat : Int) :: srs l
@[simp] theorem srs_length (l : List Sr) : (srs l).length = l.length * 2 := by
  induction l with
  | nil => rfl
  | cons s l ih => simp [srs, ih]; omega
theorem srs_append (l m : List Sr) : srs (l ++ m) = srs l ++ srs m := by
  induction l with
  | nil => rfl
  | cons s l ih => simp [srs, ih]
theorem srs_no (l : List Sr) (i : Nat) (h : i < l.length) : (srs l)[i * 2]? = some (.int .u8 (l[i].1.toNat : Int)) := by
  induction l generalizing i with
  | nil => simp at h
  | cons s l ih =>
    cases i with
    | zero => rfl
    | succ i => rw [show (i + 1) * 2 = i * 2 + 1 + 1 by omega]; simpa [srs] using ih i (by simpa using h)
theorem srs_data (l : List Sr) (i : Nat) (h : i < l.length) : (srs l)[i * 2 + 1]? = some (.int .u8 (l[i].2.toNat : Int)) := by
  induction l generalizing i with
  | nil => simp at h
  | cons s l ih =>
    cases i with
    | zero => rfl
    | succ i => rw [show (i + 1) * 2 + 1 = i * 2 + 1 + 1 + 1 by omega]; simpa [srs] using ih i (by simpa using h)
theorem srs_oneC (l : List Sr) : ∀ y, y ∈ srs l → y.oneCell' = true := by
  induction l with
  | nil => intro y hy; simp [srs] at hy
  | cons s l ih =>
    intro y hy
    simp only [srs, List.mem_cons] at hy
    rcases hy with rfl | rfl | hy
    · rfl
    · rfl
    · exact ih y hy
theorem srs_set (l : List Sr) (i : Nat) (x : Sr) (h : i < l.length) : ((srs l).set (i * 2) (.int .u8 (x.1.toNat : Int))).set (i * 2 + 1) (.int .u8 (x.2.toNat : Int)) = srs (l.set i x) := by
  induction l generalizing i with
  | nil => simp at h
  | cons s l ih =>
    cases i with
    | zero => rfl
    | succ i =>
      rw [show (i + 1) * 2 = i * 2 + 1 + 1 by omega]
      simp only [srs, List.set_cons_succ, ih i (by simpa using h)]
/-- the value v is seen in w as the shards l -/
def SeenR (w : World) (v : Value) (l : List Sr) : Prop :=
  ∃ A c, v = .slice A l.length c ∧ l.length ≤ c ∧ c ≤ maxLen ∧ (0 < l.length → ∃ b off, A = some ⟨b, off, none⟩ ∧ b < w.heap.size ∧ ∀ i s, l[i]? = some s → w.cell? ⟨b, off + i * 2, none⟩ = some (.int .u8 (s.1.toNat : Int)) ∧ w.cell? ⟨b, off + i * 2 + 1, none⟩ = some (.int .u8 (s.2.toNat : Int)))
/-- a row of shards of the call's own, its block from lo to hi -/
def OwnSr (E : TypeId) (w : World) (lo hi : Nat) (v : Value) (l : List Sr) : Prop := w.ownsRow lo E 2 v l.length (srs l) ∧ hi ≤ w.heap.size ∧ ∀ g, v.ownBlock = some g → g < hi
section
variable {w w' : World} {lo hi a b : Nat} {v : Value} {l : List Sr} {E : TypeId}
theorem SeenR.below (h : SeenR w v l) (hb : Below w.heap.size w w') : SeenR w' v l := by
  obtain ⟨A, c, rfl, h1, h2, h3⟩ := h
  refine ⟨A, c, rfl, h1, h2, fun hn => ?_⟩
  obtain ⟨b, off, rfl, hb', hc⟩ := h3 hn
  exact ⟨b, off, rfl, Nat.lt_of_lt_of_le hb' hb.size, fun i s hi => ⟨(hb.cell (p := ⟨b, off + i * 2, none⟩) hb').trans (hc i s hi).1, (hb.cell (p := ⟨b, off + i * 2 + 1, none⟩) hb').trans (hc i s hi).2⟩⟩
theorem SeenR.len (h : SeenR w v l) : ∃ A c, v = .slice A l.length c := by
  obtain ⟨A, c, h, _⟩ := h
  exact ⟨A, c, h⟩
theorem SeenR.nil (w : World) : SeenR w (.slice none 0 0) [] := ⟨none, 0, rfl, Nat.le_refl _, Nat.zero_le _, fun h => by simp at h⟩
theorem owns_turnR {size n : Nat} {xs : List Value} (h : w.ownsRow lo E size v n xs) (h2 : ∀ g, v.ownBlock = some g → g < hi) (t : TurnIn a b w w') (d : hi ≤ a ∨ b ≤ lo) : w'.ownsRow lo E size v n xs := by
  refine ⟨h.1, ?_⟩
  rcases h.2 with hn | ⟨g, cap, cur, rfl, hbg, hg, rest⟩
  · exact .inl hn
  · refine .inr ⟨g, cap, cur, rfl, hbg, ?_, rest⟩
    have := h2 g rfl
    rw [t.block g (Array.getElem?_eq_some_iff.1 hg).1 (by omega)]
    exact hg
theorem OwnSr.keep (h : OwnSr E w lo hi v l) (t : TurnIn a b w w') (d : hi ≤ a ∨ b ≤ lo) : OwnSr E w' lo hi v l :=
  ⟨owns_turnR h.1 h.2.2 t d, Nat.le_trans h.2.1 t.size, h.2.2⟩
theorem OwnSr.seen (h : OwnSr E w lo hi v l) : SeenR w v l := by
  obtain ⟨h1, h2, h3⟩ := h
  rcases h1.2 with ⟨rfl, hn⟩ | ⟨g, cap, cur, rfl, hb, hg, hnc, hcm, hcs, ht⟩
  · have : l = [] := List.eq_nil_of_length_eq_zero hn
    subst this
    exact SeenR.nil w
  · refine ⟨_, cap, rfl, hnc, hcm, fun hn => ⟨g, 0, rfl, (Array.getElem?_eq_some_iff.1 hg).1, fun i s hs => ?_⟩⟩
    obtain ⟨hi, rfl⟩ := List.getElem?_eq_some_iff.1 hs
    have e1 := h1.cells (g := g) rfl (i * 2) _ (srs_no l i hi)
    have e2 := h1.cells (g := g) rfl (i * 2 + 1) _ (srs_data l i hi)
    rw [Addr.add_lit, Nat.zero_add] at e1 e2
    exact ⟨by rw [Nat.zero_add]; exact e1, by rw [Nat.zero_add]; exact e2⟩
theorem OwnSr.nil (E : TypeId) (w : World) (lo : Nat) : OwnSr E w lo w.heap.size (.slice none 0 0) [] := ⟨World.ownsRow_nil _ _ _ _, Nat.le_refl _, fun g h => by simp [Value.ownBlock] at h⟩
theorem OwnSr.of_made (h : w'.ownsRow w.heap.size E 2 v l.length (srs l)) : OwnSr E w' w.heap.size w'.heap.size v l := ⟨h, Nat.le_refl _, fun g hg => (h.lt g hg).2⟩
end
def RetSrs (E : TypeId) (w : World) (l : List Sr) (e : Ending) (w' : World) : Prop := ∃ v, e = .returned v ∧ OwnSr E w' w.heap.size w'.heap.size v l ∧ TurnIn 0 0 w w'
def RetSrsOk (E : TypeId) (w : World) (l : List Sr) (ok : Bool) (e : Ending) (w' : World) : Prop := ∃ v, e = .returned (.tuple #[v, .bool ok]) ∧ OwnSr E w' w.heap.size w'.heap.size v l ∧ TurnIn 0 0 w w'
/-- the shards that marks write -/
def marksR (k n : Nat) : List Sr := (List.range n).map fun i => (UInt8.ofNat (k + i * 2), UInt8.ofNat (k + i * 2 + 1))
@[simp] theorem marksR_length (k n : Nat) : (marksR k n).length = n := by simp [marksR]
theorem marksR_get (k n i : Nat) (h : i < (marksR k n).length) : (marksR k n)[i] = (UInt8.ofNat (k + i * 2), UInt8.ofNat (k + i * 2 + 1)) := by simp [marksR]
def RetMarkR (E : TypeId) (w : World) (lo hi : Nat) (v : Value) (k n : Nat) (e : Ending) (w' : World) : Prop :=
  e = .returned (.int .i64 ((k + n * 2 : Nat) : Int)) ∧ OwnSr E w' lo hi v (marksR k n) ∧ TurnIn lo hi w w'
theorem ofNat_int (m : Nat) : ((UInt8.ofNat m).toNat : Int) = (m : Int) % 256 := by rw [UInt8.toNat_ofNat']; omega
end G294

/- Arrays of 20 bytes: the program's through (Newton). -/
namespace G294
theorem nwK_succ (l : List Sr) (k : Nat) : nwK l (k + 1) = (addC (gmul (yF l k ^^^ hor (xF l k) (nwK l k).1) (ginv (hor (xF l k) (nwK l k).2))) (nwK l k).1 (nwK l k).2, wrC (xF l k) (nwK l k).2) := rfl
end G294
namespace Go.Proofs.YtblfobbeojdihaaGreatDoor
open Go.RowKit G294

theorem inverse_u8 (a : UInt8) (w : World) (ht : Tab w) :
    Calls Tryz.prog 73 #[.int .u8 (a.toNat : Int)] w fun e w' => e = .returned (.int .u8 ((ginv a).toNat : Int)) ∧ w = w' := by
  rw [ginv_toNat]; exact inverse_any _ a.toNat_lt w ht

end Go.Proofs.YtblfobbeojdihaaGreatDoor

/- Valid shares: the program's and the model's. -/
namespace G294
open Go Go.RowKit
theorem shr_bad {l : List Sr} {k : Nat} (hk : k < l.length) (h : ¬ prX l k < xF l k) : shrOk l = false := by
  cases e : shrOk l
  · rfl
  · exact absurd (((shrOk_iff l).1 e).2 k hk) h
theorem shr_many {l : List Sr} (h : 20 < l.length) : shrOk l = false := by
  cases e : shrOk l
  · rfl
  · exact absurd (shr_20 e) (by omega)
theorem shr_good {l : List Sr} (h20 : l.length ≤ 20) (h : ∀ i, i < l.length → prX l i < xF l i) : shrOk l = true := (shrOk_iff l).2 ⟨h20, h⟩
theorem prX_succ (l : List Sr) (k : Nat) : prX l (k + 1) = xF l k := by simp [prX]
theorem prX_zero (l : List Sr) : prX l 0 = 0 := rfl
theorem le_byte {x y : UInt8} : x.toNat ≤ y.toNat ↔ ¬ y < x := by rw [UInt8.lt_iff_toNat_lt]; omega
end G294
namespace Go.Proofs.YtblfobbeojdihaaGreatDoor
open Go.RowKit G294

end Go.Proofs.YtblfobbeojdihaaGreatDoor

/- Contracts of the laws' helpers on []Share: equality, marks, marks held, copies, sizes. -/
namespace G294
open Go Go.RowKit
theorem toList_madeCells_srs (n : Nat) : (madeCells #[.int .u8 0, .int .u8 0] (n * 2)).toList = srs (List.replicate n ((0 : UInt8), (0 : UInt8))) := by
  apply List.ext_getElem?
  intro j
  by_cases hj : j < n * 2
  · rcases Nat.mod_two_eq_zero_or_one j with h | h
    · have e : j = (j / 2) * 2 := by omega
      rw [e, srs_no _ (j / 2) (by simp; omega)]
      simp [madeCells, show j / 2 * 2 < n * 2 by omega]
    · have e : j = (j / 2) * 2 + 1 := by omega
      have h2 : (j / 2 * 2 + 1) % 2 = 1 := by omega
      rw [e, srs_data _ (j / 2) (by simp; omega)]
      simp [madeCells, show j / 2 * 2 + 1 < n * 2 by omega, h2]
  · rw [List.getElem?_eq_none (by simp [madeCells]; omega), List.getElem?_eq_none (by simp; omega)]
end G294
namespace Go.Proofs.YtblfobbeojdihaaGreatDoor
open Go.RowKit G294

end Go.Proofs.YtblfobbeojdihaaGreatDoor
