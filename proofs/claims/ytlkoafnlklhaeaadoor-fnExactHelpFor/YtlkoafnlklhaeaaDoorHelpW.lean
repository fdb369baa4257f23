/- HelpFor, the program's and the model's: pieces, helps. -/
import Derived.Deep.RegionHeld3
import Derived.Test.YtlkoafnlklhaeaaDoorNodeRow2
import Derived.Test.YtlkoafnlklhaeaaDoorVecDot
set_option linter.unusedSimpArgs false
set_option linter.unusedVariables false
namespace G294
open Go Go.RowKit
abbrev pieV (p : Int) (v : Value) : Value := .agg #[.int .i64 p, v]
def piOk (n k p : Int) (l : List UInt8) : Bool := nodeOk n k p && decide ((l.length : Int) = k - 1)
def helpOk (n k p : Int) (l : List UInt8) (i : Int) : Bool := piOk n k p l && nodeOk n k i && !(p == i)
def helpN (n k p : Int) (l : List UInt8) (i : Int) : Int := if helpOk n k p l i = true then p else 0
def helpB (n k p : Int) (l : List UInt8) (i : Int) : UInt8 := if helpOk n k p l i = true then dotL l (shortL (k - 1).toNat i.toNat) else 0
theorem helpN_no {n k p i : Int} {l : List UInt8} (h : helpOk n k p l i = false) : helpN n k p l i = 0 := if_neg (by rw [h]; simp)
theorem helpB_no {n k p i : Int} {l : List UInt8} (h : helpOk n k p l i = false) : helpB n k p l i = 0 := if_neg (by rw [h]; simp)
theorem helpN_yes {n k p i : Int} {l : List UInt8} (h : helpOk n k p l i = true) : helpN n k p l i = p := if_pos h
theorem helpB_yes {n p : Int} {a i : Nat} {l : List UInt8} (h : helpOk n ((a : Int) + 1) p l i = true) : helpB n ((a : Int) + 1) p l i = dotL l (shortL a i) := by unfold helpB; rw [if_pos h]; congr 2; omega
def RetHelp (w : World) (a : Int) (b : UInt8) (ok : Bool) (e : Ending) (w' : World) : Prop := e = .returned (.tuple #[.agg #[.int .i64 a, .int .u8 (b.toNat : Int)], .bool ok]) ∧ TurnIn 0 0 w w'
theorem hAlloc {w2 W : World} {a : Addr} {x : Value} (h : Below w2.heap.size w2 W ∧ W.cell? a = some x) (ha : a.block < w2.heap.size) (o : Obj) : Below w2.heap.size w2 (W.alloc o) ∧ (W.alloc o).cell? a = some x := by
  have hb := h.1.alloc h.1.size o
  exact ⟨hb, (((Below.refl _ W).alloc (Nat.le_refl _) o).cell (p := a) (Nat.lt_of_lt_of_le ha h.1.size)).trans h.2⟩
theorem hTurn {w2 W W' : World} {a : Addr} {x : Value} (h : Below w2.heap.size w2 W ∧ W.cell? a = some x) (ha : a.block < w2.heap.size) (k : TurnIn 0 0 W W') : Below w2.heap.size w2 W' ∧ W'.cell? a = some x :=
  ⟨k.base h.1 h.1.size (by omega), (k.to_below.cell (p := a) (Nat.lt_of_lt_of_le ha h.1.size)).trans h.2⟩
end G294
namespace Go.Proofs.YtlkoafnlklhaeaaDoor
open Go.RowKit G294

set_option maxRecDepth 100000 in
set_option maxHeartbeats 2000000 in
theorem goodPiece_any (n k p : Int) (v : Value) (l : List UInt8) (w : World) (hv : Seen w v (bys l)) : Calls Tryd.prog 78 #[msrV n k, pieV p v] w (RetBool w (piOk n k p l)) := by
  obtain ⟨A, c, hvv⟩ := hv.len
  rw [bys_length] at hvv
  subst hvv
  clear hv
  have kb : TurnIn 0 0 w ((w.alloc (.cells #[.int .i64 n, .int .i64 k] 27)).alloc (.cells #[.int .i64 p, .slice A l.length c] 39)) := turn_trans (turn_alloc _ _) (turn_alloc _ _) (by omega)
  have z0 : ((w.alloc (.cells #[.int .i64 n, .int .i64 k] 27)).alloc (.cells #[.int .i64 p, .slice A l.length c] 39)).heap.size = w.heap.size + 2 := by simp
  have cn : ((w.alloc (.cells #[.int .i64 n, .int .i64 k] 27)).alloc (.cells #[.int .i64 p, .slice A l.length c] 39)).cell? ⟨w.heap.size, 0, none⟩ = some (.int .i64 n) := cell_turn (turn_alloc _ _) (alloc_duo0 _ _ _ _) (alloc_lt _ _)
  have ck : ((w.alloc (.cells #[.int .i64 n, .int .i64 k] 27)).alloc (.cells #[.int .i64 p, .slice A l.length c] 39)).cell? ⟨w.heap.size, 1, none⟩ = some (.int .i64 k) := cell_turn (turn_alloc _ _) (alloc_duo1 _ _ _ _) (alloc_lt _ _)
  have cp : ((w.alloc (.cells #[.int .i64 n, .int .i64 k] 27)).alloc (.cells #[.int .i64 p, .slice A l.length c] 39)).cell? ⟨w.heap.size + 1, 0, none⟩ = some (.int .i64 p) := by have := alloc_duo0 (w.alloc (.cells #[.int .i64 n, .int .i64 k] 27)) (.int .i64 p) (.slice A l.length c) 39; rwa [World.size_alloc] at this
  have cv : ((w.alloc (.cells #[.int .i64 n, .int .i64 k] 27)).alloc (.cells #[.int .i64 p, .slice A l.length c] 39)).cell? ⟨w.heap.size + 1, 1, none⟩ = some (.slice A l.length c) := by have := alloc_duo1 (w.alloc (.cells #[.int .i64 n, .int .i64 k] 27)) (.int .i64 p) (.slice A l.length c) 39; rwa [World.size_alloc] at this
  by_cases h : msrOk n k = true
  · have HM := Lib.hid h
    have HA := Lib.hid (msrA_yes h)
    clear h
    by_cases hp : nodeOk n k p = true
    · have HP := Lib.hid hp
      have HV : Hid (piOk n k p l = (((l.length : Nat) : Int) == k - 1)) := by show piOk _ _ _ _ = _; simp only [piOk, hp, Bool.true_and]; rw [Bool.eq_iff_iff]; simp
      clear hp
      go_enter Tryd.func78, Tryd.ntmps78
      go_wp2_with fail
      refine (msrSizes_any n k _).mono ?_
      rintro e w2 ⟨rfl, k2⟩
      rw [HM.out, HA.out]
      have s2 := k2.size
      replace cn := cell_turn k2 cn (by omega)
      replace ck := cell_turn k2 ck (by omega)
      replace cp := cell_turn k2 cp (by omega)
      replace cv := cell_turn k2 cv (by omega)
      go_wp2_with fail
      refine (hasNode_any n k p _).mono ?_
      rintro e w3 ⟨rfl, k3⟩
      rw [HP.out]
      have s3 := k3.size
      replace cv := cell_turn k3 cv (by omega)
      generalize hbq : ((((l.length : Nat) : Int)) == k - 1) = bq at *
      go_wp2_with fail
      go_ret
      exact ⟨by rw [HV.out]; rfl, turn_trans (turn_trans kb k2 (by omega)) k3 (by omega)⟩
    · have HP : Hid (nodeOk n k p = false) := by show nodeOk n k p = false; simpa using hp
      have HV : Hid (piOk n k p l = false) := by show piOk _ _ _ _ = _; simp only [piOk, HP.out, Bool.false_and]
      clear hp
      go_enter Tryd.func78, Tryd.ntmps78
      go_wp2_with fail
      refine (msrSizes_any n k _).mono ?_
      rintro e w2 ⟨rfl, k2⟩
      rw [HM.out, HA.out]
      have s2 := k2.size
      replace cn := cell_turn k2 cn (by omega)
      replace ck := cell_turn k2 ck (by omega)
      replace cp := cell_turn k2 cp (by omega)
      go_wp2_with fail
      refine (hasNode_any n k p _).mono ?_
      rintro e w3 ⟨rfl, k3⟩
      rw [HP.out]
      go_wp2_with fail
      go_ret
      exact ⟨by rw [HV.out]; rfl, turn_trans (turn_trans kb k2 (by omega)) k3 (by omega)⟩
  · have HM : Hid (msrOk n k = false) := by show msrOk n k = false; simpa using h
    have HV : Hid (piOk n k p l = false) := by show piOk _ _ _ _ = _; simp only [piOk, nodeOk, HM.out, Bool.false_and]
    clear h
    go_enter Tryd.func78, Tryd.ntmps78
    go_wp2_with fail
    refine (msrSizes_any n k _).mono ?_
    rintro e w2 ⟨rfl, k2⟩
    rw [HM.out]
    go_wp2_with fail
    go_ret
    exact ⟨by rw [HV.out]; rfl, turn_trans kb k2 (by omega)⟩

set_option maxRecDepth 100000 in
set_option maxHeartbeats 2000000 in
theorem l5Piece_any (n k p : Int) (v : Value) (l : List UInt8) (w : World) (hv : Seen w v (bys l)) (hm : msrOk n k = true) : Calls Tryd.prog 75 #[msrV n k, pieV p v] w (RetBool w (piOk n k p l)) := by
  obtain ⟨A, c, hvv⟩ := hv.len
  rw [bys_length] at hvv
  subst hvv
  clear hv
  have kb : TurnIn 0 0 w ((w.alloc (.cells #[.int .i64 n, .int .i64 k] 27)).alloc (.cells #[.int .i64 p, .slice A l.length c] 39)) := turn_trans (turn_alloc _ _) (turn_alloc _ _) (by omega)
  have cn : ((w.alloc (.cells #[.int .i64 n, .int .i64 k] 27)).alloc (.cells #[.int .i64 p, .slice A l.length c] 39)).cell? ⟨w.heap.size, 0, none⟩ = some (.int .i64 n) := cell_turn (turn_alloc _ _) (alloc_duo0 _ _ _ _) (alloc_lt _ _)
  have ck : ((w.alloc (.cells #[.int .i64 n, .int .i64 k] 27)).alloc (.cells #[.int .i64 p, .slice A l.length c] 39)).cell? ⟨w.heap.size, 1, none⟩ = some (.int .i64 k) := cell_turn (turn_alloc _ _) (alloc_duo1 _ _ _ _) (alloc_lt _ _)
  have cp : ((w.alloc (.cells #[.int .i64 n, .int .i64 k] 27)).alloc (.cells #[.int .i64 p, .slice A l.length c] 39)).cell? ⟨w.heap.size + 1, 0, none⟩ = some (.int .i64 p) := by have := alloc_duo0 (w.alloc (.cells #[.int .i64 n, .int .i64 k] 27)) (.int .i64 p) (.slice A l.length c) 39; rwa [World.size_alloc] at this
  have cv : ((w.alloc (.cells #[.int .i64 n, .int .i64 k] 27)).alloc (.cells #[.int .i64 p, .slice A l.length c] 39)).cell? ⟨w.heap.size + 1, 1, none⟩ = some (.slice A l.length c) := by have := alloc_duo1 (w.alloc (.cells #[.int .i64 n, .int .i64 k] 27)) (.int .i64 p) (.slice A l.length c) 39; rwa [World.size_alloc] at this
  have hb := msrOk_b hm
  have HM := Lib.hid hm
  clear hm
  by_cases hp : nodeOk n k p = true
  · have HI : Hid (inB p 0 (n - 1) = true) := by have := nodeOk_b hp; show inB _ _ _ = true; simp only [inB, decide_eq_true_eq]; omega
    have HV : Hid (piOk n k p l = (((l.length : Nat) : Int) == k - 1)) := by show piOk _ _ _ _ = _; simp only [piOk, hp, Bool.true_and]; rw [Bool.eq_iff_iff]; simp
    clear hp
    go_enter Tryd.func75, Tryd.ntmps75
    go_wp2_with fail
    refine (l1In_any _ _ _ _).mono ?_
    rintro e w' ⟨rfl, rfl⟩
    rw [HI.out]
    generalize hbq : ((((l.length : Nat) : Int)) == k - 1) = bq at *
    go_wp2_with fail
    go_ret
    exact ⟨by rw [HV.out]; rfl, kb⟩
  · have HI : Hid (inB p 0 (n - 1) = false) := by
      show inB _ _ _ = false
      have hp2 : nodeOk n k p = false := by simpa using hp
      simp only [nodeOk, HM.out, Bool.true_and, decide_eq_false_iff_not] at hp2
      simp only [inB, decide_eq_false_iff_not]; omega
    have HV : Hid (piOk n k p l = false) := by
      show piOk _ _ _ _ = _
      have hp2 : nodeOk n k p = false := by simpa using hp
      simp only [piOk, hp2, Bool.false_and]
    clear hp
    go_enter Tryd.func75, Tryd.ntmps75
    go_wp2_with fail
    refine (l1In_any _ _ _ _).mono ?_
    rintro e w' ⟨rfl, rfl⟩
    rw [HI.out]
    go_wp2_with fail
    go_ret
    exact ⟨by rw [HV.out]; rfl, kb⟩

end Go.Proofs.YtlkoafnlklhaeaaDoor
