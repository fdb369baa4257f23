/- The walk of FnExactHelpFor. -/
import Derived.Test.YtlkoafnlklhaeaaDoorRows
import Derived.Deep.RegionHeld3
import Derived.Deep.CutRange
import Derived.Test.YtlkoafnlklhaeaaDoorOpenPie
import Derived.Test.YtlkoafnlklhaeaaDoorPieceArgs
import Derived.Test.YtlkoafnlklhaeaaDoorHelpS
import Derived.Test.YtlkoafnlklhaeaaDoorTabOf
import Derived.Test.YtlkoafnlklhaeaaDoorFrame
set_option linter.unusedSimpArgs false
set_option linter.unusedVariables false
namespace G294
open Go Go.RowKit
/-- two cells of a box -/
def BoxF (B : Nat) (a b : Value) (W : World) : Prop := W.cell? ⟨B, 0, none⟩ = some a ∧ W.cell? ⟨B, 1, none⟩ = some b ∧ W.frozen? ⟨B, 0, none⟩ = false ∧ W.frozen? ⟨B, 1, none⟩ = false ∧ B < W.heap.size
theorem box_made {X W : World} {a b : Value} {T : TypeId} (k : TurnIn 0 0 (X.alloc (.cells #[a, b] T)) W) : BoxF X.heap.size a b W :=
  ⟨cell_turn k (alloc_duo0 _ _ _ _) (alloc_lt _ _), cell_turn k (alloc_duo1 _ _ _ _) (alloc_lt _ _), frozen_turn k (alloc_frz _ _ _ _) (alloc_lt _ _), frozen_turn k (alloc_frz _ _ _ _) (alloc_lt _ _), Nat.lt_of_lt_of_le (alloc_lt _ _) k.size⟩
theorem box_kept {W W' : World} {B : Nat} {a b : Value} (h : BoxF B a b W) (k : TurnIn 0 0 W W') : BoxF B a b W' :=
  ⟨cell_turn k h.1 h.2.2.2.2, cell_turn k h.2.1 h.2.2.2.2, frozen_turn k h.2.2.1 h.2.2.2.2, frozen_turn k h.2.2.2.1 h.2.2.2.2, Nat.lt_of_lt_of_le h.2.2.2.2 k.size⟩
theorem box_new (X : World) (a b : Value) (T : TypeId) : BoxF X.heap.size a b (X.alloc (.cells #[a, b] T)) := box_made (T := T) (TurnIn.refl _)
theorem box_set {W : World} {B : Nat} {a b x y : Value} (h : BoxF B a b W) : BoxF B x y ((W.setCell ⟨B, 0, none⟩ x).setCell ⟨B, 1, none⟩ y) := by
  have h1 : (W.setCell ⟨B, 0, none⟩ x).cell? ⟨B, 1, none⟩ = some b := (World.cell?_setCell_other _ _ _ _ (by simp)).trans h.2.1
  refine ⟨(World.cell?_setCell_other _ _ _ _ (by simp)).trans (World.cell?_setCell_same _ _ _ h.1), World.cell?_setCell_same _ _ _ h1, by simp [h.2.2.1], by simp [h.2.2.2.1], by simpa using h.2.2.2.2⟩
/-- a help in a new box, and a bool -/
def HBox (w1 : World) (a : Int) (b : UInt8) (ok : Bool) (s t : Value) (W : World) : Prop := ∃ B, s = .pointer (some ⟨B, 0, none⟩) ∧ t = .bool ok ∧ BoxF B (.int .i64 a) (.int .u8 (b.toNat : Int)) W ∧ w1.heap.size ≤ B ∧ Below w1.heap.size w1 W
/-- what the regions' loads read: two boxes of two cells -/
def TwoBox (B C : Nat) (a b c d : Value) (W : World) : Prop := W.cell? ⟨B, 0, none⟩ = some a ∧ W.cell? ⟨B, 1, none⟩ = some b ∧ W.cell? ⟨C, 0, none⟩ = some c ∧ W.cell? ⟨C, 1, none⟩ = some d
theorem two_below {w1 W : World} {B C : Nat} {a b c d : Value} (h : TwoBox B C a b c d w1) (hb : Below w1.heap.size w1 W) (hB : B < w1.heap.size) (hC : C < w1.heap.size) : TwoBox B C a b c d W :=
  ⟨(hb.cell (p := ⟨B, 0, none⟩) hB).trans h.1, (hb.cell (p := ⟨B, 1, none⟩) hB).trans h.2.1, (hb.cell (p := ⟨C, 0, none⟩) hC).trans h.2.2.1, (hb.cell (p := ⟨C, 1, none⟩) hC).trans h.2.2.2⟩
end G294
namespace Go.Proofs.YtlkoafnlklhaeaaDoor
open Go.ChangeShapes Go.WideShapes Go.ChangeAt Go.RowKit G294

set_option maxRecDepth 100000 in
set_option maxHeartbeats 4000000 in
theorem exactHelpFor_walk (n k p : Int) (v : Value) (l : List UInt8) (i : Int) (w : World) (hv : Seen w v (bys l)) (ht : Tab w) (h0 : 1 < w.heap.size) :
    Calls Tryd.prog 4 #[.agg #[.int .i64 n, .int .i64 k], .agg #[.int .i64 p, v], .int .i64 i] w fun e w' => e = .returned (.bool true) ∧ Below w.heap.size w w' := by
  have HV := Lib.hid hv
  obtain ⟨A, c, hvv⟩ := hv.len
  rw [bys_length] at hvv
  subst hvv
  clear hv
  have kb : TurnIn 0 0 w ((w.alloc (.cells #[.int .i64 n, .int .i64 k] 23)).alloc (.cells #[.int .i64 p, .slice A l.length c] 33)) := turn_trans (turn_alloc _ _) (turn_alloc _ _) (by omega)
  have z0 : ((w.alloc (.cells #[.int .i64 n, .int .i64 k] 23)).alloc (.cells #[.int .i64 p, .slice A l.length c] 33)).heap.size = w.heap.size + 2 := by simp
  have kc := turn_alloc (w.alloc (.cells #[.int .i64 n, .int .i64 k] 23)) (.cells #[.int .i64 p, .slice A l.length c] 33)
  have cn := cell_turn kc (alloc_duo0 w (.int .i64 n) (.int .i64 k) 23) (alloc_lt _ _)
  have ck := cell_turn kc (alloc_duo1 w (.int .i64 n) (.int .i64 k) 23) (alloc_lt _ _)
  have cp := alloc_duo0 (w.alloc (.cells #[.int .i64 n, .int .i64 k] 23)) (.int .i64 p) (.slice A l.length c) 33
  have cv := alloc_duo1 (w.alloc (.cells #[.int .i64 n, .int .i64 k] 23)) (.int .i64 p) (.slice A l.length c) 33
  rw [World.size_alloc] at cp cv
  clear kc
  have HVB := Lib.hid (HV.out.below kb.to_below)
  by_cases hbig : 1048576 < l.length
  · go_enter Tryd.func4, Tryd.ntmps4
    go_wp2_with fail
    refine (szPiece_no p _ l 1048576 _ HVB.out hbig (Nat.le_refl _)).mono ?_
    rintro e w1 ⟨rfl, k1⟩
    go_wp2_with fail
    go_ret
    exact ⟨rfl, (turn_trans kb k1 (by omega)).to_below⟩
  · obtain ⟨z, hz⟩ : ∃ z : Nat, z = 1048576 - l.length := ⟨_, rfl⟩
    have HZ := Lib.hid hz
    have hz0 : ¬ (z : Int) < 0 := by omega
    have hn : l.length ≤ 1048576 := by omega
    clear hz
    generalize hok : helpOk n k p l i = ok at *
    generalize hna : helpN n k p l i = na at *
    generalize hby : helpB n k p l i = by' at *
    have HOK := Lib.hid hok
    have HNA := Lib.hid hna
    have HBY := Lib.hid hby
    clear hok hna hby
    have hokk : (ok != ok) = false := by simp
    go_enter Tryd.func4, Tryd.ntmps4
    go_wp2_with fail
    refine (szPiece_yes p _ l 1048576 _ HVB.out hn (Nat.le_refl _)).mono ?_
    rintro e w1 ⟨rfl, k1⟩
    rw [← HZ.out]
    have s1 := k1.size
    replace cn := cell_turn k1 cn (by omega)
    replace ck := cell_turn k1 ck (by omega)
    replace cp := cell_turn k1 cp (by omega)
    replace cv := cell_turn k1 cv (by omega)
    have k01 := turn_trans kb k1 (by omega)
    have HT2 : Hid (TwoBox w.heap.size (w.heap.size + 1) (.int .i64 n) (.int .i64 k) (.int .i64 p) (.slice A l.length c) w1) := ⟨cn, ck, cp, cv⟩
    have HV1 := Lib.hid (HVB.out.touch k1)
    have hlw : w.heap.size < w1.heap.size := by omega
    have hlw1 : w.heap.size + 1 < w1.heap.size := by omega
    have hS0 : Below w1.heap.size w1 w1.drew ∧ w1.drew.cell? ⟨w.heap.size, 0, none⟩ = some (.int .i64 n) ∧ w1.drew.cell? ⟨w.heap.size, 1, none⟩ = some (.int .i64 k) ∧ w1.drew.cell? ⟨w.heap.size + 1, 0, none⟩ = some (.int .i64 p) ∧ w1.drew.cell? ⟨w.heap.size + 1, 1, none⟩ = some (.slice A l.length c) := ⟨(Below.refl _ _).drew, cn, ck, cp, cv⟩
    have HSS : Hid (∀ W, Below w1.heap.size w1 W → (Below w1.heap.size w1 W ∧ W.cell? ⟨w.heap.size, 0, none⟩ = some (.int .i64 n) ∧ W.cell? ⟨w.heap.size, 1, none⟩ = some (.int .i64 k) ∧ W.cell? ⟨w.heap.size + 1, 0, none⟩ = some (.int .i64 p) ∧ W.cell? ⟨w.heap.size + 1, 1, none⟩ = some (.slice A l.length c))) := fun W hb => ⟨hb, two_below HT2.out hb hlw hlw1⟩
    have HSA : Hid (∀ W o, (Below w1.heap.size w1 W ∧ W.cell? ⟨w.heap.size, 0, none⟩ = some (.int .i64 n) ∧ W.cell? ⟨w.heap.size, 1, none⟩ = some (.int .i64 k) ∧ W.cell? ⟨w.heap.size + 1, 0, none⟩ = some (.int .i64 p) ∧ W.cell? ⟨w.heap.size + 1, 1, none⟩ = some (.slice A l.length c)) → (Below w1.heap.size w1 (W.alloc o) ∧ (W.alloc o).cell? ⟨w.heap.size, 0, none⟩ = some (.int .i64 n) ∧ (W.alloc o).cell? ⟨w.heap.size, 1, none⟩ = some (.int .i64 k) ∧ (W.alloc o).cell? ⟨w.heap.size + 1, 0, none⟩ = some (.int .i64 p) ∧ (W.alloc o).cell? ⟨w.heap.size + 1, 1, none⟩ = some (.slice A l.length c))) := fun W o h => HSS.out _ (h.1.alloc h.1.size o)
    have HST : Hid (∀ W W', TurnIn 0 0 W W' → (Below w1.heap.size w1 W ∧ W.cell? ⟨w.heap.size, 0, none⟩ = some (.int .i64 n) ∧ W.cell? ⟨w.heap.size, 1, none⟩ = some (.int .i64 k) ∧ W.cell? ⟨w.heap.size + 1, 0, none⟩ = some (.int .i64 p) ∧ W.cell? ⟨w.heap.size + 1, 1, none⟩ = some (.slice A l.length c)) → (Below w1.heap.size w1 W' ∧ W'.cell? ⟨w.heap.size, 0, none⟩ = some (.int .i64 n) ∧ W'.cell? ⟨w.heap.size, 1, none⟩ = some (.int .i64 k) ∧ W'.cell? ⟨w.heap.size + 1, 0, none⟩ = some (.int .i64 p) ∧ W'.cell? ⟨w.heap.size + 1, 1, none⟩ = some (.slice A l.length c))) := fun W W' t h => HSS.out _ (t.base h.1 h.1.size (by omega))
    have HSC : Hid (∀ W B (o : Nat) x, w1.heap.size ≤ B → (Below w1.heap.size w1 W ∧ W.cell? ⟨w.heap.size, 0, none⟩ = some (.int .i64 n) ∧ W.cell? ⟨w.heap.size, 1, none⟩ = some (.int .i64 k) ∧ W.cell? ⟨w.heap.size + 1, 0, none⟩ = some (.int .i64 p) ∧ W.cell? ⟨w.heap.size + 1, 1, none⟩ = some (.slice A l.length c)) → (Below w1.heap.size w1 (W.setCell ⟨B, o, none⟩ x) ∧ (W.setCell ⟨B, o, none⟩ x).cell? ⟨w.heap.size, 0, none⟩ = some (.int .i64 n) ∧ (W.setCell ⟨B, o, none⟩ x).cell? ⟨w.heap.size, 1, none⟩ = some (.int .i64 k) ∧ (W.setCell ⟨B, o, none⟩ x).cell? ⟨w.heap.size + 1, 0, none⟩ = some (.int .i64 p) ∧ (W.setCell ⟨B, o, none⟩ x).cell? ⟨w.heap.size + 1, 1, none⟩ = some (.slice A l.length c))) := fun W B o x hB h => HSS.out _ (h.1.setCell (p := ⟨B, o, none⟩) hB x)
    go_wp2_with fail
    go_cut [8, 9] from 18 to 26 (fun s8 s9 wx => HBox w1 na by' ok s8 s9 wx)
    case first =>
      go_region_held3 (fun W => Below w1.heap.size w1 W ∧ W.cell? ⟨w.heap.size, 0, none⟩ = some (.int .i64 n) ∧ W.cell? ⟨w.heap.size, 1, none⟩ = some (.int .i64 k) ∧ W.cell? ⟨w.heap.size + 1, 0, none⟩ = some (.int .i64 p) ∧ W.cell? ⟨w.heap.size + 1, 1, none⟩ = some (.slice A l.length c))
        (first | exact hS0 | exact HST.out _ _ (by assumption) (by assumption) | exact HSA.out _ _ (by assumption) | exact HSA.out _ _ hS0 | exact HSA.out _ _ hS5 | exact hS5 | exact HSC.out _ _ _ _ (by omega) (HSC.out _ _ _ _ (by omega) hS5) | exact HSC.out _ _ _ _ (by omega) (HSC.out _ _ _ _ (by omega) (by assumption)) | exact HSC.out _ _ _ _ (by omega) (by assumption) | assumption)
        (first
          | (go_at_call 13; refine (toMsr_any n k _).mono ?_; rintro e w3 ⟨rfl, k3⟩; have hs3 := (HST.out _ _ k3 (by assumption)).1.size; (first | (have fb := box_made (undrew k3); obtain ⟨b0, b1, b2, b3, b4⟩ := fb) | skip))
          | (go_at_call 20; refine (toPiece_own p _ l _ (HV1.out.below (And.left (by assumption))) hn).mono ?_; rintro e w4 ⟨u4, rfl, hu4, k4⟩; have hs4 := (HST.out _ _ k4 (by assumption)).1.size; (first | (have fb := box_kept ⟨b0, b1, b2, b3, b4⟩ k4; obtain ⟨b0, b1, b2, b3, b4⟩ := fb) | (have fb := box_made k4; obtain ⟨b0, b1, b2, b3, b4⟩ := fb) | (have fb := box_made (undrew k4); obtain ⟨b0, b1, b2, b3, b4⟩ := fb) | skip); obtain ⟨A4, n4, c4, rfl⟩ := own_isSlice hu4.1)
          | (go_at_call 19; refine (sHelpFor_own n k p _ l i _ (by first | exact hu4.seen | exact (hu4.keep (turn_alloc _ _) (by omega)).seen)).mono ?_; rintro e w5 ⟨rfl, k5⟩; rw [HOK.out, HNA.out, HBY.out]; have hS5 := HST.out _ _ k5 (by assumption); (first | (have fb := box_kept ⟨b0, b1, b2, b3, b4⟩ k5; obtain ⟨b0, b1, b2, b3, b4⟩ := fb) | (have fb := box_made k5; obtain ⟨b0, b1, b2, b3, b4⟩ := fb) | skip)))
      all_goals
        go_wp2_with fail
        go_meet
        have hS5s := hS5.1.size
        first
          | exact ⟨w5.heap.size, rfl, rfl, box_new _ _ _ _, hS5s, (HSA.out _ _ hS5).1⟩
          | exact ⟨_, rfl, rfl, box_set ⟨b0, b1, b2, b3, b4⟩, by omega, (HSC.out _ _ _ _ (by omega) (HSC.out _ _ _ _ (by omega) hS5)).1⟩
    case rest =>
      obtain ⟨B1, rfl, rfl, hbx, hB1, hb1⟩ := hcut
      have hcs := hb1.size
      obtain ⟨-, dn, dk, dp, dv⟩ := HSS.out wc hb1
      have HB1 := Lib.hid hbx
      have HVC := Lib.hid (HV1.out.below hb1)
      have hTC : TurnIn 0 0 w wc := turn_trans k01 (TurnIn.of_below hb1) (by omega)
      clear HSS HSA HST HSC hS0 hbx cn ck cp cv
      go_wp2_with fail
      refine (toPiece_own p _ l _ HVC.out hn).mono ?_
      rintro e w6 ⟨x6, rfl, hx6, k6⟩
      have s6 := k6.size
      obtain ⟨A6, n6, c6, rfl⟩ := own_isSlice hx6.1
      have a7 := turn_alloc w6 (.cells #[.int .i64 p, .slice A6 n6 c6] 39)
      have z7 := World.size_alloc w6 (.cells #[.int .i64 p, .slice A6 n6 c6] 39)
      have x0 := alloc_duo0 w6 (.int .i64 p) (.slice A6 n6 c6) 39
      have x1 := alloc_duo1 w6 (.int .i64 p) (.slice A6 n6 c6) 39
      have k7 := turn_trans k6 a7 (by omega)
      replace dn := cell_turn k7 dn (by omega)
      replace dk := cell_turn k7 dk (by omega)
      replace dp := cell_turn k7 dp (by omega)
      replace dv := cell_turn k7 dv (by omega)
      have HX7 := Lib.hid (hx6.keep a7 (by omega)).seen
      have HB7 := Lib.hid (box_kept HB1.out k7)
      have HV7 := Lib.hid (HVC.out.touch k7)
      have hT7 : TurnIn 0 0 w (w6.alloc (.cells #[.int .i64 p, .slice A6 n6 c6] 39)) := turn_trans hTC k7 (by omega)
      have HTB := Lib.hid (ht.below hT7.to_below h0)
      clear hx6 k6 a7
      go_wp2_with fail
      generalize hw7 : (w6.alloc (.cells #[.int .i64 p, .slice A6 n6 c6] 39)) = w7 at *
      clear hw7
      have hl7 : w6.heap.size < w7.heap.size := by omega
      have hl7b : w7.heap.size ≤ w6.heap.size + 1 := by omega
      clear z7
      have hl7w : w.heap.size + 1 < w7.heap.size := by omega
      have hS0 : Below w7.heap.size w7 w7.drew ∧ w7.drew.cell? ⟨w.heap.size, 0, none⟩ = some (.int .i64 n) ∧ w7.drew.cell? ⟨w.heap.size, 1, none⟩ = some (.int .i64 k) ∧ w7.drew.cell? ⟨w6.heap.size, 0, none⟩ = some (.int .i64 p) ∧ w7.drew.cell? ⟨w6.heap.size, 1, none⟩ = some (.slice A6 n6 c6) := ⟨(Below.refl _ _).drew, dn, dk, x0, x1⟩
      have HSS : Hid (∀ W, Below w7.heap.size w7 W → (Below w7.heap.size w7 W ∧ W.cell? ⟨w.heap.size, 0, none⟩ = some (.int .i64 n) ∧ W.cell? ⟨w.heap.size, 1, none⟩ = some (.int .i64 k) ∧ W.cell? ⟨w6.heap.size, 0, none⟩ = some (.int .i64 p) ∧ W.cell? ⟨w6.heap.size, 1, none⟩ = some (.slice A6 n6 c6))) := fun W hb => ⟨hb, (hb.cell (p := ⟨w.heap.size, 0, none⟩) (show w.heap.size < w7.heap.size by omega)).trans dn, (hb.cell (p := ⟨w.heap.size, 1, none⟩) (show w.heap.size < w7.heap.size by omega)).trans dk, (hb.cell (p := ⟨w6.heap.size, 0, none⟩) hl7).trans x0, (hb.cell (p := ⟨w6.heap.size, 1, none⟩) hl7).trans x1⟩
      have HSA : Hid (∀ W o, (Below w7.heap.size w7 W ∧ W.cell? ⟨w.heap.size, 0, none⟩ = some (.int .i64 n) ∧ W.cell? ⟨w.heap.size, 1, none⟩ = some (.int .i64 k) ∧ W.cell? ⟨w6.heap.size, 0, none⟩ = some (.int .i64 p) ∧ W.cell? ⟨w6.heap.size, 1, none⟩ = some (.slice A6 n6 c6)) → (Below w7.heap.size w7 (W.alloc o) ∧ (W.alloc o).cell? ⟨w.heap.size, 0, none⟩ = some (.int .i64 n) ∧ (W.alloc o).cell? ⟨w.heap.size, 1, none⟩ = some (.int .i64 k) ∧ (W.alloc o).cell? ⟨w6.heap.size, 0, none⟩ = some (.int .i64 p) ∧ (W.alloc o).cell? ⟨w6.heap.size, 1, none⟩ = some (.slice A6 n6 c6))) := fun W o h => HSS.out _ (h.1.alloc h.1.size o)
      have HST : Hid (∀ W W', TurnIn 0 0 W W' → (Below w7.heap.size w7 W ∧ W.cell? ⟨w.heap.size, 0, none⟩ = some (.int .i64 n) ∧ W.cell? ⟨w.heap.size, 1, none⟩ = some (.int .i64 k) ∧ W.cell? ⟨w6.heap.size, 0, none⟩ = some (.int .i64 p) ∧ W.cell? ⟨w6.heap.size, 1, none⟩ = some (.slice A6 n6 c6)) → (Below w7.heap.size w7 W' ∧ W'.cell? ⟨w.heap.size, 0, none⟩ = some (.int .i64 n) ∧ W'.cell? ⟨w.heap.size, 1, none⟩ = some (.int .i64 k) ∧ W'.cell? ⟨w6.heap.size, 0, none⟩ = some (.int .i64 p) ∧ W'.cell? ⟨w6.heap.size, 1, none⟩ = some (.slice A6 n6 c6))) := fun W W' t h => HSS.out _ (t.base h.1 h.1.size (by omega))
      have HSC : Hid (∀ W B (o : Nat) x, w7.heap.size ≤ B → (Below w7.heap.size w7 W ∧ W.cell? ⟨w.heap.size, 0, none⟩ = some (.int .i64 n) ∧ W.cell? ⟨w.heap.size, 1, none⟩ = some (.int .i64 k) ∧ W.cell? ⟨w6.heap.size, 0, none⟩ = some (.int .i64 p) ∧ W.cell? ⟨w6.heap.size, 1, none⟩ = some (.slice A6 n6 c6)) → (Below w7.heap.size w7 (W.setCell ⟨B, o, none⟩ x) ∧ (W.setCell ⟨B, o, none⟩ x).cell? ⟨w.heap.size, 0, none⟩ = some (.int .i64 n) ∧ (W.setCell ⟨B, o, none⟩ x).cell? ⟨w.heap.size, 1, none⟩ = some (.int .i64 k) ∧ (W.setCell ⟨B, o, none⟩ x).cell? ⟨w6.heap.size, 0, none⟩ = some (.int .i64 p) ∧ (W.setCell ⟨B, o, none⟩ x).cell? ⟨w6.heap.size, 1, none⟩ = some (.slice A6 n6 c6))) := fun W B o x hB h => HSS.out _ (h.1.setCell (p := ⟨B, o, none⟩) hB x)
      go_cut [11, 12] from 29 to 36 (fun s8 s9 wx => HBox w7 na by' ok s8 s9 wx)
      case first =>
        go_region_held3 (fun W => Below w7.heap.size w7 W ∧ W.cell? ⟨w.heap.size, 0, none⟩ = some (.int .i64 n) ∧ W.cell? ⟨w.heap.size, 1, none⟩ = some (.int .i64 k) ∧ W.cell? ⟨w6.heap.size, 0, none⟩ = some (.int .i64 p) ∧ W.cell? ⟨w6.heap.size, 1, none⟩ = some (.slice A6 n6 c6))
          (first | exact hS0 | exact HST.out _ _ (by assumption) (by assumption) | exact HSA.out _ _ (by assumption) | exact HSA.out _ _ hS0 | exact HSA.out _ _ hS5 | exact hS5 | exact HSC.out _ _ _ _ (by omega) (HSC.out _ _ _ _ (by omega) hS5) | assumption)
          (first
            | (go_at_call 13; refine (toMsr_any n k _).mono ?_; rintro e w3 ⟨rfl, k3⟩; have hs3 := (HST.out _ _ k3 (by assumption)).1.size; (first | (have fb := box_made (undrew k3); obtain ⟨b0, b1, b2, b3, b4⟩ := fb) | skip))
            | (go_at_call 21; refine (helpFor_own n k p _ l i _ (HX7.out.below (And.left (by assumption))) (HTB.out.below (And.left (by assumption)) (by omega)) (by have := (And.left (by assumption) : Below w7.heap.size w7 _).size; omega)).mono ?_; rintro e w5 ⟨rfl, k5⟩; rw [HOK.out, HNA.out, HBY.out]; have hS5 := HST.out _ _ k5 (by assumption); (first | (have fb := box_kept ⟨b0, b1, b2, b3, b4⟩ k5; obtain ⟨b0, b1, b2, b3, b4⟩ := fb) | (have fb := box_made k5; obtain ⟨b0, b1, b2, b3, b4⟩ := fb) | skip)))
        all_goals
          go_wp2_with fail
          go_meet
          have hS5s := hS5.1.size
          first
            | exact ⟨w5.heap.size, rfl, rfl, box_new _ _ _ _, hS5s, (HSA.out _ _ hS5).1⟩
            | exact ⟨_, rfl, rfl, box_set ⟨b0, b1, b2, b3, b4⟩, by omega, (HSC.out _ _ _ _ (by omega) (HSC.out _ _ _ _ (by omega) hS5)).1⟩
      case rest =>
        obtain ⟨B2, rfl, rfl, hby2, hB2, hb2⟩ := hcut
        have hcs2 := hb2.size
        obtain ⟨-, en, ek, ex0, ex1⟩ := HSS.out wc hb2
        have t2 := TurnIn.of_below hb2
        obtain ⟨f0, f1, -, -, f4⟩ := hby2
        obtain ⟨g0, g1, -, -, g4⟩ := box_kept HB7.out t2
        replace dp := cell_turn t2 dp (by omega)
        replace dv := cell_turn t2 dv (by omega)
        clear HSS HSA HST HSC hS0
        go_wp2_with fail
        refine (eqHelp_same na by' _).mono ?_
        rintro e w8 ⟨rfl, k8⟩
        have s8 := k8.size
        replace ex0 := cell_turn k8 ex0 (by omega)
        replace ex1 := cell_turn k8 ex1 (by omega)
        replace dp := cell_turn k8 dp (by omega)
        replace dv := cell_turn k8 dv (by omega)
        have HX8 := Lib.hid ((HX7.out.touch t2).touch k8)
        have HV8 := Lib.hid ((HV7.out.touch t2).touch k8)
        have hT8 := turn_trans (turn_trans hT7 t2 (by omega)) k8 (by omega)
        have hS0 : Below w8.heap.size w8 w8.drew ∧ w8.drew.cell? ⟨w6.heap.size, 0, none⟩ = some (.int .i64 p) ∧ w8.drew.cell? ⟨w6.heap.size, 1, none⟩ = some (.slice A6 n6 c6) ∧ w8.drew.cell? ⟨w.heap.size + 1, 0, none⟩ = some (.int .i64 p) ∧ w8.drew.cell? ⟨w.heap.size + 1, 1, none⟩ = some (.slice A l.length c) := ⟨(Below.refl _ _).drew, ex0, ex1, dp, dv⟩
        have HSS : Hid (∀ W, Below w8.heap.size w8 W → (Below w8.heap.size w8 W ∧ W.cell? ⟨w6.heap.size, 0, none⟩ = some (.int .i64 p) ∧ W.cell? ⟨w6.heap.size, 1, none⟩ = some (.slice A6 n6 c6) ∧ W.cell? ⟨w.heap.size + 1, 0, none⟩ = some (.int .i64 p) ∧ W.cell? ⟨w.heap.size + 1, 1, none⟩ = some (.slice A l.length c))) := fun W hb => ⟨hb, (hb.cell (p := ⟨w6.heap.size, 0, none⟩) (show w6.heap.size < w8.heap.size by omega)).trans ex0, (hb.cell (p := ⟨w6.heap.size, 1, none⟩) (show w6.heap.size < w8.heap.size by omega)).trans ex1, (hb.cell (p := ⟨w.heap.size + 1, 0, none⟩) (show w.heap.size + 1 < w8.heap.size by omega)).trans dp, (hb.cell (p := ⟨w.heap.size + 1, 1, none⟩) (show w.heap.size + 1 < w8.heap.size by omega)).trans dv⟩
        go_wp2_with fail
        go_region_held3 (fun W => Below w8.heap.size w8 W ∧ W.cell? ⟨w6.heap.size, 0, none⟩ = some (.int .i64 p) ∧ W.cell? ⟨w6.heap.size, 1, none⟩ = some (.slice A6 n6 c6) ∧ W.cell? ⟨w.heap.size + 1, 0, none⟩ = some (.int .i64 p) ∧ W.cell? ⟨w.heap.size + 1, 1, none⟩ = some (.slice A l.length c))
          (first | exact hS0 | exact hS9 | exact hS10 | assumption)
          (first
            | (go_at_call 20; refine (toPiece_own p _ l _ (HV8.out.below (And.left (by assumption))) hn).mono ?_; rintro e w9 ⟨u9, rfl, hu9, k9⟩; obtain ⟨A9, n9, c9, rfl⟩ := own_isSlice hu9.1; have hS9 := HSS.out _ (k9.base (And.left (by assumption) : Below w8.heap.size w8 _) (And.left (by assumption) : Below w8.heap.size w8 _).size (by omega)))
            | (go_at_call 23; refine (eqPiece_same p _ _ l _ (HX8.out.below hS9.1) hu9.seen).mono ?_; rintro e w10 ⟨rfl, k10⟩; have hS10 := HSS.out _ (k10.base hS9.1 hS9.1.size (by omega))))
        all_goals
          go_wp2_with fail
          go_ret
          exact ⟨rfl, (turn_trans hT8 (TurnIn.of_below hS10.1) (by omega)).to_below⟩

set_option maxRecDepth 100000 in
theorem walk_FnExactHelpFor : G294.LawWalk Tryd.prog 4 Tryd.f4 Rows.fnExactHelpForSpec.vars false (fun W => laidMetH Tryd.prog Rows.fnExactHelpForRow.laid W) := by
  intro H enc W base args ds gs before hval hW hX
  have hlt0 : ∀ p ∈ before, p.block < W.heap.size := fun p hp => hW.lt p hp
  obtain ⟨p, q, hA, hV, rfl, hfz, hnd⟩ := hW
  rw [Tryd.params4] at hA hval
  obtain ⟨u0, vs0, d0, ds0, p0, q0, hargs, rfl, rfl, t0, r0⟩ := trodAll_cons hA
  obtain ⟨u1, vs1, d1, ds1, p1, q1, rfl, rfl, rfl, t1, r1⟩ := trodAll_cons r0
  obtain ⟨u2, vs2, d2, ds2, p2, q2, rfl, rfl, rfl, t2, r2⟩ := trodAll_cons r1
  obtain ⟨rfl, rfl, rfl⟩ := trodAll_nil r2
  obtain rfl : args = #[u0, u1, u2] := by cases args; simp_all
  obtain ⟨g0, e0, rfl⟩ := open_two Tryd.underlying23 (by kernel_rfl) (by kernel_rfl) Tryd.underlying3 Tryd.underlying3 (hval 0 23 u0 rfl rfl) t0
  obtain ⟨a1, y1, l1, rfl, sn1⟩ := seen_piece Tryd.underlying33 (by kernel_rfl) (by kernel_rfl) Tryd.underlying3 Tryd.underlying24 Tryd.underlying5 (by kernel_rfl) (hval 1 33 u1 rfl rfl) t1
  obtain ⟨a2, rfl, rfl, rfl, wf2⟩ := open_int Tryd.underlying3 (hval 2 3 u2 rfl rfl) t2
  obtain ⟨ht, hs⟩ := tab_of (by kernel_rfl) hX 0 rfl (by kernel_rfl)
  exact exactHelpFor_walk g0 e0 a1 y1 l1 a2 W sn1 ht hs

end Go.Proofs.YtlkoafnlklhaeaaDoor
