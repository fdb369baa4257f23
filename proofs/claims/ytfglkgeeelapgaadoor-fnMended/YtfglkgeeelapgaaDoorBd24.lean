/- Joined texts: CutS. -/
import Derived.Test.YtfglkgeeelapgaaDoorBd19
set_option linter.unusedSimpArgs false
set_option linter.unusedVariables false
/- A stripe that a call hands back, in a box of two cells that was made ahead of the call or behind it. -/
namespace G294
open Go Go.RowKit
/-- two cells of a box -/
def BoxD (B : Nat) (a b : Value) (W : World) : Prop := W.cell? ⟨B, 0, none⟩ = some a ∧ W.cell? ⟨B, 1, none⟩ = some b ∧ W.frozen? ⟨B, 0, none⟩ = false ∧ W.frozen? ⟨B, 1, none⟩ = false ∧ B < W.heap.size
theorem boxD_made {X W : World} {a b : Value} {T : TypeId} (k : TurnIn 0 0 (X.alloc (.cells #[a, b] T)) W) : BoxD X.heap.size a b W :=
  ⟨cell_turn k (alloc_duo0 _ _ _ _) (alloc_lt _ _), cell_turn k (alloc_duo1 _ _ _ _) (alloc_lt _ _), frozen_turn k (alloc_frz _ _ _ _) (alloc_lt _ _), frozen_turn k (alloc_frz _ _ _ _) (alloc_lt _ _), Nat.lt_of_lt_of_le (alloc_lt _ _) k.size⟩
theorem boxD_kept {W W' : World} {B : Nat} {a b : Value} (h : BoxD B a b W) (k : TurnIn 0 0 W W') : BoxD B a b W' :=
  ⟨cell_turn k h.1 h.2.2.2.2, cell_turn k h.2.1 h.2.2.2.2, frozen_turn k h.2.2.1 h.2.2.2.2, frozen_turn k h.2.2.2.1 h.2.2.2.2, Nat.lt_of_lt_of_le h.2.2.2.2 k.size⟩
def TBoxOk (E : TypeId) (w0 : World) (t : Strp) (ok : Bool) (s6 s7 : Value) (W : World) : Prop := ∃ B x y lo hi, s6 = .pointer (some ⟨B, 0, none⟩) ∧ s7 = .bool ok ∧ W.cell? ⟨B, 0, none⟩ = some x ∧ W.cell? ⟨B, 1, none⟩ = some y ∧ B < W.heap.size ∧ w0.heap.size ≤ B ∧
  OwnT E W lo hi x y t ∧ w0.heap.size ≤ lo ∧ hi ≤ W.heap.size ∧ (B < lo ∨ hi ≤ B) ∧ TurnIn 0 0 w0 W
theorem tbox_new {E : TypeId} {w0 X : World} {lo : Nat} {x y : Value} {t : Strp} {ok : Bool} {T : TypeId} (k : TurnIn 0 0 w0 X) (o : OwnT E X lo X.heap.size x y t) (h : w0.heap.size ≤ lo) : TBoxOk E w0 t ok (.pointer (some ⟨X.heap.size, 0, none⟩)) (.bool ok) (X.alloc (.cells #[x, y] T)) :=
  ⟨_, _, _, lo, X.heap.size, rfl, rfl, alloc_duo0 _ _ _ _, alloc_duo1 _ _ _ _, alloc_lt _ _, k.size, o.keep (turn_alloc _ _) (by omega), h, Nat.le_of_lt (alloc_lt _ _), .inr (Nat.le_refl _), turn_trans k (turn_alloc _ _) (by omega)⟩
theorem tbox_set {E : TypeId} {w0 X : World} {lo B : Nat} {x y p q : Value} {t : Strp} {ok : Bool} (b : BoxD B p q X) (hl : B < lo) (hB : w0.heap.size ≤ B) (k : TurnIn 0 0 w0 X) (o : OwnT E X lo X.heap.size x y t) :
    TBoxOk E w0 t ok (.pointer (some ⟨B, 0, none⟩)) (.bool ok) ((X.setCell ⟨B, 0, none⟩ x).setCell ⟨B, 1, none⟩ y) := by
  obtain ⟨b0, b1, _, _, b4⟩ := b
  have k0 := turn_setCell X B 0 x
  have k1 := turn_setCell (X.setCell ⟨B, 0, none⟩ x) B 1 y
  have e1 : (X.setCell ⟨B, 0, none⟩ x).cell? ⟨B, 1, none⟩ = some q := (World.cell?_setCell_other _ _ _ _ (by simp)).trans b1
  have s0 := k0.size
  have s1 := k1.size
  have hlo : w0.heap.size ≤ lo := by omega
  exact ⟨B, x, y, lo, X.heap.size, rfl, rfl, (World.cell?_setCell_other _ _ _ _ (by simp)).trans (World.cell?_setCell_same _ _ _ b0), World.cell?_setCell_same _ _ _ e1, by omega, hB, (o.keep k0 (by omega)).keep k1 (by omega), hlo, by omega, .inl hl, TurnIn.of_below ((k.to_below.setCell (p := ⟨B, 0, none⟩) hB _).setCell (p := ⟨B, 1, none⟩) hB _)⟩
/-- what the loads of a drawn region read: two boxes of two cells, in worlds that grew -/
def FourAt (w1 : World) (B C : Nat) (a b c d : Value) (W : World) : Prop := Below w1.heap.size w1 W ∧ W.cell? ⟨B, 0, none⟩ = some a ∧ W.cell? ⟨B, 1, none⟩ = some b ∧ W.cell? ⟨C, 0, none⟩ = some c ∧ W.cell? ⟨C, 1, none⟩ = some d
theorem four_below {w1 W : World} {B C : Nat} {a b c d : Value} (h1 : w1.cell? ⟨B, 0, none⟩ = some a) (h2 : w1.cell? ⟨B, 1, none⟩ = some b) (h3 : w1.cell? ⟨C, 0, none⟩ = some c) (h4 : w1.cell? ⟨C, 1, none⟩ = some d) (hB : B < w1.heap.size) (hC : C < w1.heap.size) (hb : Below w1.heap.size w1 W) : FourAt w1 B C a b c d W :=
  ⟨hb, (hb.cell (p := ⟨B, 0, none⟩) hB).trans h1, (hb.cell (p := ⟨B, 1, none⟩) hB).trans h2, (hb.cell (p := ⟨C, 0, none⟩) hC).trans h3, (hb.cell (p := ⟨C, 1, none⟩) hC).trans h4⟩
end G294
