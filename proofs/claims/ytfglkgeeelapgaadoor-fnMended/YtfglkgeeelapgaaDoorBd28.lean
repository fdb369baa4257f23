/- Joined texts: MrgBox. -/
import Derived.Test.YtfglkgeeelapgaaDoorBd27
import Derived.Test.YtfglkgeeelapgaaDoorBd24
set_option linter.unusedSimpArgs false
set_option linter.unusedVariables false
/- A list of texts of the call's own in a new box beside an empty one. -/
namespace G294
open Go Go.RowKit
def MBox (E : TypeId) (w0 : World) (D : List (List UInt8)) (s : Value) (W : World) : Prop := ∃ B x lo, s = .pointer (some ⟨B, 0, none⟩) ∧ BoxD B x (.slice none 0 0) W ∧ (∀ g, x.ownBlock = some g → g ≠ B) ∧ OwnStrs E W lo W.heap.size x D ∧ w0.heap.size ≤ lo ∧ w0.heap.size ≤ B ∧ TurnIn 0 0 w0 W
theorem mbox_new {E : TypeId} {w0 X : World} {lo : Nat} {x : Value} {D : List (List UInt8)} {T : TypeId} (k : TurnIn 0 0 w0 X) (o : OwnStrs E X lo X.heap.size x D) (h : w0.heap.size ≤ lo) : MBox E w0 D (.pointer (some ⟨X.heap.size, 0, none⟩)) (X.alloc (.cells #[x, .slice none 0 0] T)) := by
  refine ⟨_, x, lo, rfl, boxD_made (T := T) (TurnIn.refl _), fun g e => ?_, (o.keep (turn_alloc _ _) (by omega)).widerS (Nat.le_refl _) (Nat.le_of_lt (alloc_lt _ _)) (Nat.le_refl _), h, k.size, turn_trans k (turn_alloc _ _) (by omega)⟩
  have := o.2.2 g e
  omega
theorem mbox_set {E : TypeId} {w0 X : World} {lo B : Nat} {x p : Value} {D : List (List UInt8)} (b : BoxD B p (.slice none 0 0) X) (hx : ∀ g, x.ownBlock = some g → g ≠ B) (hB : w0.heap.size ≤ B) (k : TurnIn 0 0 w0 X) (o : OwnStrs E X lo X.heap.size x D) (h : w0.heap.size ≤ lo) :
    MBox E w0 D (.pointer (some ⟨B, 0, none⟩)) ((X.setCell ⟨B, 0, none⟩ x).setCell ⟨B, 1, none⟩ (.slice none 0 0)) := by
  obtain ⟨b0, b1, b2, b3, b4⟩ := b
  have e1 : (X.setCell ⟨B, 0, none⟩ x).cell? ⟨B, 1, none⟩ = some (.slice none 0 0) := (World.cell?_setCell_other _ _ _ _ (by simp)).trans b1
  have hz : ((X.setCell ⟨B, 0, none⟩ x).setCell ⟨B, 1, none⟩ (.slice none 0 0)).heap.size = X.heap.size := by simp
  have key : ∀ {W : World} {q : Nat} {z : Value}, OwnStrs E W lo X.heap.size x D → OwnStrs E (W.setCell ⟨B, q, none⟩ z) lo X.heap.size x D := by
    intro W q z hh
    obtain ⟨h1, h2, h3⟩ := hh
    have kk := turn_setCell W B q z
    refine ⟨⟨h1.1, ?_⟩, by simpa using h2, h3⟩
    rcases h1.2 with hn | ⟨g, cap, cur, rfl, hbg, hg, rest⟩
    · exact .inl hn
    · refine .inr ⟨g, cap, cur, rfl, hbg, ?_, rest⟩
      have := hx g rfl
      rw [kk.block g (Array.getElem?_eq_some_iff.1 hg).1 (by omega)]
      exact hg
  refine ⟨B, x, lo, rfl, ⟨(World.cell?_setCell_other _ _ _ _ (by simp)).trans (World.cell?_setCell_same _ _ _ b0), World.cell?_setCell_same _ _ _ e1, by simp [b2], by simp [b3], by rw [hz]; exact b4⟩, hx, ?_, h, hB, TurnIn.of_below ((k.to_below.setCell (p := ⟨B, 0, none⟩) hB _).setCell (p := ⟨B, 1, none⟩) hB _)⟩
  rw [hz]
  exact key (key o)
theorem textsF_succ (k : Nat) (F : Nat → List UInt8) : strs (textsF (k + 1) F) = strs (textsF k F) ++ [.string (str (F k))] := by
  simp [textsF, strs, List.range_succ]
end G294
namespace G294
open Go Go.RowKit
theorem boxD_grown {W W' : World} {B : Nat} {a b : Value} {row : Option Nat} (h : BoxD B a b W) (hg : W.grownBy W' row) (hne : row ≠ some B) : BoxD B a b W' := by
  obtain ⟨h0, h1, h2, h3, h4⟩ := h
  have k := TurnIn.refl W
  exact ⟨(cell_past k hg hne h4 0).trans h0, (cell_past k hg hne h4 1).trans h1, (frozen_past k hg hne h4 0).trans h2, (frozen_past k hg hne h4 1).trans h3, Nat.lt_of_lt_of_le h4 hg.size⟩
/-- a merged stripe grows in its box: its data stand, its parities are appended one by one -/
structure MInv (E : TypeId) (w wr : World) (B lo mid : Nat) (x o : Value) (D P : List (List UInt8)) (va vb vq : Value) : Prop where
  box : BoxD B x o wr
  data : OwnStrs E wr lo mid x D
  par : OwnStrs E wr mid wr.heap.size o P
  a0 : wr.cell? ⟨w.heap.size, 0, none⟩ = some va
  kept : Kept wr (w.heap.size + 1) (w.heap.size + 2) vb vq (.slice none 0 0) (.slice none 0 0)
  old : Below w.heap.size w wr
  hB : B < mid
  hlo : w.heap.size + 3 ≤ lo
  hB0 : w.heap.size + 3 ≤ B
  hne : ∀ g, x.ownBlock = some g → g ≠ B
theorem MInv.next {E : TypeId} {w wr X W1 : World} {B lo mid : Nat} {x o v' : Value} {D P P' : List (List UInt8)} {va vb vq : Value} (h : MInv E w wr B lo mid x o D P va vb vq) (k : TurnIn 0 0 wr X) (ho : W1.ownsRow mid E 1 v' P'.length (strs P')) (hg : X.grownBy W1 o.ownBlock) :
    MInv E w (W1.setCell ⟨B, 1, none⟩ v') B lo mid x v' D P' va vb vq := by
  have h1 := h.hB
  have h2 := h.hlo
  have h3 := h.hB0
  have h4 : mid ≤ wr.heap.size := h.data.2.1
  have s1 := k.size
  have s2 := hg.size
  have tA : TurnIn mid X.heap.size X W1 := TurnIn.of_grown (lo := mid) (hi := X.heap.size) hg (fun g e => ⟨(h.par.1.lt g e).1, by have := h.par.2.2 g e; omega⟩)
  have kS := turn_setCell W1 B 1 v'
  have cc : ∀ {C p : Nat} {z : Value}, wr.cell? ⟨C, p, none⟩ = some z → C < mid → W1.cell? ⟨C, p, none⟩ = some z := fun {C p z} hh hc => by
    have e1 := cell_turn k hh (by omega)
    exact (World.cell?_of_block (tA.block C (by omega) (by omega))).trans e1
  have ff : ∀ {C p : Nat}, wr.frozen? ⟨C, p, none⟩ = false → C < mid → W1.frozen? ⟨C, p, none⟩ = false := fun {C p} hh hc => by
    have e1 := frozen_turn k hh (by omega)
    have e2 := tA.block C (by omega) (by omega)
    simp only [World.frozen?, e2] at e1 ⊢
    exact e1
  obtain ⟨b0, b1, b2, b3, b4⟩ := h.box
  obtain ⟨x0, x1, r0, r1, f0, f1⟩ := h.kept
  have hne : ∀ {W : World} {q : Nat} {z : Value}, OwnStrs E W lo mid x D → OwnStrs E (W.setCell ⟨B, q, none⟩ z) lo mid x D := by
    intro W q z hh
    obtain ⟨g1, g2, g3⟩ := hh
    have kk := turn_setCell W B q z
    refine ⟨⟨g1.1, ?_⟩, by simpa using g2, g3⟩
    rcases g1.2 with hn | ⟨g, cap, cur, rfl, hbg, hg, rest⟩
    · exact .inl hn
    · refine .inr ⟨g, cap, cur, rfl, hbg, ?_, rest⟩
      have := h.hne g rfl
      rw [kk.block g (Array.getElem?_eq_some_iff.1 hg).1 (by omega)]
      exact hg
  have hz : (W1.setCell ⟨B, 1, none⟩ v').heap.size = W1.heap.size := by simp
  have hold : Below w.heap.size w W1 := (tA.base (k.base h.old (by omega) (by omega)) (by omega) (by omega))
  refine ⟨⟨(World.cell?_setCell_other _ _ _ _ (by simp)).trans (cc b0 h1), World.cell?_setCell_same _ _ _ (cc b1 h1), by simp [ff b2 h1], by simp [ff b3 h1], by rw [hz]; omega⟩, hne ((h.data.keep k (by omega)).keep tA (by omega)), ?_, (cell_set_other W1 _ _ _ (by omega)).trans (cc h.a0 (by omega)), ⟨(cell_set_other W1 _ _ _ (by omega)).trans (cc x0 (by omega)), (cell_set_other W1 _ _ _ (by omega)).trans (cc x1 (by omega)), (cell_set_other W1 _ _ _ (by omega)).trans (cc r0 (by omega)), (cell_set_other W1 _ _ _ (by omega)).trans (cc r1 (by omega)), (frozen_set_other W1 _ _ _ (by omega)).trans (ff f0 (by omega)), (frozen_set_other W1 _ _ _ (by omega)).trans (ff f1 (by omega))⟩, hold.setCell (p := ⟨B, 1, none⟩) (show w.heap.size ≤ B by omega) _, h1, h2, h3, h.hne⟩
  rw [hz]
  exact OwnStrs.keep (hi := W1.heap.size) ⟨ho, Nat.le_refl _, fun g e => (ho.lt g e).2⟩ kS (by omega)
end G294
