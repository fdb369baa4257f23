/- What a function that fills a matrix keeps, wherever its variable lies. -/
import Derived.Test.YtbopocpmodpfcaaDoorSpecFill
import Derived.Test.YtbopocpmodpfcaaDoorAllocs
set_option linter.unusedSimpArgs false
set_option linter.unusedVariables false
namespace G294
open Go Go.RowKit
theorem RetMat.base {E EE : TypeId} {w w1 w' : World} {L : Mat} {e : Ending} (h : RetMat E EE w1 L e w') (hb : Below w.heap.size w w1) : RetMat E EE w L e w' := by
  obtain ⟨v, vs, he, h1, h2⟩ := h
  exact ⟨v, vs, he, h1.wider hb.size (Nat.le_refl _) (Nat.le_refl _), turn_of_below hb h2⟩
/-- rows, the variable (block B) that holds them, the variable of the result (block R), old memory -/
structure Fill2 (E EE : TypeId) (w wr : World) (R B : Nat) (v : Value) (L : Mat) (vs : List Value) : Prop where
  own : ∃ lo hi, OwnM E EE wr lo hi v L vs ∧ w.heap.size ≤ lo ∧ (R < lo ∨ hi ≤ R) ∧ (B < lo ∨ hi ≤ B)
  var : wr.cell? ⟨B, 0, none⟩ = some v
  res : wr.cell? ⟨R, 0, none⟩ = some (.slice none 0 0)
  resf : wr.frozen? ⟨R, 0, none⟩ = false
  old : Below w.heap.size w wr
  size : B < wr.heap.size ∧ R < wr.heap.size
  lo : w.heap.size ≤ B ∧ w.heap.size ≤ R
section
variable {E EE : TypeId} {w wr : World} {R B : Nat} {v : Value} {L L' : Mat} {vs : List Value}
theorem Fill2.drewN (h : Fill2 E EE w wr R B v L vs) (q : Nat) : Fill2 E EE w (wr.drewN q) R B v L vs := by
  obtain ⟨lo, hi, h1, h2⟩ := h.own
  exact ⟨⟨lo, hi, h1.drewN q, h2⟩, h.var, h.res, h.resf, below_drewN h.old q, h.size, h.lo⟩
theorem Fill2.congr (h : Fill2 E EE w wr R B v L vs) (e : L = L') : Fill2 E EE w wr R B v L' vs := e ▸ h
theorem Fill2.storeF {r c k j bb m cap' : Nat} {F : Ents} {x : UInt8} (h : Fill2 E EE w wr R B v (mkM r c F) vs) (hk : k < r) (hu : vs[k]? = some (.slice (some ⟨bb, 0, none⟩) m cap')) :
    Fill2 E EE w (wr.setCell ⟨bb, j, none⟩ (.int .u8 (x.toNat : Int))) R B v (mkM r c fun i jj => if i = k ∧ jj = j then x else F i jj) vs := by
  obtain ⟨lo, hi, h1, h2, h3, h4⟩ := h.own
  have ho := h1.rows k _ hu
  have e1 := (ho.1.lt bb rfl).1
  have e2 := ho.2.2 bb rfl
  exact ⟨⟨lo, hi, h1.storeF hk hu, h2, h3, h4⟩, (cell_set_other wr _ _ _ (by omega)).trans h.var, (cell_set_other wr _ _ _ (by omega)).trans h.res, (frozen_set_other wr _ _ _ (by omega)).trans h.resf, h.old.setCell (show w.heap.size ≤ bb by omega) _, by simpa using h.size, h.lo⟩
theorem Fill2.rowF {r c : Nat} {F : Ents} (h : Fill2 E EE w wr R B v (mkM r c F) vs) (k : Nat) (hk : k < r) (hc : 0 < c) : ∃ bb cp, vs[k]? = some (.slice (some ⟨bb, 0, none⟩) c cp) ∧ w.heap.size ≤ bb ∧ bb < wr.heap.size ∧ bb ≠ R ∧ bb ≠ B ∧ v.ownBlock ≠ some bb ∧ c ≤ cp ∧ cp ≤ maxLen ∧
    (∀ j, wr.frozen? ⟨bb, j, none⟩ = false) ∧ ∀ j, j < c → wr.cell? ⟨bb, j, none⟩ = some (.int .u8 ((F k j).toNat : Int)) := by
  obtain ⟨lo, hi, h1, h2, h3, h4⟩ := h.own
  obtain ⟨bb, cp, a1, a2, a3, a4, a5, a6, a7, a8⟩ := h1.rowF k hk hc
  have := h1.top
  exact ⟨bb, cp, a1, by omega, by omega, by omega, by omega, a4, a5, a6, a7, a8⟩
theorem Fill2.cellAt {g n cap k : Nat} {u : Value} (h : Fill2 E EE w wr R B (.slice (some ⟨g, 0, none⟩) n cap) L vs) (hk : vs[k]? = some u) : wr.cell? ⟨g, k, none⟩ = some u := by
  obtain ⟨lo, hi, h1, _⟩ := h.own
  exact h1.cellAt hk
theorem Fill2.vblock {g n cap : Nat} (h : Fill2 E EE w wr R B (.slice (some ⟨g, 0, none⟩) n cap) L vs) : w.heap.size ≤ g ∧ g ≠ R ∧ g ≠ B := by
  obtain ⟨lo, hi, h1, h2, h3, h4⟩ := h.own
  have e1 := (h1.row.lt g rfl).1
  have e2 := h1.out g rfl
  exact ⟨by omega, by omega, by omega⟩
/-- the variable is made behind the rows -/
theorem Fill2.late {w1 w2 : World} {t : TypeId} {lo : Nat} (hw2 : w2 = w1.alloc (.cells #[v] t)) (hM : OwnM E EE w1 lo w1.heap.size v L vs) (hlo : w.heap.size ≤ lo) (hR : R < lo ∧ w.heap.size ≤ R) (hc : w1.cell? ⟨R, 0, none⟩ = some (.slice none 0 0)) (hf : w1.frozen? ⟨R, 0, none⟩ = false)
    (hb : Below w.heap.size w w1) (hs : R < w1.heap.size) : Fill2 E EE w w2 R w1.heap.size v L vs := by
  subst hw2
  have kA : TurnIn 0 0 w1 (w1.alloc (.cells #[v] t)) := TurnIn.of_below ((Below.refl _ _).alloc (Nat.le_refl _) _)
  have hbs := hb.size
  exact ⟨⟨lo, w1.heap.size, hM.keep kA (by omega), hlo, by omega, by omega⟩, by simp, cell_turn kA hc hs, frozen_turn kA hf hs, hb.alloc (by omega) _, ⟨by simp, by simp; omega⟩, ⟨hbs, hR.2⟩⟩
/-- the variable was made ahead of the rows -/
theorem Fill2.early {w1 : World} {lo : Nat} (hM : OwnM E EE w1 lo w1.heap.size v L vs) (hlo : w.heap.size ≤ lo) (hR : R < lo ∧ w.heap.size ≤ R) (hB : B < lo ∧ w.heap.size ≤ B) (hne : B ≠ R) (hv : w1.cell? ⟨B, 0, none⟩ = some (.slice none 0 0)) (hc : w1.cell? ⟨R, 0, none⟩ = some (.slice none 0 0)) (hf : w1.frozen? ⟨R, 0, none⟩ = false)
    (hb : Below w.heap.size w w1) (hs : R < w1.heap.size ∧ B < w1.heap.size) : Fill2 E EE w (w1.setCell ⟨B, 0, none⟩ v) R B v L vs := by
  have kA := turn_setCell w1 B 0 v
  exact ⟨⟨lo, w1.heap.size, hM.keep kA (by omega), hlo, by omega, by omega⟩, World.cell?_setCell_same _ _ _ hv, (cell_set_other w1 _ _ _ hne).trans hc, (frozen_set_other w1 _ _ _ hne).trans hf, hb.setCell hB.2 _, ⟨by simpa using hs.2, by simpa using hs.1⟩, ⟨hB.2, hR.2⟩⟩
/-- the rows are stored into the result -/
theorem Fill2.finish (h : Fill2 E EE w wr R B v L vs) : RetMat E EE w L (.returned (.agg #[v])) (wr.setCell ⟨R, 0, none⟩ v) := by
  obtain ⟨lo, hi, h1, h2, h3, _⟩ := h.own
  have kk := turn_setCell wr R 0 v
  exact ⟨v, vs, rfl, (h1.keep kk (by omega)).wider h2 (by have := h1.top; simp; omega) (by simp), TurnIn.of_below (h.old.setCell h.lo.2 _)⟩
end
end G294
