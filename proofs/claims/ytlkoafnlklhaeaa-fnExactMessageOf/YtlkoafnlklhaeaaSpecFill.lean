/- The model's identity, Vandermonde and Cauchy matrices. -/
import Derived.Test.YtlkoafnlklhaeaaSpecBlank
set_option linter.unusedSimpArgs false
set_option linter.unusedVariables false
namespace G294
open Go Go.RowKit
/-- what a function that fills a matrix keeps: its rows, the variable that holds them, the variable of its result, and old memory -/
structure Fill (E EE : TypeId) (w wr : World) (B : Nat) (v : Value) (L : Mat) (vs : List Value) : Prop where
  own : OwnM E EE wr (w.heap.size + 1) B v L vs
  var : wr.cell? ⟨B, 0, none⟩ = some v
  res : wr.cell? ⟨w.heap.size, 0, none⟩ = some (.slice none 0 0)
  resf : wr.frozen? ⟨w.heap.size, 0, none⟩ = false
  old : Below w.heap.size w wr
  size : B < wr.heap.size
  lo : w.heap.size < B
theorem Fill.drewN {E EE : TypeId} {w wr : World} {B : Nat} {v : Value} {L : Mat} {vs : List Value} (h : Fill E EE w wr B v L vs) (q : Nat) : Fill E EE w (wr.drewN q) B v L vs :=
  ⟨h.own.drewN q, h.var, h.res, h.resf, below_drewN h.old q, h.size, h.lo⟩
theorem Fill.congr {E EE : TypeId} {w wr : World} {B : Nat} {v : Value} {L L' : Mat} {vs : List Value} (h : Fill E EE w wr B v L vs) (e : L = L') : Fill E EE w wr B v L' vs := e ▸ h
theorem Fill.storeF {E EE : TypeId} {w wr : World} {B r c k j bb m cap' : Nat} {F : Ents} {x : UInt8} {v : Value} {vs : List Value} (h : Fill E EE w wr B v (mkM r c F) vs) (hk : k < r) (hu : vs[k]? = some (.slice (some ⟨bb, 0, none⟩) m cap')) :
    Fill E EE w (wr.setCell ⟨bb, j, none⟩ (.int .u8 (x.toNat : Int))) B v (mkM r c fun i jj => if i = k ∧ jj = j then x else F i jj) vs := by
  have ho := h.own.rows k _ hu
  have h1 := (ho.1.lt bb rfl).1
  have h2 := ho.2.2 bb rfl
  have hlo := h.lo
  exact ⟨h.own.storeF hk hu, (cell_set_other wr _ _ _ (by omega)).trans h.var, (cell_set_other wr _ _ _ (by omega)).trans h.res, (frozen_set_other wr _ _ _ (by omega)).trans h.resf, h.old.setCell (show w.heap.size ≤ bb by omega) _, by simpa using h.size, hlo⟩
theorem Fill.start {E EE : TypeId} {w w1 w2 : World} {v : Value} {L : Mat} {vs : List Value} {t : TypeId} (hw2 : w2 = w1.alloc (.cells #[v] t)) (hM : OwnM E EE w1 (w.heap.size + 1) w1.heap.size v L vs) (hc : w1.cell? ⟨w.heap.size, 0, none⟩ = some (.slice none 0 0)) (hf : w1.frozen? ⟨w.heap.size, 0, none⟩ = false)
    (hb : Below w.heap.size w w1) (hs : w.heap.size + 1 ≤ w1.heap.size) : Fill E EE w w2 w1.heap.size v L vs := by
  subst hw2
  have kA : TurnIn 0 0 w1 (w1.alloc (.cells #[v] t)) := TurnIn.of_below ((Below.refl _ _).alloc (Nat.le_refl _) _)
  exact ⟨hM.keep kA (by omega), by simp, cell_turn kA hc (by omega), frozen_turn kA hf (by omega), hb.alloc (by omega) _, by simp, by omega⟩
/-- the rows are stored into the result -/
theorem Fill.finish {E EE : TypeId} {w wr : World} {B : Nat} {v : Value} {L : Mat} {vs : List Value} (h : Fill E EE w wr B v L vs) :
    RetMat E EE w L (.returned (.agg #[v])) (wr.setCell ⟨w.heap.size, 0, none⟩ v) := by
  have kk := turn_setCell wr w.heap.size 0 v
  have hs := h.size
  exact ⟨v, vs, rfl, (h.own.keep kk (by omega)).wider (by omega) (by simp; omega) (by simp), TurnIn.of_below (h.old.setCell (Nat.le_refl _) _)⟩
end G294
namespace Go.Proofs.Ytlkoafnlklhaeaa
open Go.RowKit G294

end Go.Proofs.Ytlkoafnlklhaeaa
