/- Arrays of one-cell values as wholes: new, stored, loaded, returned. -/
import Derived.Test.YtbfchebnooanjaaStbMem
import Derived.Laws.Rows
import Derived.Laws.Tables
import Derived.Deep.RegionLaw
set_option linter.unusedSimpArgs false
set_option linter.unusedVariables false
namespace G294
open Go Go.RowKit
def ArrW (W : World) (B : Nat) (T : TypeId) (l : List Value) : Prop := W.heap[B]? = some (.cells l.toArray T (0, 0))
def aggV (l : List Value) : Value := .agg l.toArray
theorem turn_rowV (w : World) (B : Nat) (x : Array Value) : TurnIn B (B + 1) w (w.setRow B x) :=
  ⟨rfl, rfl, rfl, by simp, fun k hk hd => setRow_other w B k x (by omega)⟩
section
variable {w w' : World} {B a b : Nat} {T : TypeId} {l : List Value}
theorem ArrW.lt (h : ArrW w B T l) : B < w.heap.size := (Array.getElem?_eq_some_iff.1 h).1
theorem ArrW.new (w : World) (T : TypeId) (l : List Value) : ArrW (w.alloc (.cells l.toArray T)) w.heap.size T l := heap_alloc_new w _
theorem ArrW.keep (h : ArrW w B T l) (t : TurnIn a b w w') (d : B < a ∨ b ≤ B) : ArrW w' B T l := (t.block B h.lt d).trans h
theorem ArrW.cell (h : ArrW w B T l) {k : Nat} {x : Value} (hk : l[k]? = some x) : w.cell? ⟨B, k, none⟩ = some x := by
  rw [cell_of_row w B k _ T _ h, List.getElem?_toArray]; exact hk
theorem ArrW.frozen (h : ArrW w B T l) (k : Nat) : w.frozen? ⟨B, k, none⟩ = false := frozen_of_row w B k _ T h
theorem ArrW.set (h : ArrW w B T l) (k : Nat) (x : Value) : ArrW (w.setCell ⟨B, k, none⟩ x) B T (l.set k x) := by
  unfold ArrW
  rw [heap_setCell_same w B k _ T _ h]
  simp
theorem ArrW.row (h : ArrW w B T l) (m : List Value) : ArrW (w.setRow B m.toArray) B T m := setRow_heap w B _ _ T _ h
end
section
variable {P : Program} {ops : Array Oper} {rest : List Oper} {o : Oper} {a : Act} {w : World} {Q : Exit → Act → World → Prop}
theorem wpList_alloc_arv (hgd : o.guard = none) (ty : TypeId) (ho : o.op = .alloc ty) (z : List Value) (hz : (P.info? ty).map (·.zero) = some (some (aggV z)))
    (h : ∀ W', Hid (W' = w.alloc (.cells z.toArray ty)) → wpList P ops Q rest (a.put o.dst (.pointer (some ⟨w.heap.size, 0, none⟩))) W') : wpList P ops Q (o :: rest) a w := by
  refine wpList_plain hgd fun K hK => ?_
  cases hq : P.info? ty with
  | none => simp [hq] at hz
  | some i =>
    simp [hq, aggV] at hz
    have := hK _ _ (h _ rfl)
    unfold Oper.wp execOp
    simpa [ho, Instr.alloc, zeroValue, typeInfo, hq, hz, newVar, newRow, Value.cells, Result.andThen, Oper.upon] using this
theorem wpList_store_arv (hgd : o.guard = none) (ty : TypeId) (x y : Operand) (ho : o.op = .store ty x y) (g n : Nat) (t : TypeId) (l0 l : List Value) (hx : a.eval x = .pointer (some ⟨g, 0, none⟩)) (hy : a.eval y = aggV l)
    (hg : ArrW w g t l0) (hi : (P.info? ty).map (·.size) = some n) (h0 : l0.length = n) (hl : l.length = n) (h1 : l.toArray.all (·.oneCell') = true)
    (h : ∀ W', Hid (W' = w.setRow g l.toArray) → wpList P ops Q rest (a.put o.dst undef) W') : wpList P ops Q (o :: rest) a w :=
  wpList_store_row hgd ty x y ho g l.toArray hx hy t l0.toArray hg (by rw [hi]; simp [hl]) (by simp [h0, hl]) h1 (h _ rfl)
theorem wpList_load_arv (hgd : o.guard = none) (ty : TypeId) (x : Operand) (ho : o.op = .load ty x) (g n k : Nat) (e t : TypeId) (l : List Value) (hx : a.eval x = .pointer (some ⟨g, 0, none⟩))
    (hg : ArrW w g t l) (hi : (P.info? ty).map (·.size) = some n) (hu : P.underlying ty = some (.array k e)) (hl : l.length = n)
    (h : ∀ u, Hid (u = aggV l) → wpList P ops Q rest (a.put o.dst u) w) : wpList P ops Q (o :: rest) a w :=
  wpList_load_row hgd ty x ho g hx t l.toArray (0, 0) _ hg hu rfl (by rw [hi]; simp [hl]) (h _ rfl)
theorem ret_arv {fn : Func} {p : Tmp} {ty : TypeId} (h : fn.results = #[.cell p ty]) (tmps : Array Value) (g n k : Nat) (t e : TypeId) (l : List Value) (hp : tmps.getD p undef = .pointer (some ⟨g, 0, none⟩)) (hg : ArrW w g t l)
    (hu : P.underlying ty = some (.array k e)) (hi : (P.info? ty).map (·.size) = some n) (hl : l.length = n) : (results fn tmps).run P w = .ok (aggV l) w :=
  results_cell_row h tmps w g t l.toArray (0, 0) _ hp hg hu rfl (by rw [hi]; simp [hl])
end
theorem slices_one {l : List Value} (h : ∀ u ∈ l, ∃ A n c, u = .slice A n c) : l.toArray.all (·.oneCell') = true := by
  rw [Array.all_eq_true_iff_forall_mem]
  intro x hx
  obtain ⟨A, n, c, rfl⟩ := h x (by simpa using hx)
  rfl
end G294
