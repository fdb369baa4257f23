/- Arrays of bytes as variables: whole loads, stores, copies, comparisons. -/
import Derived.Test.YtfglkgeeelapgaaDoorShaDef
import Derived.Test.YtfglkgeeelapgaaDoorTurns
import Derived.Laws.Rows
import Derived.Laws.Tables
import Derived.Laws.CopyOwn
import Derived.Stop.BytesEq
import Derived.Deep.RegionLaw
set_option linter.unusedSimpArgs false
set_option linter.unusedVariables false
namespace G294
open Go Go.RowKit
/-- block B is an array variable that holds the bytes l -/
def ArrAt (W : World) (B : Nat) (T : TypeId) (l : List UInt8) : Prop := W.heap[B]? = some (.cells (bys l).toArray T (0, 0))
def aggL (l : List UInt8) : Value := .agg (bys l).toArray
section
variable {P : Program} {w w' : World} {B T a b : Nat} {l m : List UInt8}
theorem ArrAt.lt (h : ArrAt w B T l) : B < w.heap.size := (Array.getElem?_eq_some_iff.1 h).1
theorem ArrAt.new (w : World) (T : TypeId) (l : List UInt8) : ArrAt (w.alloc (.cells (bys l).toArray T)) w.heap.size T l := heap_alloc_new w _
theorem ArrAt.keep (h : ArrAt w B T l) (t : TurnIn a b w w') (d : B < a ∨ b ≤ B) : ArrAt w' B T l := (t.block B h.lt d).trans h
theorem ArrAt.cell (h : ArrAt w B T l) (k : Nat) (hk : k < l.length) : w.cell? ⟨B, k, none⟩ = some (.int .u8 (l[k].toNat : Int)) := by
  rw [cell_of_row w B k _ T _ h, List.getElem?_toArray, bys_get l k hk]
theorem ArrAt.cellAt (h : ArrAt w B T l) {k : Nat} {x : UInt8} (hk : l[k]? = some x) : w.cell? ⟨B, k, none⟩ = some (.int .u8 (x.toNat : Int)) := by
  obtain ⟨hl, rfl⟩ := List.getElem?_eq_some_iff.1 hk
  exact h.cell k hl
theorem ArrAt.frozen (h : ArrAt w B T l) (k : Nat) : w.frozen? ⟨B, k, none⟩ = false := frozen_of_row w B k _ T h
theorem ArrAt.seen (h : ArrAt w B T l) {n : Nat} (hn : l.length = n) (hm : n ≤ 1000) : Seen w (.slice (some ⟨B, 0, none⟩) n n) (bys l) :=
  ⟨_, n, by simp [hn], by simp [hn], by unfold maxLen; omega, fun _ => ⟨B, 0, rfl, h.lt, fun i u hu => by
    rw [cell_of_row w B _ _ T _ h, List.getElem?_toArray, Nat.zero_add]; exact hu⟩⟩
theorem bys_set (l : List UInt8) (k : Nat) (x : UInt8) : bys (l.set k x) = (bys l).set k (.int .u8 (x.toNat : Int)) := by simp [bys, List.map_set]
theorem ArrAt.set (h : ArrAt w B T l) (k : Nat) (x : UInt8) : ArrAt (w.setCell ⟨B, k, none⟩ (.int .u8 (x.toNat : Int))) B T (l.set k x) := by
  unfold ArrAt
  rw [heap_setCell_same w B k _ T _ h, bys_set]
  simp
theorem turn_set (w : World) (B o : Nat) (x : Value) : TurnIn B (B + 1) w (w.setCell ⟨B, o, none⟩ x) :=
  ⟨rfl, rfl, rfl, by simp, fun k hk hd => heap_setCell_other w _ k x (by rcases hd with h | h <;> simp <;> omega)⟩
theorem ArrAt.row (h : ArrAt w B T l) (m : List UInt8) : ArrAt (w.setRow B (bys m).toArray) B T m := setRow_heap w B _ _ T _ h
theorem turn_row (w : World) (B : Nat) (x : Array Value) : TurnIn B (B + 1) w (w.setRow B x) :=
  ⟨rfl, rfl, rfl, by simp, fun k hk hd => setRow_other w B k x (by omega)⟩
theorem turn_drewA {a b : Nat} {w w' : World} (t : TurnIn a b w w') : TurnIn a b w w'.drew := ⟨t.os, t.tape, t.output, t.size, t.block⟩
theorem drew_turnA (w : World) : TurnIn 0 0 w w.drew := ⟨rfl, rfl, rfl, Nat.le_refl _, fun _ _ _ => rfl⟩
theorem undrewA {a b : Nat} {w w' : World} (t : TurnIn a b w.drew w') : TurnIn a b w w' := ⟨t.os, t.tape, t.output, t.size, t.block⟩
theorem cell_keepA {w w' : World} {B o a b : Nat} {x : Value} (h : w.cell? ⟨B, o, none⟩ = some x) (hl : B < w.heap.size) (t : TurnIn a b w w') (d : B < a ∨ b ≤ B) : w'.cell? ⟨B, o, none⟩ = some x := (World.cell?_of_block (t.block B hl d)).trans h
theorem turn_from {n : Nat} {a b : World} (h : Below n a b) : TurnIn n a.heap.size a b := ⟨h.os, h.tape, h.output, h.size, fun k hk hd => h.block k (by omega)⟩
theorem bys_all (l : List UInt8) : (bys l).toArray.all (·.oneCell') = true := by
  rw [Array.all_eq_true_iff_forall_mem]
  intro x hx
  exact bys_one x l (by simpa using hx)
end
section
variable {P : Program} {ops : Array Oper} {rest : List Oper} {o : Oper} {a : Act} {w : World} {Q : Exit → Act → World → Prop}
/-- a new array variable -/
theorem wpList_alloc_arr (hgd : o.guard = none) (ty : TypeId) (ho : o.op = .alloc ty) (z : List UInt8) (hz : (P.info? ty).map (·.zero) = some (some (aggL z)))
    (h : ∀ W', Hid (W' = w.alloc (.cells (bys z).toArray ty)) → wpList P ops Q rest (a.put o.dst (.pointer (some ⟨w.heap.size, 0, none⟩))) W') : wpList P ops Q (o :: rest) a w := by
  refine wpList_plain hgd fun K hK => ?_
  cases hq : P.info? ty with
  | none => simp [hq] at hz
  | some i =>
    simp [hq, aggL] at hz
    have := hK _ _ (h _ rfl)
    unfold Oper.wp execOp
    simpa [ho, Instr.alloc, zeroValue, typeInfo, hq, hz, newVar, newRow, Value.cells, Result.andThen, Oper.upon] using this
/-- an array parameter is boxed -/
theorem wpList_box_arr (hgd : o.guard = none) (ty : TypeId) (x : Operand) (ho : o.op = .box ty x) (z : List UInt8) (hx : a.eval x = aggL z)
    (h : ∀ W', Hid (W' = w.alloc (.cells (bys z).toArray ty)) → wpList P ops Q rest (a.put o.dst (.pointer (some ⟨w.heap.size, 0, none⟩))) W') : wpList P ops Q (o :: rest) a w := by
  refine wpList_plain hgd fun K hK => ?_
  have := hK _ _ (h _ rfl)
  unfold Oper.wp execOp
  simpa [ho, hx, aggL, Instr.box, newVar, newRow, Value.cells, Result.andThen, Oper.upon] using this
theorem wpList_store_arr (hgd : o.guard = none) (ty : TypeId) (x y : Operand) (ho : o.op = .store ty x y) (g n : Nat) (t : TypeId) (l0 l : List UInt8) (hx : a.eval x = .pointer (some ⟨g, 0, none⟩)) (hy : a.eval y = aggL l)
    (hg : ArrAt w g t l0) (hi : (P.info? ty).map (·.size) = some n) (h0 : l0.length = n) (hl : l.length = n)
    (h : ∀ W', Hid (W' = w.setRow g (bys l).toArray) → wpList P ops Q rest (a.put o.dst undef) W') : wpList P ops Q (o :: rest) a w :=
  wpList_store_row hgd ty x y ho g (bys l).toArray hx hy t (bys l0).toArray hg (by rw [hi]; simp [hl]) (by simp [h0, hl]) (bys_all l) (h _ rfl)
theorem wpList_load_arr (hgd : o.guard = none) (ty : TypeId) (x : Operand) (ho : o.op = .load ty x) (g n k : Nat) (e t : TypeId) (l : List UInt8) (hx : a.eval x = .pointer (some ⟨g, 0, none⟩))
    (hg : ArrAt w g t l) (hi : (P.info? ty).map (·.size) = some n) (hu : P.underlying ty = some (.array k e)) (hl : l.length = n)
    (h : ∀ u, Hid (u = aggL l) → wpList P ops Q rest (a.put o.dst u) w) : wpList P ops Q (o :: rest) a w :=
  wpList_load_row hgd ty x ho g hx t (bys l).toArray (0, 0) _ hg hu rfl (by rw [hi]; simp [hl]) (h _ rfl)
theorem wpList_index_arr (hgd : o.guard = none) (ty : TypeId) (x ix : Operand) (ho : o.op = .index ty x ix) (l : List UInt8) (k n : Nat) (e : TypeId) (hx : a.eval x = aggL l) (hix : a.eval ix = .int .i64 (k : Int)) (hu : P.underlying ty = some (.array n e))
    (he : P.underlying e = some (.int .u8)) (hs : (P.info? e).map (·.size) = some 1) (hn : l.length = n) (hk : k < l.length) (h : ∀ u, Hid (u = .int .u8 (l[k].toNat : Int)) → wpList P ops Q rest (a.put o.dst u) w) : wpList P ops Q (o :: rest) a w := by
  refine wpList_plain hgd fun K hK => ?_
  have := hK _ _ (h _ rfl)
  cases hq : P.info? e with
  | none => simp [hq] at hs
  | some i =>
    simp [hq] at hs
    have h1 : (0 : Int) ≤ (k : Int) ∧ (k : Int) < (n : Int) := by omega
    have h2 : (bys l).toArray[k]? = some (.int .u8 (l[k].toNat : Int)) := by rw [List.getElem?_toArray, bys_get l k hk]
    unfold Oper.wp execOp
    have h3 : k < n := by omega
    simpa [ho, hx, hix, aggL, Instr.index, asIntOf, run_underlying hu, h3, Go.sizeOf, typeInfo, hq, hs, part, isAgg, run_underlying he, h2, bys_get l k hk, Result.andThen, Oper.upon] using this
/-- two arrays compared -/
theorem wpList_eql_arr (hgd : o.guard = none) (ty ty2 : TypeId) (x y : Operand) (ho : o.op = .binOp .eql ty x y ty2) (u v : Value) (hx : a.eval x = u) (hy : a.eval y = v) (hq : (eqGuard .eql ty x y u v).run P w = .ok () w) {r : Bool} (hr : (binOp .eql ty u v).run P w = .ok (.bool r) w)
    (h : wpList P ops Q rest (a.put o.dst (.bool r)) w) : wpList P ops Q (o :: rest) a w := by
  refine wpList_plain hgd fun K hK => ?_
  have := hK _ _ h
  unfold Oper.wp execOp
  simpa [ho, hx, hy, hq, hr, Result.andThen, Oper.upon] using this
/-- an array result -/
theorem ret_arr {fn : Func} {p : Tmp} {ty : TypeId} (h : fn.results = #[.cell p ty]) (tmps : Array Value) (g n k : Nat) (t e : TypeId) (l : List UInt8) (hp : tmps.getD p undef = .pointer (some ⟨g, 0, none⟩)) (hg : ArrAt w g t l)
    (hu : P.underlying ty = some (.array k e)) (hi : (P.info? ty).map (·.size) = some n) (hl : l.length = n) : (results fn tmps).run P w = .ok (aggL l) w :=
  results_cell_row h tmps w g t (bys l).toArray (0, 0) _ hp hg hu rfl (by rw [hi]; simp [hl])
end
theorem stillA {P : Program} {f : FuncId} {args : Array Value} {w : World} {v : Value} (h : Calls P f args w fun e w' => e = .returned v ∧ w = w') :
    Calls P f args w fun e w' => e = .returned v ∧ w' = w := h.mono fun _ _ ⟨he, hw⟩ => ⟨he, hw.symm⟩
/-- a multiple of V added to the first k elements of M -/
def mixK (f : UInt8) (M V : List UInt8) (k : Nat) : List UInt8 := (addL M (scaleL f V)).take k ++ M.drop k
theorem mixK_zero (f : UInt8) (M V : List UInt8) : mixK f M V 0 = M := by simp [mixK]
theorem mixK_end (f : UInt8) (M V : List UInt8) (h : M.length = V.length) (k : Nat) (hk : M.length ≤ k) : mixK f M V k = addL M (scaleL f V) := by
  unfold mixK
  rw [List.take_of_length_le (by rw [addL_lenS _ _ (by rw [scaleL_lenS, h])]; exact hk), List.drop_of_length_le hk, List.append_nil]
theorem mixK_len (f : UInt8) (M V : List UInt8) (h : M.length = V.length) (k : Nat) (hk : k ≤ M.length) : (mixK f M V k).length = M.length := by
  simp [mixK, addL_lenS _ _ (show M.length = (scaleL f V).length by rw [scaleL_lenS, h])]; omega
theorem mixK_get (f : UInt8) (M V : List UInt8) (h : M.length = V.length) (k : Nat) (hk : k < M.length) : (mixK f M V k)[k]? = some M[k] := by
  have hl := addL_lenS M (scaleL f V) (by rw [scaleL_lenS, h])
  show ((addL M (scaleL f V)).take k ++ M.drop k)[k]? = _
  rw [List.getElem?_append_right (by rw [List.length_take, hl]; omega)]
  simp [List.length_take, hl, Nat.min_eq_left (Nat.le_of_lt hk)]
theorem mixK_set (f : UInt8) (M V : List UInt8) (h : M.length = V.length) (k : Nat) (hk : k < M.length) (hv : k < V.length) : (mixK f M V k).set k (M[k] ^^^ gmul f V[k]) = mixK f M V (k + 1) := by
  unfold mixK
  have hl := addL_lenS M (scaleL f V) (by rw [scaleL_lenS, h])
  refine take_set_over _ _ k _ ?_ hl
  simp [addL, scaleL, List.getElem?_zipWith, hk, hv]
end G294
