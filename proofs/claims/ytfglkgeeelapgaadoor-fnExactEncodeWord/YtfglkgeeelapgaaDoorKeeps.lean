/- What a round of a range over a function keeps. -/
import Derived.RangeFuncNested
import Derived.RangeFuncBound
import Derived.RangeFuncCalls
import Derived.RangeFuncLeaves
import Derived.Shelf.Abstract
import Derived.Shelf.RegionOpen
import Derived.WalkKit
import Derived.OwnWalkIn
import Derived.TacticsInMore
import Derived.LoopNIn
import Derived.LoopIn
import Derived.Test.YtfglkgeeelapgaaDoorTurns
set_option linter.unusedSimpArgs false
set_option linter.unusedVariables false
namespace G294
open Go Go.RowKit
/-- what lies below n₀, but for one block, is as it was -/
structure KeepBut (n₀ Bs : Nat) (W W' : World) : Prop where
  os : W'.os = W.os
  tape : W'.tape = W.tape
  output : W'.output = W.output
  size : W.heap.size ≤ W'.heap.size
  block : ∀ k, k < n₀ → k ≠ Bs → W'.heap[k]? = W.heap[k]?
theorem KeepBut.trans {n₀ Bs : Nat} {A B C : World} (h : KeepBut n₀ Bs A B) (k : KeepBut n₀ Bs B C) : KeepBut n₀ Bs A C :=
  ⟨k.os.trans h.os, k.tape.trans h.tape, k.output.trans h.output, Nat.le_trans h.size k.size, fun i hi hne => (k.block i hi hne).trans (h.block i hi hne)⟩
theorem KeepBut.refl (n₀ Bs : Nat) (W : World) : KeepBut n₀ Bs W W := ⟨rfl, rfl, rfl, Nat.le_refl _, fun _ _ _ => rfl⟩
theorem KeepBut.of_below {n₀ Bs : Nat} {W W' : World} (h : Below n₀ W W') : KeepBut n₀ Bs W W' := ⟨h.os, h.tape, h.output, h.size, fun k hk _ => h.block k hk⟩
theorem KeepBut.putObj {n₀ Bs : Nat} {w : World} (hn : n₀ ≤ w.heap.size) (W : World) (l : Nat) (o o' : Obj) (hl : w.heap.size ≤ l) (h : W.heap[l]? = some o) (h1 : o.isCells = false) (h2 : o.isWalk = false) : KeepBut n₀ Bs W (W.putObj l o') :=
  KeepBut.of_below (belowK_b hn W l o o' hl h h1 h2)
theorem KeepBut.cell {n₀ Bs B o : Nat} {W W' : World} (h : KeepBut n₀ Bs W W') (hB : B < n₀) (hne : B ≠ Bs) : W'.cell? ⟨B, o, none⟩ = W.cell? ⟨B, o, none⟩ := World.cell?_of_block (h.block B hB hne)
theorem KeepBut.below {n₀ Bs e : Nat} {w W W' : World} (h : KeepBut n₀ Bs W W') (hb : Below e w W) (h1 : e ≤ Bs) (h2 : e ≤ n₀) : Below e w W' :=
  ⟨h.os.trans hb.os, h.tape.trans hb.tape, h.output.trans hb.output, Nat.le_trans hb.size h.size, fun k hk => (h.block k (by omega) (by omega)).trans (hb.block k hk)⟩
theorem owns_agree {w w' : World} {lo hi size n : Nat} {E : TypeId} {v : Value} {xs : List Value} (h : w.ownsRow lo E size v n xs) (h2 : ∀ g, v.ownBlock = some g → g < hi) (hb : ∀ k, lo ≤ k → k < hi → w'.heap[k]? = w.heap[k]?) : w'.ownsRow lo E size v n xs := by
  refine ⟨h.1, ?_⟩
  rcases h.2 with hn | ⟨g, cap, cur, rfl, hbg, hg, rest⟩
  · exact .inl hn
  · refine .inr ⟨g, cap, cur, rfl, hbg, ?_, rest⟩
    rw [hb g hbg (h2 g rfl)]
    exact hg
/-- one more element in a boxed row that a loop collects -/
theorem collect_step {W w1 : World} {n₀ Bs e0 size : Nat} {t e : TypeId} {v v' : Value} {k mm : Nat} {xs ys : List Value} {tmp : Obj} (hv : Boxed W Bs t v) (hte : t ≠ e) (hrow : W.ownsRow n₀ e size v k xs)
    (hown' : w1.ownsRow n₀ e size v' mm ys) (hgrow : (W.alloc tmp).grownBy w1 v.ownBlock) (h1 : e0 ≤ Bs) (h2 : Bs < n₀) (h3 : n₀ ≤ W.heap.size) :
    Boxed w1 Bs t v ∧ Boxed (w1.setCell ⟨Bs, 0, none⟩ v') Bs t v' ∧ (w1.setCell ⟨Bs, 0, none⟩ v').ownsRow n₀ e size v' mm ys ∧ KeepsOthers W (w1.setCell ⟨Bs, 0, none⟩ v') ∧ KeepBut n₀ Bs W (w1.setCell ⟨Bs, 0, none⟩ v') ∧ n₀ ≤ (w1.setCell ⟨Bs, 0, none⟩ v').heap.size := by
  obtain ⟨hv1, hv2, hr2, hk2, hb2⟩ := hv.appended (n₀ := e0) hte (own_base hrow (by omega)) (by omega) h1 (own_base hown' (by omega)) hgrow
  have hs := hgrow.size
  have hsa := World.size_alloc W tmp
  refine ⟨hv1, hv2, hown'.kept (grownBy_setCell' w1 Bs v') (.inr (fun e' => by have := (hown'.lt Bs e').1; omega)), hk2, ⟨hb2.os, hb2.tape, hb2.output, hb2.size, fun j hj hne => ?_⟩, by simp; omega⟩
  have t1 := (grownBy_setCell' w1 Bs v').block j (by omega) (fun e' => hne (by cases e'; rfl))
  have t2 := hgrow.block j (by omega) (fun e' => by have := (hrow.lt j e'.symm).1; omega)
  have t3 := (turn_alloc W tmp).block j (by omega) (by omega)
  exact t1.trans (t2.trans t3)
end G294
