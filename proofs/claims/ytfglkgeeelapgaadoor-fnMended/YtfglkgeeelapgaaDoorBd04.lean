/- Joined texts: MatI, Boxes, FieldBytes, Keeps. -/
import Derived.Test.YtfglkgeeelapgaaDoorBd03
import Derived.Test.YtfglkgeeelapgaaDoorBd02
import Derived.Test.YtfglkgeeelapgaaDoorBd00
import Derived.RangeFuncNested
import Derived.RangeFuncBound
import Derived.RangeFuncCalls
import Derived.RangeFuncLeaves
import Derived.Shelf.Abstract
import Derived.Shelf.RegionOpen
import Derived.WalkKit
import Derived.OwnWalkIn
import Derived.TacticsInMore
import Derived.LoopNIn
import Derived.LoopIn
set_option linter.unusedSimpArgs false
set_option linter.unusedVariables false
/- The program's Identity, Transposed, Vandermonde and Cauchy. -/
namespace G294
open Go Go.RowKit
theorem turn_setCell (w : World) (B o : Nat) (x : Value) : TurnIn B (B + 1) w (w.setCell ⟨B, o, none⟩ x) :=
  ⟨rfl, rfl, rfl, by simp, fun k hk hd => heap_setCell_other w ⟨B, o, none⟩ k x (by intro e; simp at e; omega)⟩
theorem cell_set_other (w : World) {B B' : Nat} (o o' : Nat) (x : Value) (h : B ≠ B') : (w.setCell ⟨B, o, none⟩ x).cell? ⟨B', o', none⟩ = w.cell? ⟨B', o', none⟩ :=
  World.cell?_of_block (heap_setCell_other w ⟨B, o, none⟩ B' x (by intro e; simp at e; omega))
theorem frozen_set_other (w : World) {B B' : Nat} (o o' : Nat) (x : Value) (h : B ≠ B') : (w.setCell ⟨B, o, none⟩ x).frozen? ⟨B', o', none⟩ = w.frozen? ⟨B', o', none⟩ :=
  World.frozen?_of_block (heap_setCell_other w ⟨B, o, none⟩ B' x (by intro e; simp at e; omega))
/-- a result is stored into a variable that the call made ahead of it -/
theorem ret_store {E EE : TypeId} {w w1 w' : World} {v : Value} {L : Mat} {vs : List Value} (hb : Below w.heap.size w w1) (hM : OwnM E EE w' w1.heap.size w'.heap.size v L vs) (ht : TurnIn 0 0 w1 w') (B o : Nat) (h1 : w.heap.size ≤ B) (h2 : B < w1.heap.size) (x : Value) :
    OwnM E EE (w'.setCell ⟨B, o, none⟩ x) w.heap.size (w'.setCell ⟨B, o, none⟩ x).heap.size v L vs ∧ TurnIn 0 0 w (w'.setCell ⟨B, o, none⟩ x) := by
  have k := turn_setCell w' B o x
  have hs := k.size
  refine ⟨(hM.keep k (by omega)).wider (by have := hb.size; omega) hs (Nat.le_refl _), TurnIn.of_below ?_⟩
  have h3 : Below w.heap.size w w' := ht.base hb hb.size (by omega)
  exact h3.setCell h1 _
theorem cell_turn {w w' : World} (t : TurnIn 0 0 w w') {B o : Nat} {x : Value} (h : w.cell? ⟨B, o, none⟩ = some x) (hB : B < w.heap.size) : w'.cell? ⟨B, o, none⟩ = some x := (t.to_below.cell (p := ⟨B, o, none⟩) hB).trans h
theorem frozen_turn {w w' : World} (t : TurnIn 0 0 w w') {B o : Nat} {x : Bool} (h : w.frozen? ⟨B, o, none⟩ = x) (hB : B < w.heap.size) : w'.frozen? ⟨B, o, none⟩ = x := (t.to_below.frozen (p := ⟨B, o, none⟩) hB).trans h
end G294
namespace Go.Proofs.YtfglkgeeelapgaaDoor
open Go.RowKit G294

theorem vand_u8 (i j : Nat) (hi : i < 256) : ((vandF i j).toNat : Int) = (gp i j : Nat) := by
  unfold vandF; rw [UInt8.toNat_ofNat', Nat.mod_eq_of_lt (gp_lt hi j)]

theorem cau_u8 (c i j : Nat) (h1 : c + i < 256) (h2 : j < 256) : ((cauF c i j).toNat : Int) = (gi ((c + i) ^^^ j) : Nat) := by
  unfold cauF; rw [UInt8.toNat_ofNat', Nat.mod_eq_of_lt (gi_lt (xor_lt h1 h2))]
end Go.Proofs.YtfglkgeeelapgaaDoor

/- Struct variables of a law: blocks of one cell, kept; sizes of results. -/
namespace G294
open Go Go.RowKit
theorem box_keep {w w' : World} {B a b : Nat} {x : Value} (h : w.cell? ⟨B, 0, none⟩ = some x) (hl : B < w.heap.size) (t : TurnIn a b w w') (d : B < a ∨ b ≤ B) : w'.cell? ⟨B, 0, none⟩ = some x :=
  (World.cell?_of_block (t.block B hl d)).trans h
theorem alloc_cell (w : World) (v : Value) (T : TypeId) : (w.alloc (.cells #[v] T)).cell? ⟨w.heap.size, 0, none⟩ = some v := by simp
theorem alloc_lt (w : World) (o : Obj) : w.heap.size < (w.alloc o).heap.size := by rw [World.size_alloc]; omega
theorem undrew {w w' : World} {a b : Nat} (t : TurnIn a b w.drew w') : TurnIn a b w w' := ⟨t.os, t.tape, t.output, t.size, t.block⟩
theorem transR_siz (m : Mat) : sizM (transR m) ≤ 256 := by
  unfold transR; split
  · rename_i h; have := (goodM_iff m).1 h; exact Nat.le_trans (Nat.le_trans (sizM_le_mul _ m.length (fun i hi => by rw [mkM_getD _ _ _ _ (by simpa using hi)]; simp)) (by rw [mkM_length]; exact Nat.mul_le_mul (show wid m ≤ 16 by omega) (show m.length ≤ 16 by omega))) (by omega)
  · simp [sizM]
theorem sizM_mkM (r c : Nat) (F : Ents) : sizM (mkM r c F) ≤ r * c := by
  have := sizM_le_mul (mkM r c F) c (fun i hi => by rw [mkM_getD _ _ _ _ (by simpa using hi)]; simp)
  simpa using this
theorem sizM_side {r c : Nat} (F : Ents) (hr : r ≤ 16) (hc : c ≤ 16) : sizM (mkM r c F) ≤ 256 := Nat.le_trans (sizM_mkM r c F) (Nat.mul_le_mul hr hc)
theorem idR_siz (n : Int) : sizM (idR n) ≤ 256 := by
  unfold idR; split
  · rename_i h; simp [goodI] at h; exact sizM_side _ (by omega) (by omega)
  · simp [sizM]
theorem sides_b {r c : Int} (h : sidesOk r c = true) : r.toNat ≤ 16 ∧ c.toNat ≤ 16 := by
  simp [sidesOk, goodI] at h; omega
theorem vandR_siz (r c : Int) : sizM (vandR r c) ≤ 256 := by
  unfold vandR; split
  · rename_i h; exact sizM_side _ (sides_b h).1 (sides_b h).2
  · simp [sizM]
theorem cauR_siz (r c : Int) : sizM (cauR r c) ≤ 256 := by
  unfold cauR; split
  · rename_i h; exact sizM_side _ (sides_b h).1 (sides_b h).2
  · simp [sizM]
theorem LieM.isSlice {w : World} {lo hi : Nat} {v : Value} {L : Mat} (h : LieM w lo hi v L) : ∃ A n c, v = .slice A n c := by
  obtain ⟨A, c, e, _⟩ := h.seen.len
  exact ⟨A, _, c, e⟩
end G294

/- The contracts of the products, on bytes. -/
namespace Go.Proofs.YtfglkgeeelapgaaDoor
open Go.RowKit G294

theorem times_u8 (a b : UInt8) (w : World) (ht : Tab w) :
    Calls Tryd.prog 121 #[.int .u8 (a.toNat : Int), .int .u8 (b.toNat : Int)] w fun e w' => e = .returned (.int .u8 ((gmul a b).toNat : Int)) ∧ w = w' := by
  rw [gmul_toNat]; exact times_any _ _ a.toNat_lt b.toNat_lt w ht

theorem l1Times_u8 (a b : UInt8) (w : World) :
    Calls Tryd.prog 105 #[.int .u8 (a.toNat : Int), .int .u8 (b.toNat : Int)] w fun e w' => e = .returned (.int .u8 ((gmul a b).toNat : Int)) ∧ w = w' := by
  rw [gmul_toNat]; exact l1Times_any _ _ a.toNat_lt b.toNat_lt w

end Go.Proofs.YtfglkgeeelapgaaDoor

/- What a round of a range over a function keeps. -/
namespace G294
open Go Go.RowKit
/-- what lies below n₀, but for one block, is as it was -/
structure KeepBut (n₀ Bs : Nat) (W W' : World) : Prop where
  os : W'.os = W.os
  tape : W'.tape = W.tape
  output : W'.output = W.output
  size : W.heap.size ≤ W'.heap.size
  block : ∀ k, k < n₀ → k ≠ Bs → W'.heap[k]? = W.heap[k]?
theorem KeepBut.trans {n₀ Bs : Nat} {A B C : World} (h : KeepBut n₀ Bs A B) (k : KeepBut n₀ Bs B C) : KeepBut n₀ Bs A C :=
  ⟨k.os.trans h.os, k.tape.trans h.tape, k.output.trans h.output, Nat.le_trans h.size k.size, fun i hi hne => (k.block i hi hne).trans (h.block i hi hne)⟩
theorem KeepBut.refl (n₀ Bs : Nat) (W : World) : KeepBut n₀ Bs W W := ⟨rfl, rfl, rfl, Nat.le_refl _, fun _ _ _ => rfl⟩
theorem KeepBut.of_below {n₀ Bs : Nat} {W W' : World} (h : Below n₀ W W') : KeepBut n₀ Bs W W' := ⟨h.os, h.tape, h.output, h.size, fun k hk _ => h.block k hk⟩
theorem KeepBut.putObj {n₀ Bs : Nat} {w : World} (hn : n₀ ≤ w.heap.size) (W : World) (l : Nat) (o o' : Obj) (hl : w.heap.size ≤ l) (h : W.heap[l]? = some o) (h1 : o.isCells = false) (h2 : o.isWalk = false) : KeepBut n₀ Bs W (W.putObj l o') :=
  KeepBut.of_below (belowK_b hn W l o o' hl h h1 h2)
theorem KeepBut.cell {n₀ Bs B o : Nat} {W W' : World} (h : KeepBut n₀ Bs W W') (hB : B < n₀) (hne : B ≠ Bs) : W'.cell? ⟨B, o, none⟩ = W.cell? ⟨B, o, none⟩ := World.cell?_of_block (h.block B hB hne)
theorem KeepBut.below {n₀ Bs e : Nat} {w W W' : World} (h : KeepBut n₀ Bs W W') (hb : Below e w W) (h1 : e ≤ Bs) (h2 : e ≤ n₀) : Below e w W' :=
  ⟨h.os.trans hb.os, h.tape.trans hb.tape, h.output.trans hb.output, Nat.le_trans hb.size h.size, fun k hk => (h.block k (by omega) (by omega)).trans (hb.block k hk)⟩
theorem owns_agree {w w' : World} {lo hi size n : Nat} {E : TypeId} {v : Value} {xs : List Value} (h : w.ownsRow lo E size v n xs) (h2 : ∀ g, v.ownBlock = some g → g < hi) (hb : ∀ k, lo ≤ k → k < hi → w'.heap[k]? = w.heap[k]?) : w'.ownsRow lo E size v n xs := by
  refine ⟨h.1, ?_⟩
  rcases h.2 with hn | ⟨g, cap, cur, rfl, hbg, hg, rest⟩
  · exact .inl hn
  · refine .inr ⟨g, cap, cur, rfl, hbg, ?_, rest⟩
    rw [hb g hbg (h2 g rfl)]
    exact hg
/-- one more element in a boxed row that a loop collects -/
theorem collect_step {W w1 : World} {n₀ Bs e0 size : Nat} {t e : TypeId} {v v' : Value} {k mm : Nat} {xs ys : List Value} {tmp : Obj} (hv : Boxed W Bs t v) (hte : t ≠ e) (hrow : W.ownsRow n₀ e size v k xs)
    (hown' : w1.ownsRow n₀ e size v' mm ys) (hgrow : (W.alloc tmp).grownBy w1 v.ownBlock) (h1 : e0 ≤ Bs) (h2 : Bs < n₀) (h3 : n₀ ≤ W.heap.size) :
    Boxed w1 Bs t v ∧ Boxed (w1.setCell ⟨Bs, 0, none⟩ v') Bs t v' ∧ (w1.setCell ⟨Bs, 0, none⟩ v').ownsRow n₀ e size v' mm ys ∧ KeepsOthers W (w1.setCell ⟨Bs, 0, none⟩ v') ∧ KeepBut n₀ Bs W (w1.setCell ⟨Bs, 0, none⟩ v') ∧ n₀ ≤ (w1.setCell ⟨Bs, 0, none⟩ v').heap.size := by
  obtain ⟨hv1, hv2, hr2, hk2, hb2⟩ := hv.appended (n₀ := e0) hte (own_base hrow (by omega)) (by omega) h1 (own_base hown' (by omega)) hgrow
  have hs := hgrow.size
  have hsa := World.size_alloc W tmp
  refine ⟨hv1, hv2, hown'.kept (grownBy_setCell' w1 Bs v') (.inr (fun e' => by have := (hown'.lt Bs e').1; omega)), hk2, ⟨hb2.os, hb2.tape, hb2.output, hb2.size, fun j hj hne => ?_⟩, by simp; omega⟩
  have t1 := (grownBy_setCell' w1 Bs v').block j (by omega) (fun e' => hne (by cases e'; rfl))
  have t2 := hgrow.block j (by omega) (fun e' => by have := (hrow.lt j e'.symm).1; omega)
  have t3 := (turn_alloc W tmp).block j (by omega) (by omega)
  exact t1.trans (t2.trans t3)
end G294
