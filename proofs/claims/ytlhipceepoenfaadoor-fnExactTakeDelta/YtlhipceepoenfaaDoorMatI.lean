/- The program's Identity, Transposed, Vandermonde and Cauchy. -/
import Derived.Test.YtlhipceepoenfaaDoorConv
import Derived.Test.YtlhipceepoenfaaDoorTurned
import Derived.Test.YtlhipceepoenfaaDoorGood
import Derived.Test.YtlhipceepoenfaaDoorFieldWalksB
set_option linter.unusedSimpArgs false
set_option linter.unusedVariables false
namespace G294
open Go Go.RowKit
theorem turn_setCell (w : World) (B o : Nat) (x : Value) : TurnIn B (B + 1) w (w.setCell ⟨B, o, none⟩ x) :=
  ⟨rfl, rfl, rfl, by simp, fun k hk hd => heap_setCell_other w ⟨B, o, none⟩ k x (by intro e; simp at e; omega)⟩
theorem cell_set_other (w : World) {B B' : Nat} (o o' : Nat) (x : Value) (h : B ≠ B') : (w.setCell ⟨B, o, none⟩ x).cell? ⟨B', o', none⟩ = w.cell? ⟨B', o', none⟩ :=
  World.cell?_of_block (heap_setCell_other w ⟨B, o, none⟩ B' x (by intro e; simp at e; omega))
theorem frozen_set_other (w : World) {B B' : Nat} (o o' : Nat) (x : Value) (h : B ≠ B') : (w.setCell ⟨B, o, none⟩ x).frozen? ⟨B', o', none⟩ = w.frozen? ⟨B', o', none⟩ :=
  World.frozen?_of_block (heap_setCell_other w ⟨B, o, none⟩ B' x (by intro e; simp at e; omega))
/-- a result is stored into a variable that the call made ahead of it -/
theorem ret_store {E EE : TypeId} {w w1 w' : World} {v : Value} {L : Mat} {vs : List Value} (hb : Below w.heap.size w w1) (hM : OwnM E EE w' w1.heap.size w'.heap.size v L vs) (ht : TurnIn 0 0 w1 w') (B o : Nat) (h1 : w.heap.size ≤ B) (h2 : B < w1.heap.size) (x : Value) :
    OwnM E EE (w'.setCell ⟨B, o, none⟩ x) w.heap.size (w'.setCell ⟨B, o, none⟩ x).heap.size v L vs ∧ TurnIn 0 0 w (w'.setCell ⟨B, o, none⟩ x) := by
  have k := turn_setCell w' B o x
  have hs := k.size
  refine ⟨(hM.keep k (by omega)).wider (by have := hb.size; omega) hs (Nat.le_refl _), TurnIn.of_below ?_⟩
  have h3 : Below w.heap.size w w' := ht.base hb hb.size (by omega)
  exact h3.setCell h1 _
theorem cell_turn {w w' : World} (t : TurnIn 0 0 w w') {B o : Nat} {x : Value} (h : w.cell? ⟨B, o, none⟩ = some x) (hB : B < w.heap.size) : w'.cell? ⟨B, o, none⟩ = some x := (t.to_below.cell (p := ⟨B, o, none⟩) hB).trans h
theorem frozen_turn {w w' : World} (t : TurnIn 0 0 w w') {B o : Nat} {x : Bool} (h : w.frozen? ⟨B, o, none⟩ = x) (hB : B < w.heap.size) : w'.frozen? ⟨B, o, none⟩ = x := (t.to_below.frozen (p := ⟨B, o, none⟩) hB).trans h
end G294
namespace Go.Proofs.YtlhipceepoenfaaDoor
open Go.RowKit G294

theorem vand_u8 (i j : Nat) (hi : i < 256) : ((vandF i j).toNat : Int) = (gp i j : Nat) := by
  unfold vandF; rw [UInt8.toNat_ofNat', Nat.mod_eq_of_lt (gp_lt hi j)]

theorem cau_u8 (c i j : Nat) (h1 : c + i < 256) (h2 : j < 256) : ((cauF c i j).toNat : Int) = (gi ((c + i) ^^^ j) : Nat) := by
  unfold cauF; rw [UInt8.toNat_ofNat', Nat.mod_eq_of_lt (gi_lt (xor_lt h1 h2))]