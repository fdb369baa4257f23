/- A matrix of the call's own whose rows' slice lies in a box: it stands, it grows by a row, it grows by a matrix. -/
import Derived.Test.YtlkoafnlklhaeaaDoorCodeM
set_option linter.unusedSimpArgs false
set_option linter.unusedVariables false
namespace G294
open Go Go.RowKit
structure MatBox (E EE : TypeId) (lo B : Nat) (L : Mat) (v : Value) (vs : List Value) (w : World) : Prop where
  own : OwnM E EE w lo w.heap.size v L vs
  cell : w.cell? ⟨B, 0, none⟩ = some v
  fro : w.frozen? ⟨B, 0, none⟩ = false
  lt : B < w.heap.size
  ne : v.ownBlock ≠ some B
  rne : ∀ u ∈ vs, u.ownBlock ≠ some B
section
variable {E EE : TypeId} {lo B a b : Nat} {L M : Mat} {v v' u : Value} {vs us : List Value} {w W w1 : World} {r : List UInt8}
theorem MatBox.turn (h : MatBox E EE lo B L v vs w) (k : TurnIn 0 0 w W) : MatBox E EE lo B L v vs W :=
  ⟨(h.own.keep k (by omega)).wider (Nat.le_refl _) k.size (Nat.le_refl _), cell_turn k h.cell h.lt, frozen_turn k h.fro h.lt, Nat.lt_of_lt_of_le h.lt k.size, h.ne, h.rne⟩
/-- it is put into a new box -/
theorem MatBox.new (h : OwnM E EE w lo w.heap.size v L vs) (t : TypeId) : MatBox E EE lo w.heap.size L v vs (w.alloc (.cells #[v] t)) :=
  have a1 := turn_alloc w (.cells #[v] t)
  have hs : (w.alloc (.cells #[v] t)).heap.size = w.heap.size + 1 := World.size_alloc _ _
  ⟨(h.keep a1 (by omega)).wider (Nat.le_refl _) (by omega) (Nat.le_refl _), alloc_cell w v t, by simp, by omega, fun e => by have := h.out _ e; omega, fun x hx e => by have := (h.rowBlock x hx _ e).2; omega⟩
theorem MatBox.push (h : MatBox E EE lo B L v vs w) (k : TurnIn 0 0 w W) (hu : OwnBytes E W a b u r) (h1 : w.heap.size ≤ a) (hlo : lo ≤ w.heap.size)
    (ho : w1.ownsRow lo EE 1 v' (L.length + 1) (vs ++ [u])) (hg : W.grownBy w1 v.ownBlock) (hv : v'.ownBlock = v.ownBlock ∨ v'.ownBlock = some W.heap.size) :
    MatBox E EE lo B (L ++ [r]) v' (vs ++ [u]) (w1.setCell ⟨B, 0, none⟩ v') := by
  have hM := h.own.push k hu h1 (by omega) ho hg hv
  have hlt := h.lt
  have hsk := k.size
  have hsg := hg.size
  have hvB : v'.ownBlock ≠ some B := by
    rcases hv with e | e
    · rw [e]; exact h.ne
    · rw [e]; simp; omega
  have hrB : ∀ x ∈ vs ++ [u], x.ownBlock ≠ some B := by
    intro x hx e
    rcases List.mem_append.1 hx with h2 | h2
    · exact h.rne x h2 e
    · rw [List.mem_singleton] at h2
      subst h2
      have := (hu.1.lt B e).1
      omega
  have e1 : w1.cell? ⟨B, 0, none⟩ = some v := (cell_past k hg h.ne hlt 0).trans h.cell
  have e2 : w1.frozen? ⟨B, 0, none⟩ = false := (frozen_past k hg h.ne hlt 0).trans h.fro
  exact ⟨(hM.other (grown_set B 0 v') hvB hrB).wider (Nat.le_refl _) (by simp) (Nat.le_refl _), World.cell?_setCell_same _ _ _ e1, by simp [e2], by simp; omega, hvB, hrB⟩
theorem MatBox.join (h : MatBox E EE lo B L v vs w) (k : TurnIn 0 0 w W) (hu : OwnM E EE W a b u M us) (h1 : w.heap.size ≤ a) (hlo : lo ≤ w.heap.size)
    (ho : w1.ownsRow lo EE 1 v' (L.length + M.length) (vs ++ us)) (hg : W.grownBy w1 v.ownBlock) (hv : v'.ownBlock = v.ownBlock ∨ v'.ownBlock = some W.heap.size) :
    MatBox E EE lo B (L ++ M) v' (vs ++ us) (w1.setCell ⟨B, 0, none⟩ v') := by
  have hM := (h.own.keep k (by omega)).join hu h1 (by omega) ho hg hv
  have hlt := h.lt
  have hsk := k.size
  have hsg := hg.size
  have hvB : v'.ownBlock ≠ some B := by
    rcases hv with e | e
    · rw [e]; exact h.ne
    · rw [e]; simp; omega
  have hrB : ∀ x ∈ vs ++ us, x.ownBlock ≠ some B := by
    intro x hx e
    rcases List.mem_append.1 hx with h2 | h2
    · exact h.rne x h2 e
    · have := (hu.rowBlock x h2 B e).1
      omega
  have e1 : w1.cell? ⟨B, 0, none⟩ = some v := (cell_past k hg h.ne hlt 0).trans h.cell
  have e2 : w1.frozen? ⟨B, 0, none⟩ = false := (frozen_past k hg h.ne hlt 0).trans h.fro
  exact ⟨(hM.other (grown_set B 0 v') hvB hrB).wider (Nat.le_refl _) (by simp) (Nat.le_refl _), World.cell?_setCell_same _ _ _ e1, by simp [e2], by simp; omega, hvB, hrB⟩
end
end G294
