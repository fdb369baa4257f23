/- Memory that a call made, by intervals of block numbers: what lies in one interval is kept by whatever touches another. -/
import Derived.Test.YtlhipceepoenfaaDoorMem
set_option linter.unusedSimpArgs false
set_option linter.unusedVariables false
namespace G294
open Go Go.RowKit

/-- of the blocks that were there only those from lo to hi may have turned -/
structure TurnIn (lo hi : Nat) (w w' : World) : Prop where
  os : w'.os = w.os
  tape : w'.tape = w.tape
  output : w'.output = w.output
  size : w.heap.size ≤ w'.heap.size
  block : ∀ k, k < w.heap.size → (k < lo ∨ hi ≤ k) → w'.heap[k]? = w.heap[k]?

section
variable {w w' w'' : World} {lo hi a b B : Nat} {v : Value} {l : List UInt8} {E : TypeId}
theorem TurnIn.of_below (h : Below w.heap.size w w') : TurnIn 0 0 w w' := ⟨h.os, h.tape, h.output, h.size, fun k hk _ => h.block k hk⟩
theorem TurnIn.of_grown {row : Option Nat} (h : w.grownBy w' row) (hr : ∀ g, row = some g → lo ≤ g ∧ g < hi) : TurnIn lo hi w w' :=
  ⟨h.os, h.tape, h.output, h.size, fun k hk hd => h.block k hk (fun e => by have := hr k e.symm; omega)⟩
theorem TurnIn.refl (w : World) : TurnIn 0 0 w w := ⟨rfl, rfl, rfl, Nat.le_refl _, fun _ _ _ => rfl⟩
theorem TurnIn.to_below (h : TurnIn 0 0 w w') : Below w.heap.size w w' := ⟨h.os, h.tape, h.output, h.size, fun k hk => h.block k hk (by omega)⟩
/-- what was there at the beginning is kept -/
theorem TurnIn.base {W : World} (t : TurnIn a b w w') (h : Below B W w) (hs : B ≤ w.heap.size) (hB : B ≤ a ∨ b = 0) : Below B W w' :=
  ⟨t.os.trans h.os, t.tape.trans h.tape, t.output.trans h.output, Nat.le_trans h.size t.size, fun k hk => (t.block k (by omega) (by omega)).trans (h.block k hk)⟩

/-- a row of bytes of the call's own, its block from lo to hi -/
def OwnBytes (E : TypeId) (w : World) (lo hi : Nat) (v : Value) (l : List UInt8) : Prop := w.ownsRow lo E 1 v l.length (bys l) ∧ hi ≤ w.heap.size ∧ ∀ g, v.ownBlock = some g → g < hi
theorem OwnBytes.keep (h : OwnBytes E w lo hi v l) (t : TurnIn a b w w') (d : hi ≤ a ∨ b ≤ lo) : OwnBytes E w' lo hi v l := by
  obtain ⟨h1, h2, h3⟩ := h
  have hs := t.size
  refine ⟨⟨h1.1, ?_⟩, by omega, h3⟩
  rcases h1.2 with hn | ⟨g, cap, cur, rfl, hbg, hg, rest⟩
  · exact .inl hn
  · refine .inr ⟨g, cap, cur, rfl, hbg, ?_, rest⟩
    have := h3 g rfl
    rw [t.block g (Array.getElem?_eq_some_iff.1 hg).1 (by omega)]
    exact hg
theorem OwnBytes.seen (h : OwnBytes E w lo hi v l) : Seen w v (bys l) := Seen.of_own h.1
theorem OwnBytes.nil (E : TypeId) (w : World) (lo : Nat) : OwnBytes E w lo w.heap.size (.slice none 0 0) [] := ⟨World.ownsRow_nil _ _ _ _, Nat.le_refl _, fun g h => by simp [Value.ownBlock] at h⟩
theorem OwnBytes.of_made (h : w'.ownsRow w.heap.size E 1 v l.length (bys l)) : OwnBytes E w' w.heap.size w'.heap.size v l := ⟨h, Nat.le_refl _, fun g hg => (h.lt g hg).2⟩
theorem Seen.touch {xs : List Value} (h : Seen w v xs) (t : TurnIn 0 0 w w') : Seen w' v xs := h.below t.to_below
end

/-- one new row of bytes is returned -/
def RetBytes (E : TypeId) (w : World) (l : List UInt8) (e : Ending) (w' : World) : Prop := ∃ v, e = .returned v ∧ OwnBytes E w' w.heap.size w'.heap.size v l ∧ TurnIn 0 0 w w'
def RetBytesOk (E : TypeId) (w : World) (l : List UInt8) (ok : Bool) (e : Ending) (w' : World) : Prop := ∃ v, e = .returned (.tuple #[v, .bool ok]) ∧ OwnBytes E w' w.heap.size w'.heap.size v l ∧ TurnIn 0 0 w w'
def RetBool (w : World) (b : Bool) (e : Ending) (w' : World) : Prop := e = .returned (.bool b) ∧ TurnIn 0 0 w w'
def RetInt (w : World) (n : Int) (e : Ending) (w' : World) : Prop := e = .returned (.int .i64 n) ∧ TurnIn 0 0 w w'
/-- a mark: the number after it, and the marked bytes; only blocks from lo to hi are touched -/
def RetMarkB (E : TypeId) (w : World) (lo hi : Nat) (v : Value) (k n : Nat) (e : Ending) (w' : World) : Prop :=
  e = .returned (.int .i64 ((k + n : Nat) : Int)) ∧ OwnBytes E w' lo hi v (marks k n) ∧ TurnIn lo hi w w'
def RetByte (w : World) (x : UInt8) (e : Ending) (w' : World) : Prop := e = .returned (.int .u8 (x.toNat : Int)) ∧ TurnIn 0 0 w w'
def RetByteOk (w : World) (x : UInt8) (ok : Bool) (e : Ending) (w' : World) : Prop := e = .returned (.tuple #[.int .u8 (x.toNat : Int), .bool ok]) ∧ TurnIn 0 0 w w'
end G294
