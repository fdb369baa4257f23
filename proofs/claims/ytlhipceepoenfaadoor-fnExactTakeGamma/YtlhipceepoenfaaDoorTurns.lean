/- Steps of memory, one behind the other; slices of ints. -/
import Derived.Test.YtlhipceepoenfaaDoorOwn
set_option linter.unusedSimpArgs false
set_option linter.unusedVariables false
namespace G294
open Go Go.RowKit
theorem turn_trans {a b lo hi : Nat} {w w1 w2 : World} (h : TurnIn lo hi w w1) (k : TurnIn a b w1 w2) (hd : (lo ≤ a ∧ b ≤ hi) ∨ w.heap.size ≤ a ∨ b = 0) : TurnIn lo hi w w2 :=
  ⟨k.os.trans h.os, k.tape.trans h.tape, k.output.trans h.output, Nat.le_trans h.size k.size, fun i hi' hr => by
    have := h.size
    exact (k.block i (by omega) (by omega)).trans (h.block i hi' hr)⟩
theorem turn_alloc (w : World) (o : Obj) : TurnIn 0 0 w (w.alloc o) := TurnIn.of_below ((Below.refl _ _).alloc (Nat.le_refl _) o)
/-- ints as the cells of memory -/
def ints (l : List Int) : List Value := l.map fun n => .int .i64 n
@[simp] theorem ints_length (l : List Int) : (ints l).length = l.length := by simp [ints]
theorem ints_append (l m : List Int) : ints (l ++ m) = ints l ++ ints m := by simp [ints]
theorem ints_get (l : List Int) (i : Nat) (h : i < l.length) : (ints l)[i]? = some (.int .i64 l[i]) := by simp [ints, h]
/-- a row of ints of the call's own, its block from lo to hi -/
def OwnInts (E : TypeId) (w : World) (lo hi : Nat) (v : Value) (l : List Int) : Prop := w.ownsRow lo E 1 v l.length (ints l) ∧ hi ≤ w.heap.size ∧ ∀ g, v.ownBlock = some g → g < hi
section
variable {w w' : World} {lo hi a b : Nat} {v : Value} {l : List Int} {E : TypeId}
theorem OwnInts.keep (h : OwnInts E w lo hi v l) (t : TurnIn a b w w') (d : hi ≤ a ∨ b ≤ lo) : OwnInts E w' lo hi v l := by
  obtain ⟨h1, h2, h3⟩ := h
  have hs := t.size
  refine ⟨⟨h1.1, ?_⟩, by omega, h3⟩
  rcases h1.2 with hn | ⟨g, cap, cur, rfl, hbg, hg, rest⟩
  · exact .inl hn
  · refine .inr ⟨g, cap, cur, rfl, hbg, ?_, rest⟩
    have := h3 g rfl
    rw [t.block g (Array.getElem?_eq_some_iff.1 hg).1 (by omega)]
    exact hg
theorem OwnInts.seen (h : OwnInts E w lo hi v l) : Seen w v (ints l) := Seen.of_own h.1
theorem OwnInts.nil (E : TypeId) (w : World) (lo : Nat) : OwnInts E w lo w.heap.size (.slice none 0 0) [] := ⟨World.ownsRow_nil _ _ _ _, Nat.le_refl _, fun g h => by simp [Value.ownBlock] at h⟩
theorem OwnInts.of_made (h : w'.ownsRow w.heap.size E 1 v l.length (ints l)) : OwnInts E w' w.heap.size w'.heap.size v l := ⟨h, Nat.le_refl _, fun g hg => (h.lt g hg).2⟩
end
def RetInts (E : TypeId) (w : World) (l : List Int) (e : Ending) (w' : World) : Prop := ∃ v, e = .returned v ∧ OwnInts E w' w.heap.size w'.heap.size v l ∧ TurnIn 0 0 w w'
def RetIntsOk (E : TypeId) (w : World) (l : List Int) (ok : Bool) (e : Ending) (w' : World) : Prop := ∃ v, e = .returned (.tuple #[v, .bool ok]) ∧ OwnInts E w' w.heap.size w'.heap.size v l ∧ TurnIn 0 0 w w'
/-- the ints k, k + 1, .. that a mark writes -/
def marksI (k n : Nat) : List Int := (List.range n).map fun i => ((k + i : Nat) : Int)
@[simp] theorem marksI_length (k n : Nat) : (marksI k n).length = n := by simp [marksI]
theorem marksI_get (k n i : Nat) (h : i < n) : (ints (marksI k n))[i]? = some (.int .i64 ((k + i : Nat) : Int)) := by simp [ints, marksI, h]
def RetMarkI (E : TypeId) (w : World) (lo hi : Nat) (v : Value) (k n : Nat) (e : Ending) (w' : World) : Prop :=
  e = .returned (.int .i64 ((k + n : Nat) : Int)) ∧ OwnInts E w' lo hi v (marksI k n) ∧ TurnIn lo hi w w'
end G294
