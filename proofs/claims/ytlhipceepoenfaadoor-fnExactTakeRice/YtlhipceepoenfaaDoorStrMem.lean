/- Texts in memory: a slice of strings that is seen, or of the call's own; the texts that a mark writes. -/
import Derived.Test.YtlhipceepoenfaaDoorSameBytes
import Derived.Test.YtlhipceepoenfaaDoorTurns
set_option linter.unusedSimpArgs false
set_option linter.unusedVariables false
namespace G294
open Go Go.RowKit
theorem str_size (l : List UInt8) : (str l).size = l.length := by
  show l.toArray.size = _
  simp
theorem str_eq (s : ByteArray) : s = str s.data.toList := by cases s; rfl
theorem str_inj {a b : List UInt8} (h : str a = str b) : a = b := by
  have := congrArg ByteArray.toList h
  rwa [str_toList, str_toList] at this
theorem str_append (a b : List UInt8) : str a ++ str b = str (a ++ b) := by
  unfold str
  rw [ByteArray.mk_append_mk]
theorem str_nil : str [] = ⟨#[]⟩ := rfl
theorem str_same (s : List UInt8) : ((str s).toList == (str s).toList) = true := by simp
/-- texts as the cells of memory -/
def strs (l : List (List UInt8)) : List Value := l.map fun s => .string (str s)
@[simp] theorem strs_length (l : List (List UInt8)) : (strs l).length = l.length := by simp [strs]
theorem strs_append (l m : List (List UInt8)) : strs (l ++ m) = strs l ++ strs m := by simp [strs]
theorem strs_get (l : List (List UInt8)) (i : Nat) (h : i < l.length) : (strs l)[i]? = some (.string (str l[i])) := by simp [strs, h]
theorem strs_oneC (l : List (List UInt8)) : ∀ y, y ∈ strs l → y.oneCell' = true := by
  intro y hy
  simp only [strs, List.mem_map] at hy
  obtain ⟨x, _, rfl⟩ := hy
  rfl
/-- a row of texts of the call's own, its block from lo to hi -/
def OwnStrs (E : TypeId) (w : World) (lo hi : Nat) (v : Value) (l : List (List UInt8)) : Prop := w.ownsRow lo E 1 v l.length (strs l) ∧ hi ≤ w.heap.size ∧ ∀ g, v.ownBlock = some g → g < hi
section
variable {w w' : World} {lo hi a b : Nat} {v : Value} {l : List (List UInt8)} {E : TypeId}
theorem OwnStrs.keep (h : OwnStrs E w lo hi v l) (t : TurnIn a b w w') (d : hi ≤ a ∨ b ≤ lo) : OwnStrs E w' lo hi v l := by
  obtain ⟨h1, h2, h3⟩ := h
  have hs := t.size
  refine ⟨⟨h1.1, ?_⟩, by omega, h3⟩
  rcases h1.2 with hn | ⟨g, cap, cur, rfl, hbg, hg, rest⟩
  · exact .inl hn
  · refine .inr ⟨g, cap, cur, rfl, hbg, ?_, rest⟩
    have := h3 g rfl
    rw [t.block g (Array.getElem?_eq_some_iff.1 hg).1 (by omega)]
    exact hg
theorem OwnStrs.seen (h : OwnStrs E w lo hi v l) : Seen w v (strs l) := Seen.of_own h.1
theorem OwnStrs.nil (E : TypeId) (w : World) (lo : Nat) : OwnStrs E w lo w.heap.size (.slice none 0 0) [] := ⟨World.ownsRow_nil _ _ _ _, Nat.le_refl _, fun g h => by simp [Value.ownBlock] at h⟩
theorem OwnStrs.of_made (h : w'.ownsRow w.heap.size E 1 v l.length (strs l)) : OwnStrs E w' w.heap.size w'.heap.size v l := ⟨h, Nat.le_refl _, fun g hg => (h.lt g hg).2⟩
theorem OwnStrs.isSlice (h : OwnStrs E w lo hi v l) : ∃ A n c, v = .slice A n c := by
  rcases h.1.2 with ⟨hh, _⟩ | ⟨g, cap, cur, hh, _⟩ <;> exact ⟨_, _, _, hh⟩
theorem owns_turn0 {size n : Nat} {xs : List Value} {base : Nat} {e : TypeId} (h : w.ownsRow base e size v n xs) (t : TurnIn 0 0 w w') : w'.ownsRow base e size v n xs := own_below h t.to_below
end
def RetStrs (E : TypeId) (w : World) (l : List (List UInt8)) (e : Ending) (w' : World) : Prop := ∃ v, e = .returned v ∧ OwnStrs E w' w.heap.size w'.heap.size v l ∧ TurnIn 0 0 w w'
def RetStrsOk (E : TypeId) (w : World) (l : List (List UInt8)) (ok : Bool) (e : Ending) (w' : World) : Prop := ∃ v, e = .returned (.tuple #[v, .bool ok]) ∧ OwnStrs E w' w.heap.size w'.heap.size v l ∧ TurnIn 0 0 w w'
def RetStr (w : World) (s : List UInt8) (e : Ending) (w' : World) : Prop := e = .returned (.string (str s)) ∧ TurnIn 0 0 w w'
def RetStrOk (w : World) (s : List UInt8) (ok : Bool) (e : Ending) (w' : World) : Prop := e = .returned (.tuple #[.string (str s), .bool ok]) ∧ TurnIn 0 0 w w'
/-- what is left of a bound -/
def szV (left n : Nat) : Int := if n ≤ left then (left : Int) - n else -1
theorem szV_yes {left n : Nat} (h : n ≤ left) : szV left n = ((left - n : Nat) : Int) := by unfold szV; rw [if_pos h]; omega
theorem szV_no {left n : Nat} (h : left < n) : szV left n = -1 := by unfold szV; rw [if_neg (by omega)]
/-- the decimal digits of k, ahead of acc -/
def mdig (k : Nat) (acc : List UInt8) : List UInt8 := if h : k = 0 then acc else mdig (k / 10) (UInt8.ofNat (48 + k % 10) :: acc)
termination_by k
decreasing_by omega
def mtext (k : Nat) : List UInt8 := 109 :: mdig k []
theorem mdig_zero (acc : List UInt8) : mdig 0 acc = acc := by unfold mdig; simp
theorem mdig_pos {k : Nat} (h : 0 < k) (acc : List UInt8) : mdig k acc = mdig (k / 10) (UInt8.ofNat (48 + k % 10) :: acc) := by
  rw [mdig, dif_neg (by omega)]
/-- the texts of the marks k, k + 1, .. -/
def marksS (k n : Nat) : List (List UInt8) := (List.range n).map fun i => mtext (k + i)
@[simp] theorem marksS_length (k n : Nat) : (marksS k n).length = n := by simp [marksS]
theorem marksS_get (k n i : Nat) (h : i < n) : (strs (marksS k n))[i]? = some (.string (str (mtext (k + i)))) := by simp [strs, marksS, h]
def RetMarkS (E : TypeId) (w : World) (lo hi : Nat) (v : Value) (k n : Nat) (e : Ending) (w' : World) : Prop :=
  e = .returned (.int .i64 ((k + n : Nat) : Int)) ∧ OwnStrs E w' lo hi v (marksS k n) ∧ TurnIn lo hi w w'
end G294
