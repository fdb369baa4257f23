/- Runs in memory: a slice of structs of a byte and an int that is seen, or of the call's own; what a mark writes. -/
import Derived.Test.YtdbgkpmdimapdaaMatMem
import Derived.Test.YtdbgkpmdimapdaaStrMem
set_option linter.unusedSimpArgs false
set_option linter.unusedVariables false
namespace G294
open Go Go.RowKit
theorem at_ltRu {α : Type} {l : List α} {n k : Nat} (hn : l.length = n) (h : k < n) : ∃ s, l[k]? = some s := ⟨_, List.getElem?_eq_getElem (by omega)⟩
abbrev Ru := UInt8 × Int
/-- runs as the cells of memory -/
def rus : List Ru → List Value
  | [] => []
  | s :: l => .int .u8 (s.1.toNat : Int) :: .int .i64 s.2 :: rus l
@[simp] theorem rus_length (l : List Ru) : (rus l).length = l.length * 2 := by
  induction l with
  | nil => rfl
  | cons s l ih => simp [rus, ih]; omega
theorem rus_append (l m : List Ru) : rus (l ++ m) = rus l ++ rus m := by
  induction l with
  | nil => rfl
  | cons s l ih => simp [rus, ih]
theorem rus_no (l : List Ru) (i : Nat) (h : i < l.length) : (rus l)[i * 2]? = some (.int .u8 (l[i].1.toNat : Int)) := by
  induction l generalizing i with
  | nil => simp at h
  | cons s l ih =>
    cases i with
    | zero => rfl
    | succ i => rw [show (i + 1) * 2 = i * 2 + 1 + 1 by omega]; simpa [rus] using ih i (by simpa using h)
theorem rus_data (l : List Ru) (i : Nat) (h : i < l.length) : (rus l)[i * 2 + 1]? = some (.int .i64 l[i].2) := by
  induction l generalizing i with
  | nil => simp at h
  | cons s l ih =>
    cases i with
    | zero => rfl
    | succ i => rw [show (i + 1) * 2 + 1 = i * 2 + 1 + 1 + 1 by omega]; simpa [rus] using ih i (by simpa using h)
theorem rus_oneC (l : List Ru) : ∀ y, y ∈ rus l → y.oneCell' = true := by
  induction l with
  | nil => intro y hy; simp [rus] at hy
  | cons s l ih =>
    intro y hy
    simp only [rus, List.mem_cons] at hy
    rcases hy with rfl | rfl | hy
    · rfl
    · rfl
    · exact ih y hy
theorem rus_set (l : List Ru) (i : Nat) (x : Ru) (h : i < l.length) : ((rus l).set (i * 2) (.int .u8 (x.1.toNat : Int))).set (i * 2 + 1) (.int .i64 x.2) = rus (l.set i x) := by
  induction l generalizing i with
  | nil => simp at h
  | cons s l ih =>
    cases i with
    | zero => rfl
    | succ i =>
      rw [show (i + 1) * 2 = i * 2 + 1 + 1 by omega]
      simp only [rus, List.set_cons_succ, ih i (by simpa using h)]
/-- the value v is seen in w as the shards l -/
def SeenRu (w : World) (v : Value) (l : List Ru) : Prop :=
  ∃ A c, v = .slice A l.length c ∧ l.length ≤ c ∧ c ≤ maxLen ∧ (0 < l.length → ∃ b off, A = some ⟨b, off, none⟩ ∧ b < w.heap.size ∧ ∀ i s, l[i]? = some s → w.cell? ⟨b, off + i * 2, none⟩ = some (.int .u8 (s.1.toNat : Int)) ∧ w.cell? ⟨b, off + i * 2 + 1, none⟩ = some (.int .i64 s.2))
/-- a row of shards of the call's own, its block from lo to hi -/
def OwnRu (E : TypeId) (w : World) (lo hi : Nat) (v : Value) (l : List Ru) : Prop := w.ownsRow lo E 2 v l.length (rus l) ∧ hi ≤ w.heap.size ∧ ∀ g, v.ownBlock = some g → g < hi
section
variable {w w' : World} {lo hi a b : Nat} {v : Value} {l : List Ru} {E : TypeId}
theorem SeenRu.below (h : SeenRu w v l) (hb : Below w.heap.size w w') : SeenRu w' v l := by
  obtain ⟨A, c, rfl, h1, h2, h3⟩ := h
  refine ⟨A, c, rfl, h1, h2, fun hn => ?_⟩
  obtain ⟨b, off, rfl, hb', hc⟩ := h3 hn
  exact ⟨b, off, rfl, Nat.lt_of_lt_of_le hb' hb.size, fun i s hi => ⟨(hb.cell (p := ⟨b, off + i * 2, none⟩) hb').trans (hc i s hi).1, (hb.cell (p := ⟨b, off + i * 2 + 1, none⟩) hb').trans (hc i s hi).2⟩⟩
theorem SeenRu.len (h : SeenRu w v l) : ∃ A c, v = .slice A l.length c := by
  obtain ⟨A, c, h, _⟩ := h
  exact ⟨A, c, h⟩
theorem SeenRu.nil (w : World) : SeenRu w (.slice none 0 0) [] := ⟨none, 0, rfl, Nat.le_refl _, Nat.zero_le _, fun h => by simp at h⟩
theorem owns_turnRu {size n : Nat} {xs : List Value} (h : w.ownsRow lo E size v n xs) (h2 : ∀ g, v.ownBlock = some g → g < hi) (t : TurnIn a b w w') (d : hi ≤ a ∨ b ≤ lo) : w'.ownsRow lo E size v n xs := by
  refine ⟨h.1, ?_⟩
  rcases h.2 with hn | ⟨g, cap, cur, rfl, hbg, hg, rest⟩
  · exact .inl hn
  · refine .inr ⟨g, cap, cur, rfl, hbg, ?_, rest⟩
    have := h2 g rfl
    rw [t.block g (Array.getElem?_eq_some_iff.1 hg).1 (by omega)]
    exact hg
theorem OwnRu.keep (h : OwnRu E w lo hi v l) (t : TurnIn a b w w') (d : hi ≤ a ∨ b ≤ lo) : OwnRu E w' lo hi v l :=
  ⟨owns_turnRu h.1 h.2.2 t d, Nat.le_trans h.2.1 t.size, h.2.2⟩
theorem OwnRu.seen (h : OwnRu E w lo hi v l) : SeenRu w v l := by
  obtain ⟨h1, h2, h3⟩ := h
  rcases h1.2 with ⟨rfl, hn⟩ | ⟨g, cap, cur, rfl, hb, hg, hnc, hcm, hcs, ht⟩
  · have : l = [] := List.eq_nil_of_length_eq_zero hn
    subst this
    exact SeenRu.nil w
  · refine ⟨_, cap, rfl, hnc, hcm, fun hn => ⟨g, 0, rfl, (Array.getElem?_eq_some_iff.1 hg).1, fun i s hs => ?_⟩⟩
    obtain ⟨hi, rfl⟩ := List.getElem?_eq_some_iff.1 hs
    have e1 := h1.cells (g := g) rfl (i * 2) _ (rus_no l i hi)
    have e2 := h1.cells (g := g) rfl (i * 2 + 1) _ (rus_data l i hi)
    rw [Addr.add_lit, Nat.zero_add] at e1 e2
    exact ⟨by rw [Nat.zero_add]; exact e1, by rw [Nat.zero_add]; exact e2⟩
theorem OwnRu.nil (E : TypeId) (w : World) (lo : Nat) : OwnRu E w lo w.heap.size (.slice none 0 0) [] := ⟨World.ownsRow_nil _ _ _ _, Nat.le_refl _, fun g h => by simp [Value.ownBlock] at h⟩
theorem OwnRu.of_made (h : w'.ownsRow w.heap.size E 2 v l.length (rus l)) : OwnRu E w' w.heap.size w'.heap.size v l := ⟨h, Nat.le_refl _, fun g hg => (h.lt g hg).2⟩
end
def RetRus (E : TypeId) (w : World) (l : List Ru) (e : Ending) (w' : World) : Prop := ∃ v, e = .returned v ∧ OwnRu E w' w.heap.size w'.heap.size v l ∧ TurnIn 0 0 w w'
def RetRusOk (E : TypeId) (w : World) (l : List Ru) (ok : Bool) (e : Ending) (w' : World) : Prop := ∃ v, e = .returned (.tuple #[v, .bool ok]) ∧ OwnRu E w' w.heap.size w'.heap.size v l ∧ TurnIn 0 0 w w'
/-- the shards that marks write -/
def marksRu (k n : Nat) : List Ru := (List.range n).map fun i => (UInt8.ofNat (k + i * 2), ((k + i * 2 + 1 : Nat) : Int))
@[simp] theorem marksRu_length (k n : Nat) : (marksRu k n).length = n := by simp [marksRu]
theorem marksRu_get (k n i : Nat) (h : i < (marksRu k n).length) : (marksRu k n)[i] = (UInt8.ofNat (k + i * 2), ((k + i * 2 + 1 : Nat) : Int)) := by simp [marksRu]
def RetMarkRu (E : TypeId) (w : World) (lo hi : Nat) (v : Value) (k n : Nat) (e : Ending) (w' : World) : Prop :=
  e = .returned (.int .i64 ((k + n * 2 : Nat) : Int)) ∧ OwnRu E w' lo hi v (marksRu k n) ∧ TurnIn lo hi w w'
theorem ofNat_intRu (m : Nat) : ((UInt8.ofNat m).toNat : Int) = (m : Int) % 256 := by rw [UInt8.toNat_ofNat']; omega
end G294
