/- Shares in memory: a slice of structs of two bytes that is seen, or of the call's own; what a mark writes. -/
import Derived.Test.YtdbgkpmdimapdaaShaMath
import Derived.Test.YtdbgkpmdimapdaaMatMem
import Derived.Test.YtdbgkpmdimapdaaStrMem
set_option linter.unusedSimpArgs false
set_option linter.unusedVariables false
namespace G294
open Go Go.RowKit
theorem at_ltR {α : Type} {l : List α} {n k : Nat} (hn : l.length = n) (h : k < n) : ∃ s, l[k]? = some s := ⟨_, List.getElem?_eq_getElem (by omega)⟩
/-- shards as the cells of memory -/
def srs : List Sr → List Value
  | [] => []
  | s :: l => .int .u8 (s.1.toNat : Int) :: .int .u8 (s.2.toNat : Int) :: srs l
@[simp] theorem srs_length (l : List Sr) : (srs l).length = l.length * 2 := by
  induction l with
  | nil => rfl
  | cons s l ih => simp [srs, ih]; omega
theorem srs_append (l m : List Sr) : srs (l ++ m) = srs l ++ srs m := by
  induction l with
  | nil => rfl
  | cons s l ih => simp [srs, ih]
theorem srs_no (l : List Sr) (i : Nat) (h : i < l.length) : (srs l)[i * 2]? = some (.int .u8 (l[i].1.toNat : Int)) := by
  induction l generalizing i with
  | nil => simp at h
  | cons s l ih =>
    cases i with
    | zero => rfl
    | succ i => rw [show (i + 1) * 2 = i * 2 + 1 + 1 by omega]; simpa [srs] using ih i (by simpa using h)
theorem srs_data (l : List Sr) (i : Nat) (h : i < l.length) : (srs l)[i * 2 + 1]? = some (.int .u8 (l[i].2.toNat : Int)) := by
  induction l generalizing i with
  | nil => simp at h
  | cons s l ih =>
    cases i with
    | zero => rfl
    | succ i => rw [show (i + 1) * 2 + 1 = i * 2 + 1 + 1 + 1 by omega]; simpa [srs] using ih i (by simpa using h)
theorem srs_oneC (l : List Sr) : ∀ y, y ∈ srs l → y.oneCell' = true := by
  induction l with
  | nil => intro y hy; simp [srs] at hy
  | cons s l ih =>
    intro y hy
    simp only [srs, List.mem_cons] at hy
    rcases hy with rfl | rfl | hy
    · rfl
    · rfl
    · exact ih y hy
theorem srs_set (l : List Sr) (i : Nat) (x : Sr) (h : i < l.length) : ((srs l).set (i * 2) (.int .u8 (x.1.toNat : Int))).set (i * 2 + 1) (.int .u8 (x.2.toNat : Int)) = srs (l.set i x) := by
  induction l generalizing i with
  | nil => simp at h
  | cons s l ih =>
    cases i with
    | zero => rfl
    | succ i =>
      rw [show (i + 1) * 2 = i * 2 + 1 + 1 by omega]
      simp only [srs, List.set_cons_succ, ih i (by simpa using h)]
/-- the value v is seen in w as the shards l -/
def SeenR (w : World) (v : Value) (l : List Sr) : Prop :=
  ∃ A c, v = .slice A l.length c ∧ l.length ≤ c ∧ c ≤ maxLen ∧ (0 < l.length → ∃ b off, A = some ⟨b, off, none⟩ ∧ b < w.heap.size ∧ ∀ i s, l[i]? = some s → w.cell? ⟨b, off + i * 2, none⟩ = some (.int .u8 (s.1.toNat : Int)) ∧ w.cell? ⟨b, off + i * 2 + 1, none⟩ = some (.int .u8 (s.2.toNat : Int)))
/-- a row of shards of the call's own, its block from lo to hi -/
def OwnSr (E : TypeId) (w : World) (lo hi : Nat) (v : Value) (l : List Sr) : Prop := w.ownsRow lo E 2 v l.length (srs l) ∧ hi ≤ w.heap.size ∧ ∀ g, v.ownBlock = some g → g < hi
section
variable {w w' : World} {lo hi a b : Nat} {v : Value} {l : List Sr} {E : TypeId}
theorem SeenR.below (h : SeenR w v l) (hb : Below w.heap.size w w') : SeenR w' v l := by
  obtain ⟨A, c, rfl, h1, h2, h3⟩ := h
  refine ⟨A, c, rfl, h1, h2, fun hn => ?_⟩
  obtain ⟨b, off, rfl, hb', hc⟩ := h3 hn
  exact ⟨b, off, rfl, Nat.lt_of_lt_of_le hb' hb.size, fun i s hi => ⟨(hb.cell (p := ⟨b, off + i * 2, none⟩) hb').trans (hc i s hi).1, (hb.cell (p := ⟨b, off + i * 2 + 1, none⟩) hb').trans (hc i s hi).2⟩⟩
theorem SeenR.len (h : SeenR w v l) : ∃ A c, v = .slice A l.length c := by
  obtain ⟨A, c, h, _⟩ := h
  exact ⟨A, c, h⟩
theorem SeenR.nil (w : World) : SeenR w (.slice none 0 0) [] := ⟨none, 0, rfl, Nat.le_refl _, Nat.zero_le _, fun h => by simp at h⟩
theorem owns_turnR {size n : Nat} {xs : List Value} (h : w.ownsRow lo E size v n xs) (h2 : ∀ g, v.ownBlock = some g → g < hi) (t : TurnIn a b w w') (d : hi ≤ a ∨ b ≤ lo) : w'.ownsRow lo E size v n xs := by
  refine ⟨h.1, ?_⟩
  rcases h.2 with hn | ⟨g, cap, cur, rfl, hbg, hg, rest⟩
  · exact .inl hn
  · refine .inr ⟨g, cap, cur, rfl, hbg, ?_, rest⟩
    have := h2 g rfl
    rw [t.block g (Array.getElem?_eq_some_iff.1 hg).1 (by omega)]
    exact hg
theorem OwnSr.keep (h : OwnSr E w lo hi v l) (t : TurnIn a b w w') (d : hi ≤ a ∨ b ≤ lo) : OwnSr E w' lo hi v l :=
  ⟨owns_turnR h.1 h.2.2 t d, Nat.le_trans h.2.1 t.size, h.2.2⟩
theorem OwnSr.seen (h : OwnSr E w lo hi v l) : SeenR w v l := by
  obtain ⟨h1, h2, h3⟩ := h
  rcases h1.2 with ⟨rfl, hn⟩ | ⟨g, cap, cur, rfl, hb, hg, hnc, hcm, hcs, ht⟩
  · have : l = [] := List.eq_nil_of_length_eq_zero hn
    subst this
    exact SeenR.nil w
  · refine ⟨_, cap, rfl, hnc, hcm, fun hn => ⟨g, 0, rfl, (Array.getElem?_eq_some_iff.1 hg).1, fun i s hs => ?_⟩⟩
    obtain ⟨hi, rfl⟩ := List.getElem?_eq_some_iff.1 hs
    have e1 := h1.cells (g := g) rfl (i * 2) _ (srs_no l i hi)
    have e2 := h1.cells (g := g) rfl (i * 2 + 1) _ (srs_data l i hi)
    rw [Addr.add_lit, Nat.zero_add] at e1 e2
    exact ⟨by rw [Nat.zero_add]; exact e1, by rw [Nat.zero_add]; exact e2⟩
theorem OwnSr.nil (E : TypeId) (w : World) (lo : Nat) : OwnSr E w lo w.heap.size (.slice none 0 0) [] := ⟨World.ownsRow_nil _ _ _ _, Nat.le_refl _, fun g h => by simp [Value.ownBlock] at h⟩
theorem OwnSr.of_made (h : w'.ownsRow w.heap.size E 2 v l.length (srs l)) : OwnSr E w' w.heap.size w'.heap.size v l := ⟨h, Nat.le_refl _, fun g hg => (h.lt g hg).2⟩
end
def RetSrs (E : TypeId) (w : World) (l : List Sr) (e : Ending) (w' : World) : Prop := ∃ v, e = .returned v ∧ OwnSr E w' w.heap.size w'.heap.size v l ∧ TurnIn 0 0 w w'
def RetSrsOk (E : TypeId) (w : World) (l : List Sr) (ok : Bool) (e : Ending) (w' : World) : Prop := ∃ v, e = .returned (.tuple #[v, .bool ok]) ∧ OwnSr E w' w.heap.size w'.heap.size v l ∧ TurnIn 0 0 w w'
/-- the shards that marks write -/
def marksR (k n : Nat) : List Sr := (List.range n).map fun i => (UInt8.ofNat (k + i * 2), UInt8.ofNat (k + i * 2 + 1))
@[simp] theorem marksR_length (k n : Nat) : (marksR k n).length = n := by simp [marksR]
theorem marksR_get (k n i : Nat) (h : i < (marksR k n).length) : (marksR k n)[i] = (UInt8.ofNat (k + i * 2), UInt8.ofNat (k + i * 2 + 1)) := by simp [marksR]
def RetMarkR (E : TypeId) (w : World) (lo hi : Nat) (v : Value) (k n : Nat) (e : Ending) (w' : World) : Prop :=
  e = .returned (.int .i64 ((k + n * 2 : Nat) : Int)) ∧ OwnSr E w' lo hi v (marksR k n) ∧ TurnIn lo hi w w'
theorem ofNat_int (m : Nat) : ((UInt8.ofNat m).toNat : Int) = (m : Int) % 256 := by rw [UInt8.toNat_ofNat']; omega
end G294
