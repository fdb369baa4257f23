/- Joined texts: SymRows, NodeRow, NodeRow2, VecDot, HelpW, HelpI, Loc. -/
import Derived.Deep.RegionHeld3
import Derived.BigRegion
import Derived.Test.YtjgmegfbfjmnfaaDoorBd12
import Derived.Test.YtjgmegfbfjmnfaaDoorBd03
import Derived.Test.YtjgmegfbfjmnfaaDoorBd09
import Derived.Test.YtjgmegfbfjmnfaaDoorBd05
import Derived.Deep.QuietTactic
import Derived.BigQuiet
import Derived.Test.YtjgmegfbfjmnfaaDoorBd08
import Derived.Test.YtjgmegfbfjmnfaaDoorBd07
import Derived.Test.YtjgmegfbfjmnfaaDoorBd01
import Derived.Test.YtjgmegfbfjmnfaaDoorBd00
set_option linter.unusedSimpArgs false
set_option linter.unusedVariables false
/- symmetricRows and MessageOf, the program's. -/
namespace G294
open Go Go.RowKit
/-- a grid of the call's own, filled in place -/
structure Grid (E EE : TypeId) (w wr : World) (hi : Nat) (v : Value) (L : Mat) (vs : List Value) : Prop where
  own : OwnM E EE wr w.heap.size hi v L vs
  old : Below w.heap.size w wr
theorem Grid.congr {E EE : TypeId} {w wr : World} {hi : Nat} {v : Value} {L L' : Mat} {vs : List Value} (h : Grid E EE w wr hi v L vs) (e : L = L') : Grid E EE w wr hi v L' vs := e ▸ h
theorem Grid.drewN {E EE : TypeId} {w wr : World} {hi : Nat} {v : Value} {L : Mat} {vs : List Value} (h : Grid E EE w wr hi v L vs) (q : Nat) : Grid E EE w (wr.drewN q) hi v L vs := ⟨h.own.drewN q, below_drewN h.old q⟩
theorem Grid.storeF {E EE : TypeId} {w wr : World} {hi r c k j bb m cap' : Nat} {F : Ents} {x : UInt8} {v : Value} {vs : List Value} (h : Grid E EE w wr hi v (mkM r c F) vs) (hk : k < r) (hu : vs[k]? = some (.slice (some ⟨bb, 0, none⟩) m cap')) :
    Grid E EE w (wr.setCell ⟨bb, j, none⟩ (.int .u8 (x.toNat : Int))) hi v (mkM r c fun i jj => if i = k ∧ jj = j then x else F i jj) vs := by
  have ho := h.own.rows k _ hu
  have h1 := (ho.1.lt bb rfl).1
  exact ⟨h.own.storeF hk hu, h.old.setCell (show w.heap.size ≤ bb by omega) _⟩
def msgOk (n k : Int) (l : List UInt8) : Bool := msrOk n k && decide ((l.length : Int) = k * (k - 1))
def msgR (n k : Int) (l : List UInt8) : Mat := if msgOk n k l = true then msgM (k - 1).toNat l else []
theorem msgR_no {n k : Int} {l : List UInt8} (h : msgOk n k l = false) : msgR n k l = [] := if_neg (by rw [h]; simp)
theorem msgR_yes {n : Int} {a : Nat} {l : List UInt8} (h : msgOk n ((a : Int) + 1) l = true) : msgR n ((a : Int) + 1) l = msgM a l := by unfold msgR; rw [if_pos h]; congr 1; omega
theorem msgR_siz (n k : Int) (l : List UInt8) : sizM (msgR n k l) ≤ 256 := by
  unfold msgR; split
  · rename_i h
    simp only [msgOk, Bool.and_eq_true] at h
    have := msrOk_b h.1
    exact sizM_side _ (by omega) (by omega)
  · simp [sizM]
/-- a code that is valid: K is one more than alpha -/
theorem msr_alpha {n k : Int} (h : msrOk n k = true) : ∃ a : Nat, k = (a : Int) + 1 ∧ 1 ≤ a ∧ a ≤ 3 ∧ 2 * (a : Int) + 1 ≤ n ∧ n ≤ 14 ∧ msrA n k = (a : Int) ∧ msrD n k = ((2 * a : Nat) : Int) ∧ msrB n k = ((2 * off a a : Nat) : Int) ∧ k * (k - 1) = ((2 * off a a : Nat) : Int) := by
  have hb := msrOk_b h
  have h1 := msrA_yes h
  have h2 := msrD_yes h
  have h3 := msrB_yes h
  rcases msrOk_k h with rfl | rfl | rfl
  · exact ⟨1, rfl, by omega, by omega, by omega, by omega, h1, h2, h3, rfl⟩
  · exact ⟨2, rfl, by omega, by omega, by omega, by omega, h1, h2, h3, rfl⟩
  · exact ⟨3, rfl, by omega, by omega, by omega, by omega, h1, h2, h3, rfl⟩
theorem off_half {a : Nat} (h1 : 1 ≤ a) (h2 : a ≤ 3) : 1 ≤ off a a ∧ off a a ≤ 6 := by
  have : a = 1 ∨ a = 2 ∨ a = 3 := by omega
  rcases this with rfl | rfl | rfl <;> exact ⟨by decide, by decide⟩
theorem Seen.front {w : World} {b o n c h : Nat} {xs : List Value} (hv : Seen w (.slice (some ⟨b, o, none⟩) n c) xs) (hh : h ≤ xs.length) : Seen w (.slice (some ⟨b, o, none⟩) h c) (xs.take h) := by
  obtain ⟨A, c', e, h1, h2, h3⟩ := hv
  simp only [Value.slice.injEq] at e
  obtain ⟨rfl, rfl, rfl⟩ := e
  refine ⟨some ⟨b, o, none⟩, c, by simp [Nat.min_eq_left hh], by simp; omega, h2, fun hp => ?_⟩
  simp only [List.length_take] at hp
  obtain ⟨b', o', e, hb, hc⟩ := h3 (by omega)
  refine ⟨b', o', e, hb, fun i x hx => hc i x ?_⟩
  rw [List.getElem?_take] at hx
  split at hx
  · exact hx
  · cases hx
theorem Seen.back {w : World} {b o n c h : Nat} {xs : List Value} (hv : Seen w (.slice (some ⟨b, o, none⟩) n c) xs) (hh : h < xs.length) : Seen w (.slice (some ⟨b, o + h, none⟩) (n - h) (c - h)) (xs.drop h) := by
  obtain ⟨A, c', e, h1, h2, h3⟩ := hv
  simp only [Value.slice.injEq] at e
  obtain ⟨rfl, rfl, rfl⟩ := e
  obtain ⟨b', o', e, hb, hc⟩ := h3 (by omega)
  simp only [Option.some.injEq, Addr.mk.injEq, and_true] at e
  obtain ⟨rfl, rfl⟩ := e
  refine ⟨some ⟨b, o + h, none⟩, c - h, by simp, by simp; omega, by omega, fun hp => ⟨b, o + h, rfl, hb, fun i x hx => ?_⟩⟩
  rw [List.getElem?_drop] at hx
  have := hc _ x hx
  rwa [← Nat.add_assoc] at this
end G294
namespace Go.Proofs.YtjgmegfbfjmnfaaDoor
open Go.RowKit G294

end Go.Proofs.YtjgmegfbfjmnfaaDoor

/- The row of a node: nodeNumber, nodeFactor, hasNode, powerRow, MsrRow; the model's l5X, l5F, l5Short, l5Row, MsrRow. -/
namespace G294
open Go Go.RowKit
def nodeOk (n k i : Int) : Bool := msrOk n k && decide (0 ≤ i ∧ i < n)
theorem nodeOk_b {n k i : Int} (h : nodeOk n k i = true) : msrOk n k = true ∧ 0 ≤ i ∧ i < n := by simpa [nodeOk] using h
def rowR (n k i : Int) : List UInt8 := if nodeOk n k i = true then rowL (k - 1).toNat i.toNat else []
theorem rowR_no {n k i : Int} (h : nodeOk n k i = false) : rowR n k i = [] := if_neg (by rw [h]; simp)
theorem rowR_yes {n : Int} {a i : Nat} (h : nodeOk n ((a : Int) + 1) i = true) : rowR n ((a : Int) + 1) i = rowL a i := by unfold rowR; rw [if_pos h]; congr 1; omega
theorem rowR_len (n k i : Int) : (rowR n k i).length ≤ 6 := by
  unfold rowR; split
  · rename_i h
    have := msrOk_b (nodeOk_b h).1
    rw [rowL_length]; omega
  · simp
end G294
namespace Go.Proofs.YtjgmegfbfjmnfaaDoor
open Go.RowKit G294

theorem l1Power_u8 (x : UInt8) (a : Nat) (ha : a ≤ 1000) (w : World) : Calls Tryd.prog 41 #[.int .u8 (x.toNat : Int), .int .i64 a] w fun e w' => e = .returned (.int .u8 ((powB x a).toNat : Int)) ∧ w = w' := by
  have h := l1Power_any x.toNat a x.toNat_lt (by omega) w
  rw [powB_toNat]; exact h

theorem powerOf_u8 (x : UInt8) (a : Nat) (ha : a ≤ 1000) (w : World) (ht : Tab w) : Calls Tryd.prog 90 #[.int .u8 (x.toNat : Int), .int .i64 a] w fun e w' => e = .returned (.int .u8 ((powB x a).toNat : Int)) ∧ w = w' := by
  have h := powerOf_any x.toNat a x.toNat_lt (by omega) w ht
  rw [powB_toNat]; exact h

end Go.Proofs.YtjgmegfbfjmnfaaDoor

/- MsrRow, the program's and the model's. -/
namespace G294
open Go Go.RowKit
/-- a literal of two bytes -/
theorem seen_duo (w : World) (x y : UInt8) (T : TypeId) : Seen (w.alloc (.cells #[.int .u8 (x.toNat : Int), .int .u8 (y.toNat : Int)] T)) (.slice (some ⟨w.heap.size, 0, none⟩) 2 2) (bys [x, y]) := by
  refine ⟨_, _, rfl, by simp [bys], by unfold maxLen; omega, fun _ => ⟨w.heap.size, 0, rfl, by simp, fun i u hu => ?_⟩⟩
  match i, hu with
  | 0, hu => simp only [bys, List.map_cons, List.getElem?_cons_zero, Option.some.injEq] at hu; subst hu; exact alloc_duo0 _ _ _ _
  | 1, hu => simp only [bys, List.map_cons, List.getElem?_cons_succ, List.getElem?_cons_zero, Option.some.injEq] at hu; subst hu; exact alloc_duo1 _ _ _ _
  | i + 2, hu => simp [bys] at hu
theorem seen_one (w : World) (x : UInt8) (T : TypeId) : Seen (w.alloc (.cells #[.int .u8 (x.toNat : Int)] T)) (.slice (some ⟨w.heap.size, 0, none⟩) 1 1) (bys [x]) := by
  refine ⟨_, _, rfl, by simp [bys], by unfold maxLen; omega, fun _ => ⟨w.heap.size, 0, rfl, by simp, fun i u hu => ?_⟩⟩
  match i, hu with
  | 0, hu => simp only [bys, List.map_cons, List.getElem?_cons_zero, Option.some.injEq] at hu; subst hu; exact alloc_cell _ _ _
  | i + 1, hu => simp [bys] at hu
end G294
namespace Go.Proofs.YtjgmegfbfjmnfaaDoor
open Go.RowKit G294

end Go.Proofs.YtjgmegfbfjmnfaaDoor

/- Contracts of DotVectors, the program's and the model's. -/
namespace Go.Proofs.YtjgmegfbfjmnfaaDoor
open Go.RowKit G294

end Go.Proofs.YtjgmegfbfjmnfaaDoor

/- HelpFor, the program's and the model's: pieces, helps. -/
namespace G294
open Go Go.RowKit
abbrev pieV (p : Int) (v : Value) : Value := .agg #[.int .i64 p, v]
def piOk (n k p : Int) (l : List UInt8) : Bool := nodeOk n k p && decide ((l.length : Int) = k - 1)
def helpOk (n k p : Int) (l : List UInt8) (i : Int) : Bool := piOk n k p l && nodeOk n k i && !(p == i)
def helpN (n k p : Int) (l : List UInt8) (i : Int) : Int := if helpOk n k p l i = true then p else 0
def helpB (n k p : Int) (l : List UInt8) (i : Int) : UInt8 := if helpOk n k p l i = true then dotL l (shortL (k - 1).toNat i.toNat) else 0
theorem helpN_no {n k p i : Int} {l : List UInt8} (h : helpOk n k p l i = false) : helpN n k p l i = 0 := if_neg (by rw [h]; simp)
theorem helpB_no {n k p i : Int} {l : List UInt8} (h : helpOk n k p l i = false) : helpB n k p l i = 0 := if_neg (by rw [h]; simp)
theorem helpN_yes {n k p i : Int} {l : List UInt8} (h : helpOk n k p l i = true) : helpN n k p l i = p := if_pos h
theorem helpB_yes {n p : Int} {a i : Nat} {l : List UInt8} (h : helpOk n ((a : Int) + 1) p l i = true) : helpB n ((a : Int) + 1) p l i = dotL l (shortL a i) := by unfold helpB; rw [if_pos h]; congr 2; omega
def RetHelp (w : World) (a : Int) (b : UInt8) (ok : Bool) (e : Ending) (w' : World) : Prop := e = .returned (.tuple #[.agg #[.int .i64 a, .int .u8 (b.toNat : Int)], .bool ok]) ∧ TurnIn 0 0 w w'
theorem hAlloc {w2 W : World} {a : Addr} {x : Value} (h : Below w2.heap.size w2 W ∧ W.cell? a = some x) (ha : a.block < w2.heap.size) (o : Obj) : Below w2.heap.size w2 (W.alloc o) ∧ (W.alloc o).cell? a = some x := by
  have hb := h.1.alloc h.1.size o
  exact ⟨hb, (((Below.refl _ W).alloc (Nat.le_refl _) o).cell (p := a) (Nat.lt_of_lt_of_le ha h.1.size)).trans h.2⟩
theorem hTurn {w2 W W' : World} {a : Addr} {x : Value} (h : Below w2.heap.size w2 W ∧ W.cell? a = some x) (ha : a.block < w2.heap.size) (k : TurnIn 0 0 W W') : Below w2.heap.size w2 W' ∧ W'.cell? a = some x :=
  ⟨k.base h.1 h.1.size (by omega), (k.to_below.cell (p := a) (Nat.lt_of_lt_of_le ha h.1.size)).trans h.2⟩
end G294
namespace Go.Proofs.YtjgmegfbfjmnfaaDoor
open Go.RowKit G294

end Go.Proofs.YtjgmegfbfjmnfaaDoor

/- HelpFor, the program's. -/
namespace G294
open Go Go.RowKit
theorem alloc_frz (w : World) (cs : Array Value) (T : TypeId) (o : Nat) : (w.alloc (.cells cs T)).frozen? ⟨w.heap.size, o, none⟩ = false := by simp
end G294
namespace Go.Proofs.YtjgmegfbfjmnfaaDoor
open Go.RowKit G294

end Go.Proofs.YtjgmegfbfjmnfaaDoor

/- Local codes: their numbers; the program's and the model's GoodLocal. -/
namespace G294
open Go Go.RowKit
def numOk (n : Int) : Bool := decide (1 ≤ n ∧ n ≤ 4)
def locOk (g e q : Int) : Bool := numOk g && numOk e && numOk q && decide (g * e ≤ 8)
/-- a local code as a value -/
abbrev locV (g e q : Int) : Value := .agg #[.int .i64 g, .int .i64 e, .int .i64 q]
theorem mul_bd {a b : Int} (h1 : 1 ≤ a ∧ a ≤ 4) (h2 : 1 ≤ b ∧ b ≤ 4) : 1 ≤ a * b ∧ a * b ≤ 16 := by
  obtain ⟨h1, h1'⟩ := h1
  obtain ⟨h2, h2'⟩ := h2
  have e1 : a = 1 ∨ a = 2 ∨ a = 3 ∨ a = 4 := by omega
  rcases e1 with rfl | rfl | rfl | rfl <;> omega
theorem numOk_b {n : Int} (h : numOk n = true) : 1 ≤ n ∧ n ≤ 4 := by simpa [numOk] using h
theorem locOk_b {g e q : Int} (h : locOk g e q = true) : ((1 ≤ g ∧ g ≤ 4) ∧ (1 ≤ e ∧ e ≤ 4)) ∧ (1 ≤ q ∧ q ≤ 4) ∧ 1 ≤ g * e ∧ g * e ≤ 8 := by
  have h' : (((1 ≤ g ∧ g ≤ 4) ∧ (1 ≤ e ∧ e ≤ 4)) ∧ (1 ≤ q ∧ q ≤ 4)) ∧ g * e ≤ 8 := by simpa [locOk, numOk] using h
  exact ⟨h'.1.1, h'.1.2, (mul_bd h'.1.1.1 h'.1.1.2).1, h'.2⟩
end G294
namespace Go.Proofs.YtjgmegfbfjmnfaaDoor
open Go.RowKit G294

end Go.Proofs.YtjgmegfbfjmnfaaDoor
