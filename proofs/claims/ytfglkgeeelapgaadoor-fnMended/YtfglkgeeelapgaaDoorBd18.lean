/- Joined texts: Msr, MsgMath, SymRows, NodeRow, NodeRow2, HelpW, HelpI. -/
import Derived.Deep.QuietTactic
import Derived.BigQuiet
import Derived.Test.YtfglkgeeelapgaaDoorBd03
import Derived.Test.YtfglkgeeelapgaaDoorBd02
import Derived.Test.YtfglkgeeelapgaaDoorBd01
import Derived.Test.YtfglkgeeelapgaaDoorBd04
import Derived.Deep.RegionHeld3
import Derived.BigRegion
import Derived.Test.YtfglkgeeelapgaaDoorBd14
import Derived.Test.YtfglkgeeelapgaaDoorBd08
import Derived.Test.YtfglkgeeelapgaaDoorBd06
import Derived.Test.YtfglkgeeelapgaaDoorBd05
set_option linter.unusedSimpArgs false
set_option linter.unusedVariables false
/- Regenerating codes: which are valid, and their sizes, on both sides; the conversion of a code. -/
namespace G294
open Go Go.RowKit
/-- a code of n nodes, k of which suffice -/
abbrev msrV (n k : Int) : Value := .agg #[.int .i64 n, .int .i64 k]
def msrOk (n k : Int) : Bool := decide (2 ≤ k ∧ k ≤ 4) && decide (2 * k - 1 ≤ n ∧ n ≤ 14)
theorem msrOk_b {n k : Int} (h : msrOk n k = true) : (2 ≤ k ∧ k ≤ 4) ∧ 2 * k - 1 ≤ n ∧ n ≤ 14 := by simpa [msrOk] using h
theorem msrOk_k {n k : Int} (h : msrOk n k = true) : k = 2 ∨ k = 3 ∨ k = 4 := by have := msrOk_b h; omega
def msrA (n k : Int) : Int := if msrOk n k = true then k - 1 else 0
def msrD (n k : Int) : Int := if msrOk n k = true then 2 * (k - 1) else 0
def msrB (n k : Int) : Int := if msrOk n k = true then k * (k - 1) else 0
theorem msrA_yes {n k : Int} (h : msrOk n k = true) : msrA n k = k - 1 := if_pos h
theorem msrD_yes {n k : Int} (h : msrOk n k = true) : msrD n k = 2 * (k - 1) := if_pos h
theorem msrB_yes {n k : Int} (h : msrOk n k = true) : msrB n k = k * (k - 1) := if_pos h
theorem msrA_no {n k : Int} (h : msrOk n k = false) : msrA n k = 0 := if_neg (by rw [h]; simp)
theorem msrD_no {n k : Int} (h : msrOk n k = false) : msrD n k = 0 := if_neg (by rw [h]; simp)
theorem msrB_no {n k : Int} (h : msrOk n k = false) : msrB n k = 0 := if_neg (by rw [h]; simp)
theorem alloc_duo0 (w : World) (x y : Value) (T : TypeId) : (w.alloc (.cells #[x, y] T)).cell? ⟨w.heap.size, 0, none⟩ = some x := by simp
theorem alloc_duo1 (w : World) (x y : Value) (T : TypeId) : (w.alloc (.cells #[x, y] T)).cell? ⟨w.heap.size, 1, none⟩ = some y := by simp
def RetSizes (w : World) (a d b : Int) (ok : Bool) (e : Ending) (w' : World) : Prop := e = .returned (.tuple #[.int .i64 a, .int .i64 d, .int .i64 b, .bool ok]) ∧ TurnIn 0 0 w w'
end G294
namespace Go.Proofs.YtfglkgeeelapgaaDoor
open Go.RowKit G294

end Go.Proofs.YtfglkgeeelapgaaDoor

/- The message matrix of a regenerating code: two symmetric matrices, each filled from a triangle of bytes. -/
namespace G294
/-- where row p of a triangle of side a begins -/
def off (a : Nat) : Nat → Nat
  | 0 => 0
  | p + 1 => off a p + (a - p)
def tix (a p q : Nat) : Nat := off a p + (q - p)
theorem off_mono (a p : Nat) : ∀ d, off a p ≤ off a (p + d)
  | 0 => Nat.le_refl _
  | d + 1 => Nat.le_trans (off_mono a p d) (Nat.le_add_right _ _)
theorem tix_lt {a p q : Nat} (h1 : p ≤ q) (h2 : q < a) : tix a p q < off a a := by
  have h := off_mono a (p + 1) (a - (p + 1))
  rw [show p + 1 + (a - (p + 1)) = a by omega] at h
  have : off a (p + 1) = off a p + (a - p) := rfl
  unfold tix
  omega
/-- the entry of the symmetric matrix whose triangle lies in l from b on -/
def symF (a : Nat) (l : List UInt8) (b : Nat) : Ents := fun i j => l.getD (b + tix a (min i j) (max i j)) 0
/-- .. after the rows before p, and in row p the columns before q -/
def symP (a : Nat) (l : List UInt8) (b p q : Nat) : Ents := fun i j => if min i j < p ∨ (min i j = p ∧ max i j < q) then symF a l b i j else 0
theorem symP_zero (a : Nat) (l : List UInt8) (b i j : Nat) : symP a l b 0 0 i j = 0 := by unfold symP; rw [if_neg (by omega)]
theorem symP_row {a : Nat} {l : List UInt8} {b p i j : Nat} (hi : i < a) (hj : j < a) : symP a l b p a i j = symP a l b (p + 1) (p + 1) i j := by
  unfold symP
  by_cases h : min i j < p ∨ (min i j = p ∧ max i j < a)
  · rw [if_pos h, if_pos (by omega)]
  · rw [if_neg h, if_neg (by omega)]
theorem symP_all {a : Nat} {l : List UInt8} {b i j : Nat} (hi : i < a) (hj : j < a) : symP a l b a a i j = symF a l b i j := by
  unfold symP; rw [if_pos (by omega)]
theorem symP_step (a : Nat) (l : List UInt8) (b p q : Nat) (hpq : p ≤ q) (i j : Nat) :
    (if i = q ∧ j = p then l.getD (b + tix a p q) 0 else if i = p ∧ j = q then l.getD (b + tix a p q) 0 else symP a l b p q i j) = symP a l b p (q + 1) i j := by
  by_cases h1 : i = q ∧ j = p
  · obtain ⟨rfl, rfl⟩ := h1
    rw [if_pos ⟨rfl, rfl⟩]
    unfold symP
    rw [if_pos (by omega)]
    unfold symF
    rw [show min i j = j by omega, show max i j = i by omega]
  · rw [if_neg h1]
    by_cases h2 : i = p ∧ j = q
    · obtain ⟨rfl, rfl⟩ := h2
      rw [if_pos ⟨rfl, rfl⟩]
      unfold symP
      rw [if_pos (by omega)]
      unfold symF
      rw [show min i j = i by omega, show max i j = j by omega]
    · rw [if_neg h2]
      unfold symP
      by_cases h : min i j < p ∨ (min i j = p ∧ max i j < q)
      · rw [if_pos h, if_pos (by omega)]
      · rw [if_neg h, if_neg (by omega)]
theorem tix_next {a p q : Nat} (h : p ≤ q) : tix a p (q + 1) = tix a p q + 1 := by unfold tix; omega
theorem tix_row {a p : Nat} (h : p < a) : tix a p a = tix a (p + 1) (p + 1) := by
  show off a p + (a - p) = off a p + (a - p) + (p + 1 - (p + 1)); omega
theorem tix_diag (a : Nat) : tix a 0 0 = 0 := rfl
theorem off_three {a : Nat} (h1 : 1 ≤ a) (h2 : a ≤ 3) : 2 * off a a = (a + 1) * a := by
  have : a = 1 ∨ a = 2 ∨ a = 3 := by omega
  rcases this with rfl | rfl | rfl <;> rfl
/-- the message matrix -/
def msgF (a : Nat) (l : List UInt8) : Ents := fun i j => if i < a then symF a l 0 i j else symF a l (off a a) (i - a) j
def msgM (a : Nat) (l : List UInt8) : Mat := mkM (a + a) a (msgF a l)
theorem msgM_eq (a : Nat) (l : List UInt8) : mkM a a (symF a (l.take (off a a)) 0) ++ mkM a a (symF a (l.drop (off a a)) 0) = msgM a l := by
  apply List.ext_getElem
  · simp [msgM]
  · intro i h1 h2
    have h2' : i < a + a := by simpa [msgM] using h2
    rcases Nat.lt_or_ge i a with h | h
    · rw [List.getElem_append_left (by simpa using h)]
      simp only [msgM, mkM, List.getElem_map, List.getElem_range]
      refine mkRow_congr fun j hj => ?_
      have := tix_lt (a := a) (p := min i j) (q := max i j) (by omega) (by omega)
      simp only [msgF, if_pos h, symF, Nat.zero_add]
      simp [List.getD, List.getElem?_take, this]
    · rw [List.getElem_append_right (by simpa using h)]
      simp only [msgM, mkM, List.getElem_map, List.getElem_range, List.length_map, List.length_range]
      refine mkRow_congr fun j hj => ?_
      simp only [msgF, if_neg (Nat.not_lt.2 h), symF, Nat.zero_add]
      simp [List.getD, List.getElem?_drop]
/-- .. the model's way to it: h halves, of the next one the rows before p, and in row p the columns before q -/
def msgP (a : Nat) (l : List UInt8) (h p q : Nat) : Ents := fun i j => if i < h * a then msgF a l i j else if i < h * a + a then symP a l (h * off a a) p q (i - h * a) j else 0
theorem msgP_zero (a : Nat) (l : List UInt8) (i j : Nat) : msgP a l 0 0 0 i j = 0 := by
  unfold msgP; rw [if_neg (by omega)]; split
  · exact symP_zero _ _ _ _ _
  · rfl
theorem msgP_row {a : Nat} {l : List UInt8} {h p i j : Nat} (hj : j < a) : msgP a l h p a i j = msgP a l h (p + 1) (p + 1) i j := by
  unfold msgP
  by_cases h1 : i < h * a
  · rw [if_pos h1, if_pos h1]
  · rw [if_neg h1, if_neg h1]
    by_cases h2 : i < h * a + a
    · rw [if_pos h2, if_pos h2]; exact symP_row (by omega) hj
    · rw [if_neg h2, if_neg h2]
theorem msgP_half {a : Nat} {l : List UInt8} {h i j : Nat} (hh : h = 0 ∨ h = 1) (hj : j < a) : msgP a l h a a i j = msgP a l (h + 1) 0 0 i j := by
  have e : (h + 1) * a = h * a + a := by rw [Nat.succ_mul]
  unfold msgP
  rw [e]
  by_cases h1 : i < h * a
  · rw [if_pos h1, if_pos (by omega)]
  · rw [if_neg h1]
    by_cases h2 : i < h * a + a
    · rw [if_pos h2, if_pos h2, symP_all (by omega) hj]
      rcases hh with rfl | rfl
      · simp only [Nat.zero_mul, Nat.sub_zero] at *
        simp only [msgF]; rw [if_pos (by omega)]
      · simp only [Nat.one_mul] at *
        simp only [msgF]; rw [if_neg (by omega)]
    · rw [if_neg h2, if_neg h2]; split
      · exact (symP_zero _ _ _ _ _).symm
      · rfl
theorem msgP_all {a : Nat} {l : List UInt8} {i j : Nat} (hi : i < a + a) : msgP a l 2 0 0 i j = msgF a l i j := by
  unfold msgP; rw [if_pos (by omega)]
theorem msgP_step (a : Nat) (l : List UInt8) (h p q : Nat) (hpq : p ≤ q) (hq : q < a) (i j : Nat) :
    (if i = h * a + q ∧ j = p then l.getD (h * off a a + tix a p q) 0 else if i = h * a + p ∧ j = q then l.getD (h * off a a + tix a p q) 0 else msgP a l h p q i j) = msgP a l h p (q + 1) i j := by
  have hs := symP_step a l (h * off a a) p q hpq (i - h * a) j
  unfold msgP
  by_cases h1 : i < h * a
  · rw [if_neg (by omega), if_neg (by omega), if_pos h1, if_pos h1]
  · rw [if_neg h1, if_neg h1]
    by_cases h2 : i < h * a + a
    · rw [if_pos h2, if_pos h2, ← hs]
      by_cases h3 : i = h * a + q ∧ j = p
      · rw [if_pos h3, if_pos (by omega)]
      · rw [if_neg h3, if_neg (show ¬ (i - h * a = q ∧ j = p) by omega)]
        by_cases h4 : i = h * a + p ∧ j = q
        · rw [if_pos h4, if_pos (by omega)]
        · rw [if_neg h4, if_neg (show ¬ (i - h * a = p ∧ j = q) by omega)]
    · rw [if_neg h2, if_neg h2, if_neg (by omega), if_neg (by omega)]
end G294

/- symmetricRows and MessageOf, the program's. -/
namespace G294
open Go Go.RowKit
/-- a grid of the call's own, filled in place -/
structure Grid (E EE : TypeId) (w wr : World) (hi : Nat) (v : Value) (L : Mat) (vs : List Value) : Prop where
  own : OwnM E EE wr w.heap.size hi v L vs
  old : Below w.heap.size w wr
theorem Grid.congr {E EE : TypeId} {w wr : World} {hi : Nat} {v : Value} {L L' : Mat} {vs : List Value} (h : Grid E EE w wr hi v L vs) (e : L = L') : Grid E EE w wr hi v L' vs := e ▸ h
theorem Grid.drewN {E EE : TypeId} {w wr : World} {hi : Nat} {v : Value} {L : Mat} {vs : List Value} (h : Grid E EE w wr hi v L vs) (q : Nat) : Grid E EE w (wr.drewN q) hi v L vs := ⟨h.own.drewN q, below_drewN h.old q⟩
theorem Grid.storeF {E EE : TypeId} {w wr : World} {hi r c k j bb m cap' : Nat} {F : Ents} {x : UInt8} {v : Value} {vs : List Value} (h : Grid E EE w wr hi v (mkM r c F) vs) (hk : k < r) (hu : vs[k]? = some (.slice (some ⟨bb, 0, none⟩) m cap')) :
    Grid E EE w (wr.setCell ⟨bb, j, none⟩ (.int .u8 (x.toNat : Int))) hi v (mkM r c fun i jj => if i = k ∧ jj = j then x else F i jj) vs := by
  have ho := h.own.rows k _ hu
  have h1 := (ho.1.lt bb rfl).1
  exact ⟨h.own.storeF hk hu, h.old.setCell (show w.heap.size ≤ bb by omega) _⟩
def msgOk (n k : Int) (l : List UInt8) : Bool := msrOk n k && decide ((l.length : Int) = k * (k - 1))
def msgR (n k : Int) (l : List UInt8) : Mat := if msgOk n k l = true then msgM (k - 1).toNat l else []
theorem msgR_no {n k : Int} {l : List UInt8} (h : msgOk n k l = false) : msgR n k l = [] := if_neg (by rw [h]; simp)
theorem msgR_yes {n : Int} {a : Nat} {l : List UInt8} (h : msgOk n ((a : Int) + 1) l = true) : msgR n ((a : Int) + 1) l = msgM a l := by unfold msgR; rw [if_pos h]; congr 1; omega
theorem msgR_siz (n k : Int) (l : List UInt8) : sizM (msgR n k l) ≤ 256 := by
  unfold msgR; split
  · rename_i h
    simp only [msgOk, Bool.and_eq_true] at h
    have := msrOk_b h.1
    exact sizM_side _ (by omega) (by omega)
  · simp [sizM]
/-- a code that is valid: K is one more than alpha -/
theorem msr_alpha {n k : Int} (h : msrOk n k = true) : ∃ a : Nat, k = (a : Int) + 1 ∧ 1 ≤ a ∧ a ≤ 3 ∧ 2 * (a : Int) + 1 ≤ n ∧ n ≤ 14 ∧ msrA n k = (a : Int) ∧ msrD n k = ((2 * a : Nat) : Int) ∧ msrB n k = ((2 * off a a : Nat) : Int) ∧ k * (k - 1) = ((2 * off a a : Nat) : Int) := by
  have hb := msrOk_b h
  have h1 := msrA_yes h
  have h2 := msrD_yes h
  have h3 := msrB_yes h
  rcases msrOk_k h with rfl | rfl | rfl
  · exact ⟨1, rfl, by omega, by omega, by omega, by omega, h1, h2, h3, rfl⟩
  · exact ⟨2, rfl, by omega, by omega, by omega, by omega, h1, h2, h3, rfl⟩
  · exact ⟨3, rfl, by omega, by omega, by omega, by omega, h1, h2, h3, rfl⟩
theorem off_half {a : Nat} (h1 : 1 ≤ a) (h2 : a ≤ 3) : 1 ≤ off a a ∧ off a a ≤ 6 := by
  have : a = 1 ∨ a = 2 ∨ a = 3 := by omega
  rcases this with rfl | rfl | rfl <;> exact ⟨by decide, by decide⟩
theorem Seen.front {w : World} {b o n c h : Nat} {xs : List Value} (hv : Seen w (.slice (some ⟨b, o, none⟩) n c) xs) (hh : h ≤ xs.length) : Seen w (.slice (some ⟨b, o, none⟩) h c) (xs.take h) := by
  obtain ⟨A, c', e, h1, h2, h3⟩ := hv
  simp only [Value.slice.injEq] at e
  obtain ⟨rfl, rfl, rfl⟩ := e
  refine ⟨some ⟨b, o, none⟩, c, by simp [Nat.min_eq_left hh], by simp; omega, h2, fun hp => ?_⟩
  simp only [List.length_take] at hp
  obtain ⟨b', o', e, hb, hc⟩ := h3 (by omega)
  refine ⟨b', o', e, hb, fun i x hx => hc i x ?_⟩
  rw [List.getElem?_take] at hx
  split at hx
  · exact hx
  · cases hx
theorem Seen.back {w : World} {b o n c h : Nat} {xs : List Value} (hv : Seen w (.slice (some ⟨b, o, none⟩) n c) xs) (hh : h < xs.length) : Seen w (.slice (some ⟨b, o + h, none⟩) (n - h) (c - h)) (xs.drop h) := by
  obtain ⟨A, c', e, h1, h2, h3⟩ := hv
  simp only [Value.slice.injEq] at e
  obtain ⟨rfl, rfl, rfl⟩ := e
  obtain ⟨b', o', e, hb, hc⟩ := h3 (by omega)
  simp only [Option.some.injEq, Addr.mk.injEq, and_true] at e
  obtain ⟨rfl, rfl⟩ := e
  refine ⟨some ⟨b, o + h, none⟩, c - h, by simp, by simp; omega, by omega, fun hp => ⟨b, o + h, rfl, hb, fun i x hx => ?_⟩⟩
  rw [List.getElem?_drop] at hx
  have := hc _ x hx
  rwa [← Nat.add_assoc] at this
end G294
namespace Go.Proofs.YtfglkgeeelapgaaDoor
open Go.RowKit G294

end Go.Proofs.YtfglkgeeelapgaaDoor

/- The row of a node: nodeNumber, nodeFactor, hasNode, powerRow, MsrRow; the model's l5X, l5F, l5Short, l5Row, MsrRow. -/
namespace G294
open Go Go.RowKit
def nodeOk (n k i : Int) : Bool := msrOk n k && decide (0 ≤ i ∧ i < n)
theorem nodeOk_b {n k i : Int} (h : nodeOk n k i = true) : msrOk n k = true ∧ 0 ≤ i ∧ i < n := by simpa [nodeOk] using h
def rowR (n k i : Int) : List UInt8 := if nodeOk n k i = true then rowL (k - 1).toNat i.toNat else []
theorem rowR_no {n k i : Int} (h : nodeOk n k i = false) : rowR n k i = [] := if_neg (by rw [h]; simp)
theorem rowR_yes {n : Int} {a i : Nat} (h : nodeOk n ((a : Int) + 1) i = true) : rowR n ((a : Int) + 1) i = rowL a i := by unfold rowR; rw [if_pos h]; congr 1; omega
theorem rowR_len (n k i : Int) : (rowR n k i).length ≤ 6 := by
  unfold rowR; split
  · rename_i h
    have := msrOk_b (nodeOk_b h).1
    rw [rowL_length]; omega
  · simp
end G294
namespace Go.Proofs.YtfglkgeeelapgaaDoor
open Go.RowKit G294

theorem l1Power_u8 (x : UInt8) (a : Nat) (ha : a ≤ 1000) (w : World) : Calls Tryd.prog 52 #[.int .u8 (x.toNat : Int), .int .i64 a] w fun e w' => e = .returned (.int .u8 ((powB x a).toNat : Int)) ∧ w = w' := by
  have h := l1Power_any x.toNat a x.toNat_lt (by omega) w
  rw [powB_toNat]; exact h

theorem powerOf_u8 (x : UInt8) (a : Nat) (ha : a ≤ 1000) (w : World) (ht : Tab w) : Calls Tryd.prog 110 #[.int .u8 (x.toNat : Int), .int .i64 a] w fun e w' => e = .returned (.int .u8 ((powB x a).toNat : Int)) ∧ w = w' := by
  have h := powerOf_any x.toNat a x.toNat_lt (by omega) w ht
  rw [powB_toNat]; exact h

end Go.Proofs.YtfglkgeeelapgaaDoor

/- MsrRow, the program's and the model's. -/
namespace G294
open Go Go.RowKit
/-- a literal of two bytes -/
theorem seen_duo (w : World) (x y : UInt8) (T : TypeId) : Seen (w.alloc (.cells #[.int .u8 (x.toNat : Int), .int .u8 (y.toNat : Int)] T)) (.slice (some ⟨w.heap.size, 0, none⟩) 2 2) (bys [x, y]) := by
  refine ⟨_, _, rfl, by simp [bys], by unfold maxLen; omega, fun _ => ⟨w.heap.size, 0, rfl, by simp, fun i u hu => ?_⟩⟩
  match i, hu with
  | 0, hu => simp only [bys, List.map_cons, List.getElem?_cons_zero, Option.some.injEq] at hu; subst hu; exact alloc_duo0 _ _ _ _
  | 1, hu => simp only [bys, List.map_cons, List.getElem?_cons_succ, List.getElem?_cons_zero, Option.some.injEq] at hu; subst hu; exact alloc_duo1 _ _ _ _
  | i + 2, hu => simp [bys] at hu
theorem seen_one (w : World) (x : UInt8) (T : TypeId) : Seen (w.alloc (.cells #[.int .u8 (x.toNat : Int)] T)) (.slice (some ⟨w.heap.size, 0, none⟩) 1 1) (bys [x]) := by
  refine ⟨_, _, rfl, by simp [bys], by unfold maxLen; omega, fun _ => ⟨w.heap.size, 0, rfl, by simp, fun i u hu => ?_⟩⟩
  match i, hu with
  | 0, hu => simp only [bys, List.map_cons, List.getElem?_cons_zero, Option.some.injEq] at hu; subst hu; exact alloc_cell _ _ _
  | i + 1, hu => simp [bys] at hu
end G294
namespace Go.Proofs.YtfglkgeeelapgaaDoor
open Go.RowKit G294

end Go.Proofs.YtfglkgeeelapgaaDoor

/- HelpFor, the program's and the model's: pieces, helps. -/
namespace G294
open Go Go.RowKit
abbrev pieV (p : Int) (v : Value) : Value := .agg #[.int .i64 p, v]
def piOk (n k p : Int) (l : List UInt8) : Bool := nodeOk n k p && decide ((l.length : Int) = k - 1)
def helpOk (n k p : Int) (l : List UInt8) (i : Int) : Bool := piOk n k p l && nodeOk n k i && !(p == i)
def helpN (n k p : Int) (l : List UInt8) (i : Int) : Int := if helpOk n k p l i = true then p else 0
def helpB (n k p : Int) (l : List UInt8) (i : Int) : UInt8 := if helpOk n k p l i = true then dotL l (shortL (k - 1).toNat i.toNat) else 0
theorem helpN_no {n k p i : Int} {l : List UInt8} (h : helpOk n k p l i = false) : helpN n k p l i = 0 := if_neg (by rw [h]; simp)
theorem helpB_no {n k p i : Int} {l : List UInt8} (h : helpOk n k p l i = false) : helpB n k p l i = 0 := if_neg (by rw [h]; simp)
theorem helpN_yes {n k p i : Int} {l : List UInt8} (h : helpOk n k p l i = true) : helpN n k p l i = p := if_pos h
theorem helpB_yes {n p : Int} {a i : Nat} {l : List UInt8} (h : helpOk n ((a : Int) + 1) p l i = true) : helpB n ((a : Int) + 1) p l i = dotL l (shortL a i) := by unfold helpB; rw [if_pos h]; congr 2; omega
def RetHelp (w : World) (a : Int) (b : UInt8) (ok : Bool) (e : Ending) (w' : World) : Prop := e = .returned (.tuple #[.agg #[.int .i64 a, .int .u8 (b.toNat : Int)], .bool ok]) ∧ TurnIn 0 0 w w'
theorem hAlloc {w2 W : World} {a : Addr} {x : Value} (h : Below w2.heap.size w2 W ∧ W.cell? a = some x) (ha : a.block < w2.heap.size) (o : Obj) : Below w2.heap.size w2 (W.alloc o) ∧ (W.alloc o).cell? a = some x := by
  have hb := h.1.alloc h.1.size o
  exact ⟨hb, (((Below.refl _ W).alloc (Nat.le_refl _) o).cell (p := a) (Nat.lt_of_lt_of_le ha h.1.size)).trans h.2⟩
theorem hTurn {w2 W W' : World} {a : Addr} {x : Value} (h : Below w2.heap.size w2 W ∧ W.cell? a = some x) (ha : a.block < w2.heap.size) (k : TurnIn 0 0 W W') : Below w2.heap.size w2 W' ∧ W'.cell? a = some x :=
  ⟨k.base h.1 h.1.size (by omega), (k.to_below.cell (p := a) (Nat.lt_of_lt_of_le ha h.1.size)).trans h.2⟩
end G294
namespace Go.Proofs.YtfglkgeeelapgaaDoor
open Go.RowKit G294

end Go.Proofs.YtfglkgeeelapgaaDoor

/- HelpFor, the program's. -/
namespace G294
open Go Go.RowKit
theorem alloc_frz (w : World) (cs : Array Value) (T : TypeId) (o : Nat) : (w.alloc (.cells cs T)).frozen? ⟨w.heap.size, o, none⟩ = false := by simp
end G294
namespace Go.Proofs.YtfglkgeeelapgaaDoor
open Go.RowKit G294

end Go.Proofs.YtfglkgeeelapgaaDoor
