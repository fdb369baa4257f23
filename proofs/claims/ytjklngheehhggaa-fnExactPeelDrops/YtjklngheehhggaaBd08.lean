/- Joined texts: Grew, PlusT, Loc, OpenLoc, OpenMsr, StrpMem, SplitMath. -/
import Derived.Test.YtjklngheehhggaaBd00
import Derived.Test.YtjklngheehhggaaBd02
import Derived.Deep.QuietTactic
import Derived.Test.YtjklngheehhggaaBd07
import Derived.Deep.RegionHeld3
import Derived.Test.YtjklngheehhggaaBd06
import Derived.Test.YtjklngheehhggaaProg
import Derived.Lib.SmallJoins
import Derived.Test.YtjklngheehhggaaBd05
import Derived.Test.YtjklngheehhggaaBd01
set_option linter.unusedSimpArgs false
set_option linter.unusedVariables false
/- Regions that draw their order, whose operations read and whose callees lay new memory alone and answer the same in all such worlds. -/
namespace G294
open Go Go.RowKit
structure Grew (w : World) where
  at_ : World
  old : Below w.heap.size w at_
instance (w : World) : Inhabited (Grew w) := ⟨⟨w, Below.refl _ _⟩⟩
instance (w : World) : Nonempty (Grew w) := ⟨default⟩
theorem wp_region_grew {P : Program} {id : Nat} {Q : Exit → Act → World → Prop} {a : Act} {w : World} {l : List Oper} (hm : P.follows .mixedOrders = true) (hB : Region.lexB .any l.toArray = true)
    (h : wpQuiet P l.toArray (fun w' => ∃ p : Grew w, w' = p.at_) (fun a' => ∀ w', (∃ p : Grew w, w' = p.at_) → Q .normal a' w') l a) : (Code.region id l.toArray true).wp P Q a w :=
  wp_region_quiet (C := fun w' => ∃ p : Grew w, w' = p.at_) hm hB ⟨⟨w.drew, (Below.refl _ _).drew⟩, rfl⟩ (by simpa using h)
theorem grew_bool {P : Program} {f : FuncId} {args : Array Value} {w : World} {p : Grew w} {b : Bool} (h : Calls P f args p.at_ (RetBool p.at_ b)) :
    Calls P f args p.at_ fun e w'' => e = .returned (.bool b) ∧ ∃ q : Grew w, w'' = q.at_ :=
  h.mono fun _ w'' ⟨he, ht⟩ => ⟨he, ⟨w'', ht.base p.old p.old.size (by omega)⟩, rfl⟩
theorem grew_cell {w : World} {B o : Nat} {x : Value} (h : w.cell? ⟨B, o, none⟩ = some x) (hB : B < w.heap.size) (p : Grew w) : p.at_.cell? ⟨B, o, none⟩ = some x := (p.old.cell (p := ⟨B, o, none⟩) hB).trans h
end G294

/- plusTimes, and the methods that make the texts of a product, a sum, a merge and a change. -/
namespace G294
open Go Go.RowKit
/-- a text plus a multiple of an equally long one -/
def plusL (a : List UInt8) (f : UInt8) (b : List UInt8) : List UInt8 := mkRow a.length fun p => a.getD p 0 ^^^ gmul f (b.getD p 0)
@[simp] theorem plusL_length (a : List UInt8) (f : UInt8) (b : List UInt8) : (plusL a f b).length = a.length := by simp [plusL]
theorem comb_plus (a b : List UInt8) (f : UInt8) : comb 2 a.length (fun j => if j = 0 then 1 else f) [a, b] = plusL a f b := by
  refine mkRow_congr fun p hp => ?_
  rw [combF_succ, combF_succ]
  show (0 ^^^ gmul 1 (a.getD p 0)) ^^^ gmul f (b.getD p 0) = _
  rw [gmul_one_left, UInt8.zero_xor]
theorem mkRow_two (f : UInt8) : mkRow 2 (fun j => if j = 0 then 1 else f) = [1, f] := by simp [mkRow, List.range_succ]
end G294
namespace Go.Proofs.Ytjklngheehhggaa
open Go.RowKit G294

end Go.Proofs.Ytjklngheehhggaa

/- Local codes: their numbers; the program's and the model's GoodLocal. -/
namespace G294
open Go Go.RowKit
def numOk (n : Int) : Bool := decide (1 ≤ n ∧ n ≤ 4)
def locOk (g e q : Int) : Bool := numOk g && numOk e && numOk q && decide (g * e ≤ 8)
/-- a local code as a value -/
abbrev locV (g e q : Int) : Value := .agg #[.int .i64 g, .int .i64 e, .int .i64 q]
theorem mul_bd {a b : Int} (h1 : 1 ≤ a ∧ a ≤ 4) (h2 : 1 ≤ b ∧ b ≤ 4) : 1 ≤ a * b ∧ a * b ≤ 16 := by
  obtain ⟨h1, h1'⟩ := h1
  obtain ⟨h2, h2'⟩ := h2
  have e1 : a = 1 ∨ a = 2 ∨ a = 3 ∨ a = 4 := by omega
  rcases e1 with rfl | rfl | rfl | rfl <;> omega
theorem numOk_b {n : Int} (h : numOk n = true) : 1 ≤ n ∧ n ≤ 4 := by simpa [numOk] using h
theorem locOk_b {g e q : Int} (h : locOk g e q = true) : ((1 ≤ g ∧ g ≤ 4) ∧ (1 ≤ e ∧ e ≤ 4)) ∧ (1 ≤ q ∧ q ≤ 4) ∧ 1 ≤ g * e ∧ g * e ≤ 8 := by
  have h' : (((1 ≤ g ∧ g ≤ 4) ∧ (1 ≤ e ∧ e ≤ 4)) ∧ (1 ≤ q ∧ q ≤ 4)) ∧ g * e ≤ 8 := by simpa [locOk, numOk] using h
  exact ⟨h'.1.1, h'.1.2, (mul_bd h'.1.1.1 h'.1.1.2).1, h'.2⟩
end G294
namespace Go.Proofs.Ytjklngheehhggaa
open Go.RowKit G294

end Go.Proofs.Ytjklngheehhggaa

/- From the readings of a law's arguments to what its walk asks: a struct of three ints. -/
namespace G294
open Go Go.ChangeShapes Go.WideShapes Go.ChangeAt Go.RowKit Go.Deep Go.Joins
section
variable {H : Type} {enc : TypeId × Value → H} {P : Program} {W : World} {base : Nat} {t : TypeId} {v : Value} {d : DataW H} {p : List MemPlace} {f0 f1 f2 : Field}
theorem open_three (hs : P.underlying t = some (.struct #[f0, f1, f2])) (hone : oneCellFields P #[f0, f1, f2] = true) (hC : P.cellsOf t = 3) (u0 : P.underlying f0.type = some (.int .i64)) (u1 : P.underlying f1.type = some (.int .i64)) (u2 : P.underlying f2.type = some (.int .i64))
    (hv : Value.okWide P W .any base t v) (h : DataW.Trod enc P W 0 (fun _ => true) true t v d p) : ∃ g e q : Int, v = .agg #[.int .i64 g, .int .i64 e, .int .i64 q] := by
  obtain ⟨v0, v1, v2, y0, y1, y2, n, rfl, _, _, h0, h1, h2⟩ := open_agg3 hs hone hC hv h
  obtain ⟨g, hg, _⟩ := DataW.trod_int u0 h0
  obtain ⟨e, he, _⟩ := DataW.trod_int u1 h1
  obtain ⟨q, hq, _⟩ := DataW.trod_int u2 h2
  simp only [List.cons.injEq, and_true] at hg he hq
  exact ⟨g, e, q, by rw [hg, he, hq]⟩
end
theorem alloc_tri0 (w : World) (x y z : Value) (T : TypeId) : (w.alloc (.cells #[x, y, z] T)).cell? ⟨w.heap.size, 0, none⟩ = some x := by simp
theorem alloc_tri1 (w : World) (x y z : Value) (T : TypeId) : (w.alloc (.cells #[x, y, z] T)).cell? ⟨w.heap.size, 1, none⟩ = some y := by simp
theorem alloc_tri2 (w : World) (x y z : Value) (T : TypeId) : (w.alloc (.cells #[x, y, z] T)).cell? ⟨w.heap.size, 2, none⟩ = some z := by simp
theorem alloc_ltT (w : World) (o : Obj) : w.heap.size < (w.alloc o).heap.size := by simp
theorem cell_keepT {w w' : World} {B o a b : Nat} {x : Value} (h : w.cell? ⟨B, o, none⟩ = some x) (hl : B < w.heap.size) (t : TurnIn a b w w') (d : B < a ∨ b ≤ B) : w'.cell? ⟨B, o, none⟩ = some x :=
  (World.cell?_of_block (t.block B hl (by omega))).trans h
end G294

/- From the readings of a law's arguments to what its walk asks: a struct of two ints. -/
namespace G294
open Go Go.ChangeShapes Go.WideShapes Go.ChangeAt Go.RowKit Go.Deep Go.Joins
section
variable {H : Type} {enc : TypeId × Value → H} {P : Program} {W : World} {base : Nat} {t : TypeId} {v : Value} {d : DataW H} {p : List MemPlace} {f0 f1 : Field}
theorem open_two (hs : P.underlying t = some (.struct #[f0, f1])) (hone : oneCellFields P #[f0, f1] = true) (hC : P.cellsOf t = 2) (u0 : P.underlying f0.type = some (.int .i64)) (u1 : P.underlying f1.type = some (.int .i64))
    (hv : Value.okWide P W .any base t v) (h : DataW.Trod enc P W 0 (fun _ => true) true t v d p) : ∃ g e : Int, v = .agg #[.int .i64 g, .int .i64 e] := by
  obtain ⟨v0, v1, y0, y1, n, rfl, _, _, h0, h1⟩ := open_agg2 hs hone hC hv h
  obtain ⟨g, hg, _⟩ := DataW.trod_int u0 h0
  obtain ⟨e, he, _⟩ := DataW.trod_int u1 h1
  simp only [List.cons.injEq, and_true] at hg he
  exact ⟨g, e, by rw [hg, he]⟩
end
end G294

/- Stripes in memory: two slices of texts. -/
namespace G294
open Go Go.RowKit
abbrev Strp := List (List UInt8) × List (List UInt8)
/-- a stripe of the call's own, its blocks from lo to hi: those of its data lie ahead of those of its parities -/
def OwnT (E : TypeId) (w : World) (lo hi : Nat) (v u : Value) (s : Strp) : Prop := ∃ mid, lo ≤ mid ∧ mid ≤ hi ∧ OwnStrs E w lo mid v s.1 ∧ OwnStrs E w mid hi u s.2
section
variable {w w' : World} {lo hi a b : Nat} {v u : Value} {l : List (List UInt8)} {s : Strp} {E : TypeId}
theorem OwnStrs.widerS {lo' hi' : Nat} (h : OwnStrs E w lo hi v l) (h1 : lo' ≤ lo) (h2 : hi ≤ hi') (h3 : hi' ≤ w.heap.size) : OwnStrs E w lo' hi' v l := by
  obtain ⟨o1, o2, o3⟩ := h
  refine ⟨⟨o1.1, ?_⟩, h3, fun g e => Nat.lt_of_lt_of_le (o3 g e) h2⟩
  rcases o1.2 with hn | ⟨g, cap, cur, rfl, hbg, rest⟩
  · exact .inl hn
  · exact .inr ⟨g, cap, cur, rfl, Nat.le_trans h1 hbg, rest⟩
theorem OwnT.keep (h : OwnT E w lo hi v u s) (t : TurnIn a b w w') (d : hi ≤ a ∨ b ≤ lo) : OwnT E w' lo hi v u s := by
  obtain ⟨mid, h1, h2, h3, h4⟩ := h
  exact ⟨mid, h1, h2, h3.keep t (by omega), h4.keep t (by omega)⟩
theorem OwnT.wider {lo' hi' : Nat} (h : OwnT E w lo hi v u s) (h1 : lo' ≤ lo) (h2 : hi ≤ hi') (h3 : hi' ≤ w.heap.size) : OwnT E w lo' hi' v u s := by
  obtain ⟨mid, g1, g2, g3, g4⟩ := h
  exact ⟨mid, by omega, by omega, g3.widerS h1 (Nat.le_refl _) (by omega), g4.widerS (Nat.le_refl _) h2 h3⟩
theorem OwnT.isSlice (h : OwnT E w lo hi v u s) : ∃ A n c A' n' c', v = .slice A n c ∧ u = .slice A' n' c' := by
  obtain ⟨mid, _, _, h3, h4⟩ := h
  obtain ⟨A, n, c, e⟩ := h3.isSlice
  obtain ⟨A', n', c', e'⟩ := h4.isSlice
  exact ⟨_, _, _, _, _, _, e, e'⟩
theorem OwnT.seen1 (h : OwnT E w lo hi v u s) : Seen w v (strs s.1) := by
  obtain ⟨mid, _, _, h3, h4⟩ := h
  exact h3.seen
theorem OwnT.seen2 (h : OwnT E w lo hi v u s) : Seen w u (strs s.2) := by
  obtain ⟨mid, _, _, h3, h4⟩ := h
  exact h4.seen
theorem OwnT.nil (E : TypeId) (w : World) (lo : Nat) (h : lo ≤ w.heap.size) : OwnT E w lo w.heap.size (.slice none 0 0) (.slice none 0 0) ([], []) :=
  ⟨w.heap.size, h, Nat.le_refl _, OwnStrs.nil E w lo, OwnStrs.nil E w _⟩
theorem OwnT.of {w1 : World} (h : OwnStrs E w1 w.heap.size w1.heap.size v s.1) (k : OwnStrs E w' w1.heap.size w'.heap.size u s.2) (t : TurnIn 0 0 w1 w') (hw : w.heap.size ≤ w1.heap.size) : OwnT E w' w.heap.size w'.heap.size v u s :=
  ⟨w1.heap.size, hw, t.size, h.keep t (by omega), k⟩
end
def RetT (E : TypeId) (w : World) (s : Strp) (e : Ending) (w' : World) : Prop := ∃ v u, e = .returned (.agg #[v, u]) ∧ OwnT E w' w.heap.size w'.heap.size v u s ∧ TurnIn 0 0 w w'
def RetTOk (E : TypeId) (w : World) (s : Strp) (ok : Bool) (e : Ending) (w' : World) : Prop := ∃ v u, e = .returned (.tuple #[.agg #[v, u], .bool ok]) ∧ OwnT E w' w.heap.size w'.heap.size v u s ∧ TurnIn 0 0 w w'
def marksT (k n m : Nat) : Strp := (marksS k n, marksS (k + n) m)
def RetMarkT (E : TypeId) (w : World) (lo hi : Nat) (v u : Value) (k n m : Nat) (e : Ending) (w' : World) : Prop :=
  e = .returned (.int .i64 ((k + (n + m) : Nat) : Int)) ∧ OwnT E w' lo hi v u (marksT k n m) ∧ TurnIn lo hi w w'
def totT (s : Strp) : Nat := (s.1.length + sizM s.1) + (s.2.length + sizM s.2)
theorem totT_le (s : Strp) : s.1.length ≤ totT s ∧ s.2.length ≤ totT s := by unfold totT; omega
end G294
namespace Go.Proofs.Ytjklngheehhggaa
open Go.RowKit G294

end Go.Proofs.Ytjklngheehhggaa

/- The mathematics of SplitText and JoinShards. -/
namespace G294
open Go Go.RowKit
/-- the length of a part -/
def partSize (n k : Nat) : Nat := (n + k - 1) / k
def padded (s : List UInt8) (k : Nat) : List UInt8 := s ++ List.replicate (k * partSize s.length k - s.length) 0
def splitP (s : List UInt8) (k : Nat) (i : Nat) : List UInt8 := ((padded s k).drop (i * partSize s.length k)).take (partSize s.length k)
def splitL (s : List UInt8) (k : Nat) : List (List UInt8) := (List.range k).map (splitP s k)
def splitOk (s : List UInt8) (k : Int) : Bool := dataOk k && decide ((s.length : Int) ≤ k * 40)
def splitR (s : List UInt8) (k : Int) : List (List UInt8) := if splitOk s k then splitL s k.toNat else []
theorem partSize_mul (n k : Nat) (hk : 1 ≤ k) : n ≤ k * partSize n k := by
  unfold partSize
  have h := Nat.div_add_mod (n + k - 1) k
  have h2 := Nat.mod_lt (n + k - 1) (show 0 < k by omega)
  omega
theorem partSize_le (n k : Nat) (hk : 1 ≤ k) (h : n ≤ k * 40) : partSize n k ≤ 40 := by
  unfold partSize
  have h1 : n + k - 1 < 41 * k := by omega
  have := (Nat.div_lt_iff_lt_mul (show 0 < k by omega)).2 h1
  omega
theorem padded_length (s : List UInt8) (k : Nat) (hk : 1 ≤ k) : (padded s k).length = k * partSize s.length k := by
  have := partSize_mul s.length k hk
  simp [padded]; omega
theorem splitP_length (s : List UInt8) (k i : Nat) (hk : 1 ≤ k) (hi : i < k) : (splitP s k i).length = partSize s.length k := by
  unfold splitP
  rw [List.length_take, List.length_drop, padded_length s k hk]
  have : (i + 1) * partSize s.length k ≤ k * partSize s.length k := Nat.mul_le_mul_right _ hi
  rw [Nat.add_mul] at this
  omega
@[simp] theorem splitL_length (s : List UInt8) (k : Nat) : (splitL s k).length = k := by simp [splitL]
theorem splitL_succ (s : List UInt8) (k i : Nat) : (List.range (i + 1)).map (splitP s k) = (List.range i).map (splitP s k) ++ [splitP s k i] := by simp [List.range_succ]
theorem extract_str (l : List UInt8) (a b : Nat) : (str l).extract a b = str ((l.drop a).take (b - a)) := by
  apply ByteArray.ext
  rw [ByteArray.data_extract]
  apply Array.ext'
  simp [str]
end G294
