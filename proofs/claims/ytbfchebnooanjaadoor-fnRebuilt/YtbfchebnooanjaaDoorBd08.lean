/- Joined texts: VecDot, HelpW, HelpI, TextsBy, SpecSides, ParMat, Grew. -/
import Derived.Test.YtbfchebnooanjaaDoorBd04
import Derived.Test.YtbfchebnooanjaaDoorBd07
import Derived.Deep.RegionHeld3
import Derived.Test.YtbfchebnooanjaaDoorBd05
import Derived.Test.YtbfchebnooanjaaDoorBd06
import Derived.Test.YtbfchebnooanjaaDoorBd00
import Derived.Test.YtbfchebnooanjaaDoorBd02
import Derived.Deep.QuietTactic
set_option linter.unusedSimpArgs false
set_option linter.unusedVariables false
/- Contracts of DotVectors, the program's and the model's. -/
namespace Go.Proofs.YtbfchebnooanjaaDoor
open Go.RowKit G294

end Go.Proofs.YtbfchebnooanjaaDoor

/- HelpFor, the program's and the model's: pieces, helps. -/
namespace G294
open Go Go.RowKit
abbrev pieV (p : Int) (v : Value) : Value := .agg #[.int .i64 p, v]
def piOk (n k p : Int) (l : List UInt8) : Bool := nodeOk n k p && decide ((l.length : Int) = k - 1)
def helpOk (n k p : Int) (l : List UInt8) (i : Int) : Bool := piOk n k p l && nodeOk n k i && !(p == i)
def helpN (n k p : Int) (l : List UInt8) (i : Int) : Int := if helpOk n k p l i = true then p else 0
def helpB (n k p : Int) (l : List UInt8) (i : Int) : UInt8 := if helpOk n k p l i = true then dotL l (shortL (k - 1).toNat i.toNat) else 0
theorem helpN_no {n k p i : Int} {l : List UInt8} (h : helpOk n k p l i = false) : helpN n k p l i = 0 := if_neg (by rw [h]; simp)
theorem helpB_no {n k p i : Int} {l : List UInt8} (h : helpOk n k p l i = false) : helpB n k p l i = 0 := if_neg (by rw [h]; simp)
theorem helpN_yes {n k p i : Int} {l : List UInt8} (h : helpOk n k p l i = true) : helpN n k p l i = p := if_pos h
theorem helpB_yes {n p : Int} {a i : Nat} {l : List UInt8} (h : helpOk n ((a : Int) + 1) p l i = true) : helpB n ((a : Int) + 1) p l i = dotL l (shortL a i) := by unfold helpB; rw [if_pos h]; congr 2; omega
def RetHelp (w : World) (a : Int) (b : UInt8) (ok : Bool) (e : Ending) (w' : World) : Prop := e = .returned (.tuple #[.agg #[.int .i64 a, .int .u8 (b.toNat : Int)], .bool ok]) ∧ TurnIn 0 0 w w'
theorem hAlloc {w2 W : World} {a : Addr} {x : Value} (h : Below w2.heap.size w2 W ∧ W.cell? a = some x) (ha : a.block < w2.heap.size) (o : Obj) : Below w2.heap.size w2 (W.alloc o) ∧ (W.alloc o).cell? a = some x := by
  have hb := h.1.alloc h.1.size o
  exact ⟨hb, (((Below.refl _ W).alloc (Nat.le_refl _) o).cell (p := a) (Nat.lt_of_lt_of_le ha h.1.size)).trans h.2⟩
theorem hTurn {w2 W W' : World} {a : Addr} {x : Value} (h : Below w2.heap.size w2 W ∧ W.cell? a = some x) (ha : a.block < w2.heap.size) (k : TurnIn 0 0 W W') : Below w2.heap.size w2 W' ∧ W'.cell? a = some x :=
  ⟨k.base h.1 h.1.size (by omega), (k.to_below.cell (p := a) (Nat.lt_of_lt_of_le ha h.1.size)).trans h.2⟩
end G294
namespace Go.Proofs.YtbfchebnooanjaaDoor
open Go.RowKit G294

end Go.Proofs.YtbfchebnooanjaaDoor

/- HelpFor, the program's. -/
namespace G294
open Go Go.RowKit
theorem alloc_frz (w : World) (cs : Array Value) (T : TypeId) (o : Nat) : (w.alloc (.cells cs T)).frozen? ⟨w.heap.size, o, none⟩ = false := by simp
end G294
namespace Go.Proofs.YtbfchebnooanjaaDoor
open Go.RowKit G294

end Go.Proofs.YtbfchebnooanjaaDoor

/- textsBy: a list of texts by a method value; copies, products, sums. -/
namespace G294
open Go Go.RowKit
/-- the function value g, bound to rcv, hands back F i at i; it turns nothing old -/
def TextAt (P : Program) (g : Nat) (rcv : Value) (n : Nat) (F : Nat → List UInt8) (w : World) : Prop :=
  ∀ (W : World) (i : Nat), Below w.heap.size w W → i < n → Calls P g #[rcv, .int .i64 i] W (RetStr W (F i))
theorem TextAt.later {P : Program} {g : Nat} {rcv : Value} {n : Nat} {F : Nat → List UInt8} {w W : World} (h : TextAt P g rcv n F w) (hb : Below w.heap.size w W) : TextAt P g rcv n F W :=
  fun W' i hb' hi => h W' i (hb.trans (hb'.mono hb.size)) hi
def textsF (n : Nat) (F : Nat → List UInt8) : List (List UInt8) := (List.range n).map F
@[simp] theorem textsF_length (n : Nat) (F : Nat → List UInt8) : (textsF n F).length = n := by simp [textsF]
theorem textsF_get (n : Nat) (F : Nat → List UInt8) (k : Nat) (h : k < n) : (strs (textsF n F))[k]? = some (.string (str (F k))) := by simp [textsF, strs, h]
theorem textsF_getD (n : Nat) (F : Nat → List UInt8) (k : Nat) (h : k < n) : (textsF n F).getD k [] = F k := by simp [textsF, List.getD, h]
theorem textsF_self (L : List (List UInt8)) : textsF L.length (fun i => L.getD i []) = L := by
  refine List.ext_getElem (by simp) fun i h1 h2 => ?_
  simp [textsF, List.getD, h2]
theorem textsF_congr {n : Nat} {F G : Nat → List UInt8} (h : ∀ i, i < n → F i = G i) : textsF n F = textsF n G := by
  refine List.map_congr_left fun i hi => h i (by simpa using hi)
theorem textsF_rows (r c n : Nat) (F : Ents) (T : List (List UInt8)) : textsF r (fun i => comb c n (F i) T) = rowsT r c n F T := by
  simp [textsF, rowsT, mkM, comb]
end G294
namespace Go.Proofs.YtbfchebnooanjaaDoor
open Go.RowKit G294

end Go.Proofs.YtbfchebnooanjaaDoor

/- The model's Identity, Vandermonde and Cauchy. -/
namespace Go.Proofs.YtbfchebnooanjaaDoor
open Go.RowKit G294

end Go.Proofs.YtbfchebnooanjaaDoor

/- The matrix of the parities: the program's and the model's. -/
namespace G294
open Go Go.RowKit
def prmF (i j : Nat) : UInt8 := powB (powB 3 i) j
def par4 (m : Int) : Bool := decide (1 ≤ m ∧ m ≤ 4)
def prmOk (k m : Int) : Bool := goodI k && par4 m
def prmR (k m : Int) : Mat := if prmOk k m = true then mkM m.toNat k.toNat prmF else []
theorem prmR_siz (k m : Int) : sizM (prmR k m) ≤ 256 := by
  unfold prmR; split
  · rename_i h
    simp only [prmOk, goodI, par4, Bool.and_eq_true, decide_eq_true_eq] at h
    exact sizM_side _ (by omega) (by omega)
  · simp [sizM]
end G294
namespace Go.Proofs.YtbfchebnooanjaaDoor
open Go.RowKit G294

theorem l1In_four (n : Int) (w : World) : Calls Tryd.prog 29 #[.int .i64 n, .int .i64 1, .int .i64 4] w fun e w' => e = .returned (.bool (par4 n)) ∧ w = w' := l1In_any n 1 4 w

end Go.Proofs.YtbfchebnooanjaaDoor

/- Regions that draw their order, whose operations read and whose callees lay new memory alone and answer the same in all such worlds. -/
namespace G294
open Go Go.RowKit
structure Grew (w : World) where
  at_ : World
  old : Below w.heap.size w at_
instance (w : World) : Inhabited (Grew w) := ⟨⟨w, Below.refl _ _⟩⟩
instance (w : World) : Nonempty (Grew w) := ⟨default⟩
theorem wp_region_grew {P : Program} {id : Nat} {Q : Exit → Act → World → Prop} {a : Act} {w : World} {l : List Oper} (hm : P.follows .mixedOrders = true) (hB : Region.lexB .any l.toArray = true)
    (h : wpQuiet P l.toArray (fun w' => ∃ p : Grew w, w' = p.at_) (fun a' => ∀ w', (∃ p : Grew w, w' = p.at_) → Q .normal a' w') l a) : (Code.region id l.toArray true).wp P Q a w :=
  wp_region_quiet (C := fun w' => ∃ p : Grew w, w' = p.at_) hm hB ⟨⟨w.drew, (Below.refl _ _).drew⟩, rfl⟩ (by simpa using h)
theorem grew_bool {P : Program} {f : FuncId} {args : Array Value} {w : World} {p : Grew w} {b : Bool} (h : Calls P f args p.at_ (RetBool p.at_ b)) :
    Calls P f args p.at_ fun e w'' => e = .returned (.bool b) ∧ ∃ q : Grew w, w'' = q.at_ :=
  h.mono fun _ w'' ⟨he, ht⟩ => ⟨he, ⟨w'', ht.base p.old p.old.size (by omega)⟩, rfl⟩
theorem grew_cell {w : World} {B o : Nat} {x : Value} (h : w.cell? ⟨B, o, none⟩ = some x) (hB : B < w.heap.size) (p : Grew w) : p.at_.cell? ⟨B, o, none⟩ = some x := (p.old.cell (p := ⟨B, o, none⟩) hB).trans h
end G294
