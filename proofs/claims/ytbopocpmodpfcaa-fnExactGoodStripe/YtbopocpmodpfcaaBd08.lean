/- Joined texts: Comb, SpecRows, TextsBy, SpecSides, ParMat, Grew, PlusT. -/
import Derived.Test.YtbopocpmodpfcaaBd03
import Derived.Test.YtbopocpmodpfcaaBd07
import Derived.StillTailTactics
import Derived.Test.YtbopocpmodpfcaaBd04
import Derived.Test.YtbopocpmodpfcaaBd06
import Derived.Test.YtbopocpmodpfcaaBd05
import Derived.Test.YtbopocpmodpfcaaBd01
import Derived.Deep.QuietTactic
import Derived.Deep.RegionHeld3
set_option linter.unusedSimpArgs false
set_option linter.unusedVariables false
/- A row of a matrix by texts: the program's combined. -/
namespace G294
open Go Go.RowKit
/-- the product of a row and the bytes of texts -/
def combF (c : Nat) (f : Nat → UInt8) (T : List (List UInt8)) (p : Nat) : UInt8 := sumK c fun j => gmul (f j) (ent T j p)
def comb (c n : Nat) (f : Nat → UInt8) (T : List (List UInt8)) : List UInt8 := mkRow n (combF c f T)
theorem combF_succ (c : Nat) (f : Nat → UInt8) (T : List (List UInt8)) (p : Nat) : combF (c + 1) f T p = combF c f T p ^^^ gmul (f c) (ent T c p) := rfl
theorem str_get (t : List UInt8) (q : Nat) (h : q < (str t).size) : (str t)[q] = t.getD q 0 := by
  have h' : q < t.length := by rwa [str_size] at h
  show t.toArray[q]'(by simpa using h') = _
  simp [List.getD, h']
/-- one byte of a row of the call's own is stored -/
theorem OwnBytes.store {E : TypeId} {w : World} {lo hi g n cap q : Nat} {l l' : List UInt8} {x : UInt8} (h : OwnBytes E w lo hi (.slice (some ⟨g, 0, none⟩) n cap) l) (hn : l.length = n) (e : l.set q x = l') :
    OwnBytes E (w.setCell ⟨g, q, none⟩ (.int .u8 (x.toNat : Int))) lo hi (.slice (some ⟨g, 0, none⟩) n cap) l' := by
  have h1 := h.1
  rw [hn] at h1
  have hst := h1.stored q (.int .u8 (x.toNat : Int))
  refine ⟨?_, by simpa using h.2.1, h.2.2⟩
  have e2 : bys l' = (bys l).set q (.int .u8 (x.toNat : Int)) := by rw [← e]; simp [bys, List.map_set]
  have e3 : l'.length = n := by rw [← e]; simpa using hn
  rw [e2, e3]
  exact hst.1
theorem comb_step (n j q : Nat) (f : Nat → UInt8) (T : List (List UInt8)) : (mkRow n fun p => if p < q then combF (j + 1) f T p else combF j f T p).set q (combF (j + 1) f T q) = mkRow n fun p => if p < q + 1 then combF (j + 1) f T p else combF j f T p := by
  rw [mkRow_set]
  apply mkRow_congr
  intro p hp
  by_cases e : p = q
  · subst e; simp
  · rw [if_neg e]
    by_cases h2 : p < q
    · rw [if_pos h2, if_pos (by omega)]
    · rw [if_neg h2, if_neg (by omega)]
end G294
namespace Go.Proofs.Ytbopocpmodpfcaa
open Go.RowKit G294

end Go.Proofs.Ytbopocpmodpfcaa

/- A matrix by texts: the model's l3Rows. -/
namespace G294
open Go Go.RowKit
/-- the texts that a matrix makes of texts -/
def rowsT (r c n : Nat) (F : Ents) (T : List (List UInt8)) : List (List UInt8) := mkM r n fun i => combF c (F i) T
@[simp] theorem rowsT_length (r c n : Nat) (F : Ents) (T : List (List UInt8)) : (rowsT r c n F T).length = r := by simp [rowsT]
theorem rowsT_succ (r c n : Nat) (F : Ents) (T : List (List UInt8)) : rowsT (r + 1) c n F T = rowsT r c n F T ++ [comb c n (F r) T] := by simp [rowsT, mkM, comb, List.range_succ]
end G294
namespace Go.Proofs.Ytbopocpmodpfcaa
open Go.RowKit G294

end Go.Proofs.Ytbopocpmodpfcaa

/- textsBy: a list of texts by a method value; copies, products, sums. -/
namespace G294
open Go Go.RowKit
/-- the function value g, bound to rcv, hands back F i at i; it turns nothing old -/
def TextAt (P : Program) (g : Nat) (rcv : Value) (n : Nat) (F : Nat → List UInt8) (w : World) : Prop :=
  ∀ (W : World) (i : Nat), Below w.heap.size w W → i < n → Calls P g #[rcv, .int .i64 i] W (RetStr W (F i))
theorem TextAt.later {P : Program} {g : Nat} {rcv : Value} {n : Nat} {F : Nat → List UInt8} {w W : World} (h : TextAt P g rcv n F w) (hb : Below w.heap.size w W) : TextAt P g rcv n F W :=
  fun W' i hb' hi => h W' i (hb.trans (hb'.mono hb.size)) hi
def textsF (n : Nat) (F : Nat → List UInt8) : List (List UInt8) := (List.range n).map F
@[simp] theorem textsF_length (n : Nat) (F : Nat → List UInt8) : (textsF n F).length = n := by simp [textsF]
theorem textsF_get (n : Nat) (F : Nat → List UInt8) (k : Nat) (h : k < n) : (strs (textsF n F))[k]? = some (.string (str (F k))) := by simp [textsF, strs, h]
theorem textsF_getD (n : Nat) (F : Nat → List UInt8) (k : Nat) (h : k < n) : (textsF n F).getD k [] = F k := by simp [textsF, List.getD, h]
theorem textsF_self (L : List (List UInt8)) : textsF L.length (fun i => L.getD i []) = L := by
  refine List.ext_getElem (by simp) fun i h1 h2 => ?_
  simp [textsF, List.getD, h2]
theorem textsF_congr {n : Nat} {F G : Nat → List UInt8} (h : ∀ i, i < n → F i = G i) : textsF n F = textsF n G := by
  refine List.map_congr_left fun i hi => h i (by simpa using hi)
theorem textsF_rows (r c n : Nat) (F : Ents) (T : List (List UInt8)) : textsF r (fun i => comb c n (F i) T) = rowsT r c n F T := by
  simp [textsF, rowsT, mkM, comb]
end G294
namespace Go.Proofs.Ytbopocpmodpfcaa
open Go.RowKit G294

end Go.Proofs.Ytbopocpmodpfcaa

/- The model's Identity, Vandermonde and Cauchy. -/
namespace Go.Proofs.Ytbopocpmodpfcaa
open Go.RowKit G294

end Go.Proofs.Ytbopocpmodpfcaa

/- The matrix of the parities: the program's and the model's. -/
namespace G294
open Go Go.RowKit
def prmF (i j : Nat) : UInt8 := powB (powB 3 i) j
def par4 (m : Int) : Bool := decide (1 ≤ m ∧ m ≤ 4)
def prmOk (k m : Int) : Bool := goodI k && par4 m
def prmR (k m : Int) : Mat := if prmOk k m = true then mkM m.toNat k.toNat prmF else []
theorem prmR_siz (k m : Int) : sizM (prmR k m) ≤ 256 := by
  unfold prmR; split
  · rename_i h
    simp only [prmOk, goodI, par4, Bool.and_eq_true, decide_eq_true_eq] at h
    exact sizM_side _ (by omega) (by omega)
  · simp [sizM]
end G294
namespace Go.Proofs.Ytbopocpmodpfcaa
open Go.RowKit G294

set_option maxHeartbeats 1000000 in
theorem goodStripeParity_any (n : Int) (w : World) : Calls Try.prog 14 #[.int .i64 n] w fun e w' => e = .returned (.bool (par4 n)) ∧ w = w' := by
  by_cases h1 : 1 ≤ n
  · by_cases h2 : n ≤ 4
    · have H3 : Hid (par4 n = true) := Lib.hid (by simp [par4, h1, h2])
      go_enter Try.func14, Try.ntmps14
      go_wp2_with fail
      go_ret
      exact ⟨by rw [H3.out]; rfl, rfl⟩
    · have H3 : Hid (par4 n = false) := Lib.hid (by simp [par4, h2])
      go_enter Try.func14, Try.ntmps14
      go_wp2_with fail
      go_ret
      exact ⟨by rw [H3.out]; rfl, rfl⟩
  · have H3 : Hid (par4 n = false) := Lib.hid (by simp [par4, h1])
    go_enter Try.func14, Try.ntmps14
    go_wp2_with fail
    go_ret
    exact ⟨by rw [H3.out]; rfl, rfl⟩

theorem l1In_four (n : Int) (w : World) : Calls Try.prog 10 #[.int .i64 n, .int .i64 1, .int .i64 4] w fun e w' => e = .returned (.bool (par4 n)) ∧ w = w' := l1In_any n 1 4 w

end Go.Proofs.Ytbopocpmodpfcaa

/- Regions that draw their order, whose operations read and whose callees lay new memory alone and answer the same in all such worlds. -/
namespace G294
open Go Go.RowKit
structure Grew (w : World) where
  at_ : World
  old : Below w.heap.size w at_
instance (w : World) : Inhabited (Grew w) := ⟨⟨w, Below.refl _ _⟩⟩
instance (w : World) : Nonempty (Grew w) := ⟨default⟩
theorem wp_region_grew {P : Program} {id : Nat} {Q : Exit → Act → World → Prop} {a : Act} {w : World} {l : List Oper} (hm : P.follows .mixedOrders = true) (hB : Region.lexB .any l.toArray = true)
    (h : wpQuiet P l.toArray (fun w' => ∃ p : Grew w, w' = p.at_) (fun a' => ∀ w', (∃ p : Grew w, w' = p.at_) → Q .normal a' w') l a) : (Code.region id l.toArray true).wp P Q a w :=
  wp_region_quiet (C := fun w' => ∃ p : Grew w, w' = p.at_) hm hB ⟨⟨w.drew, (Below.refl _ _).drew⟩, rfl⟩ (by simpa using h)
theorem grew_bool {P : Program} {f : FuncId} {args : Array Value} {w : World} {p : Grew w} {b : Bool} (h : Calls P f args p.at_ (RetBool p.at_ b)) :
    Calls P f args p.at_ fun e w'' => e = .returned (.bool b) ∧ ∃ q : Grew w, w'' = q.at_ :=
  h.mono fun _ w'' ⟨he, ht⟩ => ⟨he, ⟨w'', ht.base p.old p.old.size (by omega)⟩, rfl⟩
theorem grew_cell {w : World} {B o : Nat} {x : Value} (h : w.cell? ⟨B, o, none⟩ = some x) (hB : B < w.heap.size) (p : Grew w) : p.at_.cell? ⟨B, o, none⟩ = some x := (p.old.cell (p := ⟨B, o, none⟩) hB).trans h
end G294

/- plusTimes, and the methods that make the texts of a product, a sum, a merge and a change. -/
namespace G294
open Go Go.RowKit
/-- a text plus a multiple of an equally long one -/
def plusL (a : List UInt8) (f : UInt8) (b : List UInt8) : List UInt8 := mkRow a.length fun p => a.getD p 0 ^^^ gmul f (b.getD p 0)
@[simp] theorem plusL_length (a : List UInt8) (f : UInt8) (b : List UInt8) : (plusL a f b).length = a.length := by simp [plusL]
theorem comb_plus (a b : List UInt8) (f : UInt8) : comb 2 a.length (fun j => if j = 0 then 1 else f) [a, b] = plusL a f b := by
  refine mkRow_congr fun p hp => ?_
  rw [combF_succ, combF_succ]
  show (0 ^^^ gmul 1 (a.getD p 0)) ^^^ gmul f (b.getD p 0) = _
  rw [gmul_one_left, UInt8.zero_xor]
theorem mkRow_two (f : UInt8) : mkRow 2 (fun j => if j = 0 then 1 else f) = [1, f] := by simp [mkRow, List.range_succ]
end G294
namespace Go.Proofs.Ytbopocpmodpfcaa
open Go.RowKit G294

end Go.Proofs.Ytbopocpmodpfcaa
