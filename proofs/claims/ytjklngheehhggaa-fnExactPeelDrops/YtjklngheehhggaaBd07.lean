/- Joined texts: NodeRow2, VecDot, HelpW, HelpI, TextsBy, SpecSides, ParMat. -/
import Derived.Test.YtjklngheehhggaaBd06
import Derived.Test.YtjklngheehhggaaBd03
import Derived.Test.YtjklngheehhggaaBd02
import Derived.Deep.RegionHeld3
import Derived.Test.YtjklngheehhggaaBd04
import Derived.Test.YtjklngheehhggaaBd05
set_option linter.unusedSimpArgs false
set_option linter.unusedVariables false
/- MsrRow, the program's and the model's. -/
namespace G294
open Go Go.RowKit
/-- a literal of two bytes -/
theorem seen_duo (w : World) (x y : UInt8) (T : TypeId) : Seen (w.alloc (.cells #[.int .u8 (x.toNat : Int), .int .u8 (y.toNat : Int)] T)) (.slice (some ⟨w.heap.size, 0, none⟩) 2 2) (bys [x, y]) := by
  refine ⟨_, _, rfl, by simp [bys], by unfold maxLen; omega, fun _ => ⟨w.heap.size, 0, rfl, by simp, fun i u hu => ?_⟩⟩
  match i, hu with
  | 0, hu => simp only [bys, List.map_cons, List.getElem?_cons_zero, Option.some.injEq] at hu; subst hu; exact alloc_duo0 _ _ _ _
  | 1, hu => simp only [bys, List.map_cons, List.getElem?_cons_succ, List.getElem?_cons_zero, Option.some.injEq] at hu; subst hu; exact alloc_duo1 _ _ _ _
  | i + 2, hu => simp [bys] at hu
theorem seen_one (w : World) (x : UInt8) (T : TypeId) : Seen (w.alloc (.cells #[.int .u8 (x.toNat : Int)] T)) (.slice (some ⟨w.heap.size, 0, none⟩) 1 1) (bys [x]) := by
  refine ⟨_, _, rfl, by simp [bys], by unfold maxLen; omega, fun _ => ⟨w.heap.size, 0, rfl, by simp, fun i u hu => ?_⟩⟩
  match i, hu with
  | 0, hu => simp only [bys, List.map_cons, List.getElem?_cons_zero, Option.some.injEq] at hu; subst hu; exact alloc_cell _ _ _
  | i + 1, hu => simp [bys] at hu
end G294
namespace Go.Proofs.Ytjklngheehhggaa
open Go.RowKit G294

end Go.Proofs.Ytjklngheehhggaa

/- Contracts of DotVectors, the program's and the model's. -/
namespace Go.Proofs.Ytjklngheehhggaa
open Go.RowKit G294

end Go.Proofs.Ytjklngheehhggaa

/- HelpFor, the program's and the model's: pieces, helps. -/
namespace G294
open Go Go.RowKit
abbrev pieV (p : Int) (v : Value) : Value := .agg #[.int .i64 p, v]
def piOk (n k p : Int) (l : List UInt8) : Bool := nodeOk n k p && decide ((l.length : Int) = k - 1)
def helpOk (n k p : Int) (l : List UInt8) (i : Int) : Bool := piOk n k p l && nodeOk n k i && !(p == i)
def helpN (n k p : Int) (l : List UInt8) (i : Int) : Int := if helpOk n k p l i = true then p else 0
def helpB (n k p : Int) (l : List UInt8) (i : Int) : UInt8 := if helpOk n k p l i = true then dotL l (shortL (k - 1).toNat i.toNat) else 0
theorem helpN_no {n k p i : Int} {l : List UInt8} (h : helpOk n k p l i = false) : helpN n k p l i = 0 := if_neg (by rw [h]; simp)
theorem helpB_no {n k p i : Int} {l : List UInt8} (h : helpOk n k p l i = false) : helpB n k p l i = 0 := if_neg (by rw [h]; simp)
theorem helpN_yes {n k p i : Int} {l : List UInt8} (h : helpOk n k p l i = true) : helpN n k p l i = p := if_pos h
theorem helpB_yes {n p : Int} {a i : Nat} {l : List UInt8} (h : helpOk n ((a : Int) + 1) p l i = true) : helpB n ((a : Int) + 1) p l i = dotL l (shortL a i) := by unfold helpB; rw [if_pos h]; congr 2; omega
def RetHelp (w : World) (a : Int) (b : UInt8) (ok : Bool) (e : Ending) (w' : World) : Prop := e = .returned (.tuple #[.agg #[.int .i64 a, .int .u8 (b.toNat : Int)], .bool ok]) ∧ TurnIn 0 0 w w'
theorem hAlloc {w2 W : World} {a : Addr} {x : Value} (h : Below w2.heap.size w2 W ∧ W.cell? a = some x) (ha : a.block < w2.heap.size) (o : Obj) : Below w2.heap.size w2 (W.alloc o) ∧ (W.alloc o).cell? a = some x := by
  have hb := h.1.alloc h.1.size o
  exact ⟨hb, (((Below.refl _ W).alloc (Nat.le_refl _) o).cell (p := a) (Nat.lt_of_lt_of_le ha h.1.size)).trans h.2⟩
theorem hTurn {w2 W W' : World} {a : Addr} {x : Value} (h : Below w2.heap.size w2 W ∧ W.cell? a = some x) (ha : a.block < w2.heap.size) (k : TurnIn 0 0 W W') : Below w2.heap.size w2 W' ∧ W'.cell? a = some x :=
  ⟨k.base h.1 h.1.size (by omega), (k.to_below.cell (p := a) (Nat.lt_of_lt_of_le ha h.1.size)).trans h.2⟩
end G294
namespace Go.Proofs.Ytjklngheehhggaa
open Go.RowKit G294

end Go.Proofs.Ytjklngheehhggaa

/- HelpFor, the program's. -/
namespace G294
open Go Go.RowKit
theorem alloc_frz (w : World) (cs : Array Value) (T : TypeId) (o : Nat) : (w.alloc (.cells cs T)).frozen? ⟨w.heap.size, o, none⟩ = false := by simp
end G294
namespace Go.Proofs.Ytjklngheehhggaa
open Go.RowKit G294

end Go.Proofs.Ytjklngheehhggaa

/- textsBy: a list of texts by a method value; copies, products, sums. -/
namespace G294
open Go Go.RowKit
/-- the function value g, bound to rcv, hands back F i at i; it turns nothing old -/
def TextAt (P : Program) (g : Nat) (rcv : Value) (n : Nat) (F : Nat → List UInt8) (w : World) : Prop :=
  ∀ (W : World) (i : Nat), Below w.heap.size w W → i < n → Calls P g #[rcv, .int .i64 i] W (RetStr W (F i))
theorem TextAt.later {P : Program} {g : Nat} {rcv : Value} {n : Nat} {F : Nat → List UInt8} {w W : World} (h : TextAt P g rcv n F w) (hb : Below w.heap.size w W) : TextAt P g rcv n F W :=
  fun W' i hb' hi => h W' i (hb.trans (hb'.mono hb.size)) hi
def textsF (n : Nat) (F : Nat → List UInt8) : List (List UInt8) := (List.range n).map F
@[simp] theorem textsF_length (n : Nat) (F : Nat → List UInt8) : (textsF n F).length = n := by simp [textsF]
theorem textsF_get (n : Nat) (F : Nat → List UInt8) (k : Nat) (h : k < n) : (strs (textsF n F))[k]? = some (.string (str (F k))) := by simp [textsF, strs, h]
theorem textsF_getD (n : Nat) (F : Nat → List UInt8) (k : Nat) (h : k < n) : (textsF n F).getD k [] = F k := by simp [textsF, List.getD, h]
theorem textsF_self (L : List (List UInt8)) : textsF L.length (fun i => L.getD i []) = L := by
  refine List.ext_getElem (by simp) fun i h1 h2 => ?_
  simp [textsF, List.getD, h2]
theorem textsF_congr {n : Nat} {F G : Nat → List UInt8} (h : ∀ i, i < n → F i = G i) : textsF n F = textsF n G := by
  refine List.map_congr_left fun i hi => h i (by simpa using hi)
theorem textsF_rows (r c n : Nat) (F : Ents) (T : List (List UInt8)) : textsF r (fun i => comb c n (F i) T) = rowsT r c n F T := by
  simp [textsF, rowsT, mkM, comb]
end G294
namespace Go.Proofs.Ytjklngheehhggaa
open Go.RowKit G294

set_option maxRecDepth 100000 in
set_option maxHeartbeats 2000000 in
theorem textsBy_own (n g : Nat) (rcv : Value) (F : Nat → List UInt8) (w : World) (eg : ∀ args w, (callFunc g args).run Try.prog w = .ok (.enter g args) w) (hat : TextAt Try.prog g rcv n F w) (hn : n ≤ 1000) :
    Calls Try.prog 74 #[.int .i64 n, .func (.func g) #[rcv] #[]] w (RetStrs 9 w (textsF n F)) := by
  obtain ⟨i0, hi0, hz0, hz1, hz2⟩ := info_parts infoStr
  have HAT := Lib.hid hat
  clear hat
  go_enter Try.func74, Try.ntmps74
  go_wp2_with (at_make; refine wpList_make_full _ rfl _ _ _ rfl w.heap.size _ i0 _ 1 Try.underlying30 hi0 hz0 hz1 _ _ _ _ n rfl rfl rfl rfl ?b2 ?b3 ?b4 ?_)
  case b2 => rw [hz2]; omega
  case b3 => unfold maxLen; omega
  case b4 => exact Nat.le_refl _
  intro w1 hown1 hg1
  have hb1 : Below w.heap.size w w1 := below_of_grown hg1 (Nat.le_refl _) (by simp)
  rw [toList_madeCells_one] at hown1
  clear hg1
  go_wp2_with fail
  go_loopw [11] (fun i wr => ∃ k : Nat, k ≤ n ∧ i = .int .i64 k ∧ wr.ownsRow w.heap.size 9 1 (.slice (some ⟨w.heap.size, 0, none⟩) n n) n ((strs (textsF n F)).take k ++ List.replicate (n - k) (.string ⟨#[]⟩)) ∧ Below w.heap.size w wr)
    (fun i _ => n - (intOf i).toNat)
  case atStart => exact ⟨0, Nat.zero_le _, rfl, by simpa using hown1, hb1⟩
  case round =>
    obtain ⟨k, hk, rfl, hown, hb⟩ := hrel
    clear hown1 hb1
    by_cases hlt : k < n
    · have hki : (k : Int) < (n : Int) := by omega
      have HC := Lib.hid (HAT.out wr k hb hlt)
      have HOW := Lib.hid hown
      have hsz := hb.size
      clear hown
      go_wp2_with fail
      refine HC.out.mono ?_
      rintro e w2 ⟨rfl, ht⟩
      have hown := owns_turn0 HOW.out ht
      have hb2 : Below w.heap.size w w2 := ht.base hb hsz (by omega)
      have hco : w2.cell? ⟨w.heap.size, k, none⟩ = some (.string ⟨#[]⟩) := by
        have ht : ((strs (textsF n F)).take k).length = k := by simp; omega
        rw [hown.cellAt k (by omega), List.getElem?_append_right (by omega), ht, Nat.sub_self, List.getElem?_replicate, if_pos (by omega)]
      have hfr := hown.frozenAt k
      have hst := (hown.stored k (.string (str (F k)))).1
      rw [take_set_next (strs (textsF n F)) _ k _ (textsF_get n F k hlt) (by simp; omega)] at hst
      have HST : Hid ((w2.setCell ⟨w.heap.size, k, none⟩ (.string (str (F k)))).ownsRow w.heap.size 9 1 (.slice (some ⟨w.heap.size, 0, none⟩) n n) n ((strs (textsF n F)).take (k + 1) ++ List.replicate (n - (k + 1)) (.string ⟨#[]⟩))) := Lib.hid (by simpa [Nat.sub_sub] using hst)
      clear hst hown
      go_wp2_with fail
      go_roundw
      case rel => exact ⟨k + 1, by omega, by go_num, HST.out, hb2.setCell (Nat.le_refl _) _⟩
      case measure => simp [intOf]; omega
    · obtain rfl : k = n := by omega
      have hki : ¬ (k : Int) < (k : Int) := by omega
      go_wp2_with fail
      go_ret
      refine ⟨_, rfl, OwnStrs.of_made ?_, TurnIn.of_below hb⟩
      rw [List.take_of_length_le (by simp), Nat.sub_self] at hown
      simpa using hown

set_option maxRecDepth 100000 in
set_option maxHeartbeats 1000000 in
theorem copied_own (v : Value) (L : List (List UInt8)) (i : Nat) (w : World) (hv : Seen w v (strs L)) (hi : i < L.length) (hl : ∀ t ∈ L, t.length ≤ 1000000) : Calls Try.prog 75 #[v, .int .i64 i] w (RetStr w (L.getD i [])) := by
  obtain ⟨A, c, rfl, hlc, hcm, hx⟩ := hv
  rw [strs_length] at hlc hx
  simp only [strs_length]
  unfold maxLen at hcm
  obtain ⟨b, off, rfl, hbl, hcell⟩ := hx (by omega)
  have hcx := hcell i _ (strs_get L i hi)
  have HG : Hid (L.getD i [] = L[i]) := by show _ = _; simp [List.getD, hi]
  have HC := Lib.hid (clone_own L[i] w (hl _ (List.getElem_mem hi)))
  rw [HG.out]
  generalize L[i] = t at *
  have hki : (i : Int) < (L.length : Int) := by omega
  generalize L.length = n at *
  clear hcell hx hl HG
  go_enter Try.func75, Try.ntmps75
  go_wp2_with fail
  refine HC.out.mono ?_
  rintro e w2 ⟨rfl, k⟩
  go_wp2_with fail
  go_ret
  exact ⟨rfl, k⟩

set_option maxRecDepth 100000 in
set_option maxHeartbeats 1000000 in
theorem copiesOf_own (v : Value) (L : List (List UInt8)) (w : World) (hv : Seen w v (strs L)) (hn : L.length ≤ 1000) (hl : ∀ t ∈ L, t.length ≤ 1000000) : Calls Try.prog 68 #[v] w (RetStrs 9 w L) := by
  have eg := enters_of Try.func75 (by kernel_rfl) rfl
  have HT := Lib.hid (textsBy_own L.length 75 v (fun i => L.getD i []) w eg (fun W i hb hi => copied_own v L i W (hv.below hb) hi hl) hn)
  rw [textsF_self] at HT
  obtain ⟨A, c, hvv⟩ := hv.len
  rw [strs_length] at hvv
  subst hvv
  clear hv hl
  generalize L.length = n at *
  go_enter Try.func68, Try.ntmps68
  go_wp2_with fail
  refine HT.out.mono ?_
  rintro e w2 ⟨u, rfl, ho, k⟩
  go_wp2_with fail
  go_ret
  exact ⟨u, rfl, ho, k⟩

end Go.Proofs.Ytjklngheehhggaa

/- The model's Identity, Vandermonde and Cauchy. -/
namespace Go.Proofs.Ytjklngheehhggaa
open Go.RowKit G294

end Go.Proofs.Ytjklngheehhggaa

/- The matrix of the parities: the program's and the model's. -/
namespace G294
open Go Go.RowKit
def prmF (i j : Nat) : UInt8 := powB (powB 3 i) j
def par4 (m : Int) : Bool := decide (1 ≤ m ∧ m ≤ 4)
def prmOk (k m : Int) : Bool := goodI k && par4 m
def prmR (k m : Int) : Mat := if prmOk k m = true then mkM m.toNat k.toNat prmF else []
theorem prmR_siz (k m : Int) : sizM (prmR k m) ≤ 256 := by
  unfold prmR; split
  · rename_i h
    simp only [prmOk, goodI, par4, Bool.and_eq_true, decide_eq_true_eq] at h
    exact sizM_side _ (by omega) (by omega)
  · simp [sizM]
end G294
namespace Go.Proofs.Ytjklngheehhggaa
open Go.RowKit G294

theorem l1In_four (n : Int) (w : World) : Calls Try.prog 28 #[.int .i64 n, .int .i64 1, .int .i64 4] w fun e w' => e = .returned (.bool (par4 n)) ∧ w = w' := l1In_any n 1 4 w

end Go.Proofs.Ytjklngheehhggaa
