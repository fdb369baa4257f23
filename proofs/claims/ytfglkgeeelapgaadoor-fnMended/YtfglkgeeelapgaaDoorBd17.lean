/- Joined texts: DecBy, Decode, Remade, RebMath, ChkMath, AnyFew, Same3. -/
import Derived.Test.YtfglkgeeelapgaaDoorBd16
import Derived.Test.YtfglkgeeelapgaaDoorBd08
import Derived.Deep.CutRange
import Derived.Maps.AppendAt
import Derived.Test.YtfglkgeeelapgaaDoorBd15
import Derived.Test.YtfglkgeeelapgaaDoorBd14
import Derived.Test.YtfglkgeeelapgaaDoorBd11
import Derived.Test.YtfglkgeeelapgaaDoorBd13
import Derived.Deep.QuietTactic
import Derived.BigQuiet
import Derived.Test.YtfglkgeeelapgaaDoorBd02
import Derived.Test.YtfglkgeeelapgaaDoorBd12
import Derived.IntWalk
set_option linter.unusedSimpArgs false
set_option linter.unusedVariables false
/- decodedBy, the program's. -/
namespace G294
open Go Go.RowKit
/-- the rows that shards name -/
def usedM (L : Mat) (l : List Sh) : Mat := pickM L (l.map (·.1))
def dbOk (L : Mat) (l : List Sh) : Bool := invOk (usedM L l)
def dbR (L : Mat) (l : List Sh) (n : Nat) : List (List UInt8) := if dbOk L l = true then rowsT l.length l.length n (invF (usedM L l)) (l.map (·.2)) else []
theorem dbR_no {L : Mat} {l : List Sh} {n : Nat} (h : dbOk L l = false) : dbR L l n = [] := if_neg (by rw [h]; simp)
theorem dbR_yes {L : Mat} {l : List Sh} {n : Nat} (h : dbOk L l = true) : dbR L l n = rowsT l.length l.length n (invF (usedM L l)) (l.map (·.2)) := if_pos h
@[simp] theorem usedM_length (L : Mat) (l : List Sh) : (usedM L l).length = l.length := by simp [usedM]
theorem shardsF_texts (r c n : Nat) (F : Ents) (T : List (List UInt8)) : (shardsF r c n F T).map (·.2) = rowsT r c n F T := by
  simp [shardsF, rowsT, mkM, comb]
theorem OwnInts.isSlice {E : TypeId} {w : World} {lo hi : Nat} {v : Value} {l : List Int} (h : OwnInts E w lo hi v l) : ∃ A n c, v = .slice A n c := by
  rcases h.1.2 with ⟨hh, _⟩ | ⟨g, cap, cur, hh, _⟩ <;> exact ⟨_, _, _, hh⟩
/-- behind 'x, ok := f(..)': the result's rows lie in a box -/
def MidBox (T E EE : TypeId) (w2 : World) (L : Mat) (s : Value) (wx : World) : Prop := ∃ B A n c vs, s = .pointer (some ⟨B, 0, none⟩) ∧ w2.heap.size ≤ B ∧ Boxed wx B T (.slice A n c) ∧ OwnM E EE wx w2.heap.size wx.heap.size (.slice A n c) L vs ∧ Below w2.heap.size w2 wx
theorem mid_new {T E EE : TypeId} {w2 w5 : World} {L : Mat} {lo : Nat} {A : Option Addr} {n c : Nat} {vs : List Value} (h : OwnM E EE w5 lo w5.heap.size (.slice A n c) L vs) (hb : Below w2.heap.size w2 w5) (hl : w2.heap.size ≤ lo) : MidBox T E EE w2 L (.pointer (some ⟨w5.heap.size, 0, none⟩)) (w5.alloc (.cells #[.slice A n c] T)) :=
  ⟨w5.heap.size, A, n, c, vs, rfl, hb.size, Boxed.new _ _ _, (h.keep (turn_alloc _ _) (by omega)).wider hl (by simp) (Nat.le_refl _), hb.alloc hb.size _⟩
theorem mid_set {T E EE : TypeId} {w2 w5 : World} {L : Mat} {lo B : Nat} {A : Option Addr} {n c : Nat} {vs : List Value} {u : Value} (h : OwnM E EE w5 lo w5.heap.size (.slice A n c) L vs) (hb : Below w2.heap.size w2 w5) (hl : w2.heap.size ≤ lo) (hB : Boxed w5 B T u) (h1 : w2.heap.size ≤ B) (h2 : B < lo) : MidBox T E EE w2 L (.pointer (some ⟨B, 0, none⟩)) (w5.setCell ⟨B, 0, none⟩ (.slice A n c)) :=
  ⟨B, A, n, c, vs, rfl, h1, hB.set _, (h.keep (turn_setCell w5 B 0 _) (by omega)).wider hl (by simp) (by simp), hb.setCell (p := ⟨B, 0, none⟩) h1 _⟩
end G294
namespace Go.Proofs.YtfglkgeeelapgaaDoor
open Go.RowKit Go.Shelf G294

attribute [local go_sem] Oper.semAt_some

end Go.Proofs.YtfglkgeeelapgaaDoor

/- DecodeShards, the program's. -/
namespace G294
open Go Go.RowKit
theorem used_inv {k : Nat} (l : List Sh) (h1 : 1 ≤ k) (h2 : k ≤ 16) : invOk (mkM k k (usedF k l)) = usedOk k l := by
  have e : ent (mkM k k (usedF k l)) = usedF k l := by rw [used_mk]; rfl
  have g : goodM (mkM k k (usedF k l)) = true := good_mkM _ _ _ h1 h2 h1 h2
  unfold invOk squareM rankN usedOk
  rw [g, wid_mkM _ _ _ (by omega), mkM_length, e]
  simp
theorem used_cod {k q : Nat} {l : List Sh} (hk : k ≤ l.length) (hno : ∀ (i : Nat) (s : Sh), l[i]? = some s → 0 ≤ s.1 ∧ s.1 < ((k + q : Nat) : Int)) : usedM (codM k q) (l.take k) = mkM k k (usedF k l) := by
  have h1 : usedM (codM k q) (l.take k) = pickM (mkM (k + q) k (codF k)) (nosK k l) := rfl
  have hl := nosK_length hk
  rw [h1, pickM_mk (fun i hi => by
    rw [hl] at hi
    rw [nosK_get hk hi]
    exact hno i _ (by simp [List.getD, show i < l.length by omega])), hl, used_mk]
  exact mkM_congr fun i j hi hj => by rw [nosK_get hk hi]; rfl
theorem cod_ok {k q : Nat} {l : List Sh} (hk : k ≤ l.length) (h1 : 1 ≤ k) (h2 : k ≤ 16) (hno : ∀ (i : Nat) (s : Sh), l[i]? = some s → 0 ≤ s.1 ∧ s.1 < ((k + q : Nat) : Int)) : dbOk (codM k q) (l.take k) = usedOk k l := by
  unfold dbOk
  rw [used_cod hk hno, used_inv l h1 h2]
theorem cod_R {k q n : Nat} {l : List Sh} (hk : k ≤ l.length) (h1 : 1 ≤ k) (h2 : k ≤ 16) (hno : ∀ (i : Nat) (s : Sh), l[i]? = some s → 0 ≤ s.1 ∧ s.1 < ((k + q : Nat) : Int)) : dbR (codM k q) (l.take k) n = decY k n l := by
  have e : ent (mkM k k (usedF k l)) = usedF k l := by rw [used_mk]; rfl
  have ht : (l.take k).length = k := by simp; omega
  unfold dbR decY
  rw [cod_ok hk h1 h2 hno, ht, used_cod hk hno]
  unfold invF decX
  rw [e, mkM_length]
  rfl
theorem SeenH.take {w : World} {A : Option Addr} {c : Nat} {l : List Sh} (h : SeenH w (.slice A l.length c) l) (k : Nat) (hk : k ≤ l.length) : SeenH w (.slice A k c) (l.take k) := by
  obtain ⟨A', c', e, h1, h2, h3⟩ := h
  simp only [Value.slice.injEq, true_and] at e
  obtain ⟨rfl, rfl⟩ := e
  have ht : (l.take k).length = k := by simp; omega
  refine ⟨A, c, by rw [ht], by omega, h2, fun h0 => ?_⟩
  rw [ht] at h0
  obtain ⟨b, off, e, hb, hc⟩ := h3 (by omega)
  refine ⟨b, off, e, hb, fun i s hs => hc i s ?_⟩
  rw [List.getElem?_take] at hs
  split at hs
  · exact hs
  · cases hs
end G294
namespace Go.Proofs.YtfglkgeeelapgaaDoor
open Go.RowKit Go.Shelf G294

end Go.Proofs.YtfglkgeeelapgaaDoor

/- remade: the iterator over the shards that EncodeShards makes of DecodeShards. -/
namespace G294
open Go Go.RowKit
/-- the iterator's closure, and what it holds -/
def MadeIt (TM TS E EE ES : TypeId) (g : Nat) (w : World) (l : List Sh) (k m : Nat) (s : Value) (w' : World) : Prop := ∃ Bm Bt A n c At nt ct vs, s = .func (.func g) #[] #[.pointer (some ⟨Bm, 0, none⟩), .pointer (some ⟨Bt, 0, none⟩)] ∧ Boxed w' Bm TM (.slice A n c) ∧ Boxed w' Bt TS (.slice At nt ct) ∧ w.heap.size ≤ Bm ∧ w.heap.size ≤ Bt ∧
  OwnM E EE w' w.heap.size w'.heap.size (.slice A n c) (codM k m) vs ∧ OwnStrs ES w' w.heap.size w'.heap.size (.slice At nt ct) (decR l k m) ∧ TurnIn 0 0 w w'
theorem decR_row {l : List Sh} {k m : Nat} (h : decOk l k m = true) : ∀ j, j < k → ((decR l k m).getD j []).length = lenH l := fun j hj => by
  have hp : preOk l k m = true := by
    unfold decOk at h; simp only [Bool.and_eq_true] at h; exact h.1
  have hu : usedOk k l = true := by rw [decOk_yes hp] at h; exact h
  rw [decR_yes hp, decY_yes hu]
  unfold decX rowsT
  rw [mkM_getD _ _ _ _ hj, mkRow_length]
theorem decR_length {l : List Sh} {k m : Nat} (h : decOk l k m = true) : (decR l k m).length = k := by
  have hp : preOk l k m = true := by
    unfold decOk at h; simp only [Bool.and_eq_true] at h; exact h.1
  have hu : usedOk k l = true := by rw [decOk_yes hp] at h; exact h
  rw [decR_yes hp, decY_yes hu]
  unfold decX
  rw [rowsT_length]
theorem decOk_shape {l : List Sh} {k m : Int} (h : decOk l k m = true) : shapeOk k m = true := by
  unfold decOk preOk at h
  simp only [Bool.and_eq_true] at h
  exact h.1.1.1
theorem decOk_shards {l : List Sh} {k m : Int} (h : decOk l k m = true) : shardsOk l (k + m) = true := by
  unfold decOk preOk at h
  simp only [Bool.and_eq_true] at h
  exact h.1.1.2
end G294
namespace Go.Proofs.YtfglkgeeelapgaaDoor
open Go.RowKit Go.Shelf G294

end Go.Proofs.YtfglkgeeelapgaaDoor

/- RebuildShard: its mathematics; the model's. -/
namespace G294
open Go Go.RowKit
def rebOk (l : List Sh) (k m no : Int) : Bool := decOk l k m && decide (0 ≤ no ∧ no ≤ k + m - 1)
def rebR (l : List Sh) (k m no : Int) : Sh := if rebOk l k m no = true then (no, comb k.toNat (lenH l) (codF k.toNat no.toNat) (decR l k m)) else (0, [])
theorem rebR_no {l : List Sh} {k m no : Int} (h : rebOk l k m no = false) : rebR l k m no = (0, []) := if_neg (by rw [h]; simp)
theorem rebR_yes {l : List Sh} {k : Nat} {m no : Int} (h : rebOk l k m no = true) : rebR l k m no = (no, comb k (lenH l) (codF k no.toNat) (decR l k m)) := by unfold rebR; rw [if_pos h]; simp
/-- a shard and a bool are returned -/
def RetShOk (w : World) (x : Sh) (ok : Bool) (e : Ending) (w' : World) : Prop := e = .returned (.tuple #[.agg #[.int .i64 x.1, .string (str x.2)], .bool ok]) ∧ TurnIn 0 0 w w'
theorem str_nil' : str [] = ByteArray.mk #[] := rfl
end G294
namespace Go.Proofs.YtfglkgeeelapgaaDoor
open Go.RowKit Go.Shelf G294

end Go.Proofs.YtfglkgeeelapgaaDoor

/- CheckShards: its mathematics. -/
namespace G294
open Go Go.RowKit
theorem alloc_pair0' (w : World) (x y : Value) (T : TypeId) : (w.alloc (.cells #[x, y] T)).cell? ⟨w.heap.size, 0, none⟩ = some x := by simp
theorem alloc_pair1' (w : World) (x y : Value) (T : TypeId) : (w.alloc (.cells #[x, y] T)).cell? ⟨w.heap.size, 1, none⟩ = some y := by simp
/-- one round of the comparison: the next to be met, or the end -/
def stp (l : List Sh) (t : Nat) (x : Sh) : Option Nat := if t = l.length then none else if x = l.getD t (0, []) then some (t + 1) else if x.1 = (l.getD t (0, [])).1 then none else some t
def runC (l : List Sh) (pre : List Sh) : Option Nat := pre.foldl (fun o x => o.bind fun t => stp l t x) (some 0)
theorem runC_snoc (l pre : List Sh) (x : Sh) : runC l (pre ++ [x]) = (runC l pre).bind fun t => stp l t x := by simp [runC]
/-- every shard is the one that f makes -/
def matchB (l : List Sh) (f : Nat → List UInt8) : Bool := l.all fun s => decide (s.2 = f s.1.toNat)
theorem matchB_iff (l : List Sh) (f : Nat → List UInt8) : matchB l f = true ↔ ∀ (i : Nat) (s : Sh), l[i]? = some s → s.2 = f s.1.toNat := by
  simp only [matchB, List.all_eq_true, decide_eq_true_eq]
  constructor
  · intro h i s hs; exact h s (List.mem_of_getElem? hs)
  · intro h s hs
    obtain ⟨i, hi⟩ := List.mem_iff_getElem?.1 hs
    exact h i s hi
def chkR (l : List Sh) (k m : Int) : Bool := decOk l k m && matchB l fun j => comb k.toNat (lenH l) (codF k.toNat j) (decR l k m)
theorem chkR_no {l : List Sh} {k m : Int} (h : decOk l k m = false) : chkR l k m = false := by unfold chkR; rw [h]; rfl
theorem chkR_yes {l : List Sh} {k : Nat} {m : Int} (h : decOk l k m = true) : chkR l k m = matchB l fun j => comb k (lenH l) (codF k j) (decR l k m) := by unfold chkR; rw [h]; simp
/-- strictly increasing -/
theorem shards_lt {l : List Sh} {n : Int} (h : shardsOk l n = true) : ∀ (d i : Nat) (s s' : Sh), l[i]? = some s → l[i + d + 1]? = some s' → s.1 < s'.1
  | 0, i, s, s', hs, hs' => by
    have h1 := ((shardsOk_iff l n).1 h (i + 1) s' hs').1.1
    rw [lastNo_succ hs] at h1
    omega
  | d + 1, i, s, s', hs, hs' => by
    have hi : i + d + 1 < l.length := by have := (List.getElem?_eq_some_iff.1 hs').1; omega
    have h1 := shards_lt h d i s l[i + d + 1] hs (List.getElem?_eq_getElem hi)
    have h2 := ((shardsOk_iff l n).1 h (i + (d + 1) + 1) s' hs').1.1
    rw [show i + (d + 1) + 1 = (i + d + 1) + 1 by omega, lastNo_succ (List.getElem?_eq_getElem hi)] at h2
    omega
theorem shards_lt' {l : List Sh} {n : Int} (h : shardsOk l n = true) {i j : Nat} {s s' : Sh} (hij : i < j) (hs : l[i]? = some s) (hs' : l[j]? = some s') : s.1 < s'.1 :=
  shards_lt h (j - i - 1) i s s' hs (by rw [show i + (j - i - 1) + 1 = j by omega]; exact hs')
section
variable {l : List Sh} {n : Int} {f : Nat → List UInt8}
def mk (f : Nat → List UInt8) (j : Nat) : List Sh := (List.range j).map fun (i : Nat) => (((i : Nat) : Int), f i)
theorem mk_succ (f : Nat → List UInt8) (j : Nat) : mk f (j + 1) = mk f j ++ [((j : Int), f j)] := by simp [mk, List.range_succ]
theorem runC_inv (h : shardsOk l n = true) : ∀ (j t : Nat), runC l (mk f j) = some t → t ≤ l.length ∧ (∀ (i : Nat) (s : Sh), i < t → l[i]? = some s → s.2 = f s.1.toNat) ∧ ∀ (i : Nat) (s : Sh), t ≤ i → l[i]? = some s → (j : Int) ≤ s.1
  | 0, t, ht => by
    have : t = 0 := by simpa [runC, mk] using ht.symm
    subst this
    exact ⟨Nat.zero_le _, fun i s hi => by omega, fun i s _ hs => by have := shards_ge h i s hs; omega⟩
  | j + 1, t, ht => by
    rw [mk_succ, runC_snoc] at ht
    cases hr : runC l (mk f j) with
    | none => rw [hr] at ht; cases ht
    | some t0 =>
      rw [hr] at ht
      obtain ⟨a1, a2, a3⟩ := runC_inv h j t0 hr
      simp only [Option.bind_some, stp] at ht
      split at ht
      · cases ht
      · rename_i hne
        have hlt : t0 < l.length := by omega
        have hg : l.getD t0 (0, []) = l[t0] := by simp [List.getD, hlt]
        have hs0 : l[t0]? = some l[t0] := List.getElem?_eq_getElem hlt
        have hge := a3 t0 _ (Nat.le_refl _) hs0
        rw [hg] at ht
        split at ht
        · rename_i hx
          cases ht
          refine ⟨by omega, fun i s hi hs => ?_, fun i s hi hs => ?_⟩
          · by_cases e : i < t0
            · exact a2 i s e hs
            · obtain rfl : i = t0 := by omega
              rw [hs0] at hs
              cases hs
              rw [← hx]; simp
          · have := shards_lt' h (show t0 < i by omega) hs0 hs
            rw [← hx] at this
            simp at this
            omega
        · split at ht
          · cases ht
          · rename_i hx hx1
            cases ht
            refine ⟨a1, a2, fun i s hi hs => ?_⟩
            have h1 : (j : Int) < l[t].1 := by
              rcases Int.lt_or_eq_of_le hge with h | h
              · exact h
              · exact absurd h hx1
            by_cases e : i = t
            · subst e; rw [hs0] at hs; cases hs; omega
            · have := shards_lt' h (show t < i by omega) hs0 hs
              omega
theorem runC_done {r t : Nat} (h : shardsOk l (r : Int) = true) (ht : runC l (mk f r) = some t) : decide (t = l.length) = matchB l f := by
  obtain ⟨a1, a2, a3⟩ := runC_inv h r t ht
  have e : t = l.length := by
    rcases Nat.lt_or_ge t l.length with hlt | hge
    · have h1 := a3 t l[t] (Nat.le_refl _) (List.getElem?_eq_getElem hlt)
      have h2 := ((shardsOk_iff l (r : Int)).1 h t l[t] (List.getElem?_eq_getElem hlt)).1.2
      omega
    · omega
  have h2 : matchB l f = true := (matchB_iff l f).2 fun i s hs => a2 i s (by have := (List.getElem?_eq_some_iff.1 hs).1; omega) hs
  rw [h2]; simpa using e
theorem runC_stop {j t : Nat} (h : shardsOk l n = true) (ht : runC l (mk f j) = some t) (hs : stp l t ((j : Int), f j) = none) : decide (t = l.length) = matchB l f := by
  obtain ⟨a1, a2, a3⟩ := runC_inv h j t ht
  by_cases e : t = l.length
  · have h2 : matchB l f = true := (matchB_iff l f).2 fun i s hs => a2 i s (by have := (List.getElem?_eq_some_iff.1 hs).1; omega) hs
    rw [h2]; simpa using e
  · have hlt : t < l.length := by omega
    have hg : l.getD t (0, []) = l[t] := by simp [List.getD, hlt]
    simp only [stp, if_neg e, hg] at hs
    split at hs
    · cases hs
    · split at hs
      · rename_i hx hx1
        have h2 : matchB l f = false := by
          rw [← Bool.not_eq_true, matchB_iff]
          intro hall
          have := hall t l[t] (List.getElem?_eq_getElem hlt)
          apply hx
          rw [← hx1] at this
          simp at this hx1
          exact Prod.ext hx1 this.symm
        rw [h2]; simpa using e
      · cases hs
end
end G294

/- Any k shards determine the data, and they are found right. -/
namespace G294
/-- the shards with these numbers -/
def pickS (k n : Nat) (T : List (List UInt8)) (is : List Nat) : List Sh := is.map fun (i : Nat) => (((i : Nat) : Int), comb k n (codF k i) T)
@[simp] theorem pickS_length (k n : Nat) (T : List (List UInt8)) (is : List Nat) : (pickS k n T is).length = is.length := by simp [pickS]
theorem comb_len (c n : Nat) (f : Nat → UInt8) (T : List (List UInt8)) : (comb c n f T).length = n := by simp [comb]
theorem pickS_getD {k n : Nat} {T : List (List UInt8)} {is : List Nat} {i : Nat} (h : i < is.length) : (pickS k n T is).getD i (0, []) = (((is[i] : Nat) : Int), comb k n (codF k is[i]) T) := by simp [pickS, List.getD, h]
theorem rises_nodup {is : List Nat} {n : Nat} (h : risesB is n) : is.Nodup := h.2.imp fun h e => by omega
theorem code_fullF {k m : Nat} {F : Ents} (is : List Nat) (h : risesB is (k + m)) (hl : k ≤ is.length) (hk : k + m ≤ 256) (hF : ∀ i j (hi : i < is.length), i < k → j < k → F i j = codF k is[i] j) : (est F k k).2 = k := by
  refine rank_full (Nat.le_refl _) fun v hv => ?_
  refine code_ker (m := m) (is.take k) ((rises_nodup h).sublist (List.take_sublist _ _)) (by simp; omega) (fun x hx => h.1 x (List.mem_of_mem_take hx)) hk v (fun x hx => ?_)
  obtain ⟨i, hi, rfl⟩ := List.getElem_of_mem hx
  have hi2 : i < k ∧ i < is.length := by simp only [List.length_take] at hi; omega
  have := hv i (by omega)
  rw [← this]
  exact sumK_congr fun j hj => by rw [hF i j hi2.2 hi2.1 hj, List.getElem_take]
section
variable {k m n : Nat} {T : List (List UInt8)} {is : List Nat}
theorem pick_used {i j : Nat} (hi : i < is.length) (hik : i < k) (hj : j < k) : usedF k (pickS k n T is) i j = codF k is[i] j := by
  unfold usedF
  rw [ent_mkM _ _ _ _ _ hik hj]
  simp only [usedG, pickS_getD hi]; simp
theorem pick_usedOk (h : risesB is (k + m)) (hl : k ≤ is.length) (hk : k + m ≤ 256) : usedOk k (pickS k n T is) = true := by
  simp only [usedOk, decide_eq_true_eq]
  exact code_fullF is h hl hk fun i j hi hik hj => pick_used hi hik hj
theorem pick_txt (hl : k ≤ is.length) {j p : Nat} (hj : j < k) (hp : p < n) : ent (txtK k (pickS k n T is)) j p = sumK k fun t => gmul (codF k (is.getD j 0) t) (ent T t p) := by
  have hj' : j < is.length := by omega
  have e1 : (txtK k (pickS k n T is)).getD j [] = comb k n (codF k (is.getD j 0)) T := by
    simp [txtK, pickS, List.getD, hj', hj]
  show ((txtK k (pickS k n T is)).getD j []).getD p 0 = _
  rw [e1]
  unfold comb
  rw [mkRow_getD _ _ _ hp]
  rfl
/-- decoding gives the data back -/
theorem pick_decX (h : risesB is (k + m)) (hl : k ≤ is.length) (hk : k + m ≤ 256) (hT : T.length = k) (hn : ∀ j, j < k → (T.getD j []).length = n) : decX k n (pickS k n T is) = T := by
  unfold decX rowsT
  rw [eq_mkM hT hn]
  refine mkM_congr fun i p hi hp => ?_
  have hfull : (est (usedF k (pickS k n (mkM k n (ent T)) is)) k k).2 = k := code_fullF is h hl hk fun i j hi hik hj => pick_used hi hik hj
  unfold combF
  have e1 : ∀ j, j < k → gmul (bst (usedF k (pickS k n (mkM k n (ent T)) is)) idF k k i j) (ent (txtK k (pickS k n (mkM k n (ent T)) is)) j p) = sumK k fun t => gmul (gmul (bst (usedF k (pickS k n (mkM k n (ent T)) is)) idF k k i j) (usedF k (pickS k n (mkM k n (ent T)) is) j t)) (ent (mkM k n (ent T)) t p) := fun j hj => by
    rw [pick_txt hl hj hp, ← sumK_mul]
    refine sumK_congr fun t ht => ?_
    rw [pick_used (show j < is.length by omega) hj ht, gmul_assoc]
    congr 2
    simp [List.getD, show j < is.length by omega]
  rw [sumK_congr e1, sumK_swap]
  have e2 : ∀ t, t < k → (sumK k fun j => gmul (gmul (bst (usedF k (pickS k n (mkM k n (ent T)) is)) idF k k i j) (usedF k (pickS k n (mkM k n (ent T)) is) j t)) (ent (mkM k n (ent T)) t p)) = gmul (idF i t) (ent (mkM k n (ent T)) t p) := fun t ht => by
    rw [sumK_mulr, inv_left hfull hi ht]
  rw [sumK_congr e2, sumK_one (k := i) _ hi (fun t ht hne => by simp only [idF]; rw [if_neg (fun e => hne e.symm)]; exact zero_gmul _)]
  simp only [idF, if_true]
  rw [one_gmul, ent_mkM _ _ _ _ _ hi hp]
theorem pick_shardsOk (h : risesB is (k + m)) (hn : n ≤ 40) : shardsOk (pickS k n T is) ((k + m : Nat) : Int) = true := by
  rw [shardsOk_iff]
  intro i s hi
  have hlt : i < is.length := by have := (List.getElem?_eq_some_iff.1 hi).1; simpa using this
  have hs : s = (((is[i] : Nat) : Int), comb k n (codF k is[i]) T) := by
    have e := pickS_getD (k := k) (n := n) (T := T) hlt
    rw [List.getD, hi] at e
    simpa using e
  subst hs
  have h1 := h.1 is[i] (List.getElem_mem hlt)
  have h0 : 0 < is.length := by omega
  refine ⟨⟨?_, by simp; omega⟩, ?_, ?_⟩
  · cases i with
    | zero => simp [lastNo]; omega
    | succ i =>
      have hi' : i < is.length := by omega
      simp only [lastNo]
      rw [pickS_getD hi']
      have := (List.pairwise_iff_getElem.1 h.2) i (i + 1) hi' hlt (by omega)
      simp; omega
  · rw [pickS_getD h0]; simp only [comb_len]
  · simp only [comb_len]; exact hn
theorem pick_lenH (hl : k ≤ is.length) (hk1 : 1 ≤ k) : lenH (pickS k n T is) = n := by
  unfold lenH
  rw [pickS_getD (by omega), comb_len]
/-- k shards of a code or more: decoding tells the data, and the shards are found right -/
theorem any_few (hs : shapeOk k m = true) (h : risesB is (k + m)) (hl : k ≤ is.length) (hT : T.length = k) (hn : ∀ j, j < k → (T.getD j []).length = n) (hn40 : n ≤ 40) :
    decOk (pickS k n T is) k m = true ∧ decR (pickS k n T is) k m = T ∧ chkR (pickS k n T is) k m = true := by
  have hb := shapeOk_b hs
  have hpre : preOk (pickS k n T is) k m = true := by
    unfold preOk
    rw [hs]
    have e : ((k : Int) + (m : Int)) = ((k + m : Nat) : Int) := by omega
    rw [e, pick_shardsOk h hn40]
    simp; omega
  have hu : usedOk k (pickS k n T is) = true := pick_usedOk h hl (by omega)
  have hd : decOk (pickS k n T is) k m = true := by unfold decOk; rw [hpre, Int.toNat_natCast, hu]; rfl
  have hr : decR (pickS k n T is) k m = T := by
    unfold decR
    rw [if_pos hpre, Int.toNat_natCast, pick_lenH hl (by omega)]
    unfold decY
    rw [if_pos hu, pick_decX h hl (by omega) hT hn]
  refine ⟨hd, hr, ?_⟩
  unfold chkR
  rw [hd, hr, Bool.true_and, Int.toNat_natCast, pick_lenH hl (by omega)]
  unfold matchB
  rw [List.all_eq_true]
  intro s hs'
  obtain ⟨i, hi, rfl⟩ := List.mem_map.1 hs'
  simp
end
end G294

/- The laws' comparisons of texts, shards and matrices, and someOf. -/
namespace Go.Proofs.YtfglkgeeelapgaaDoor
open Go.RowKit G294

set_option maxRecDepth 100000 in
set_option maxHeartbeats 1000000 in
theorem sameTexts_same (v u : Value) (l : List (List UInt8)) (w : World) (hv : Seen w v (strs l)) (hu : Seen w u (strs l)) :
    Calls Tryd.prog 60 #[v, u] w (RetBool w true) := by
  obtain ⟨A, c, rfl, hlc, hcm, hx⟩ := hv
  obtain ⟨A', c', rfl, hlc', hcm', hx'⟩ := hu
  rw [strs_length] at hlc hx hlc' hx'
  simp only [strs_length]
  unfold maxLen at hcm hcm'
  generalize hnn : l.length = n at *
  have HN := Lib.hid hnn
  clear hnn
  have hbn : ((n : Int) != (n : Int)) = false := by simp
  go_enter Tryd.func60, Tryd.ntmps60
  go_wp2_with fail
  go_loopw [13] (fun i wr => ∃ k : Nat, k ≤ n ∧ i = .int .i64 k ∧ Below w.heap.size w wr)
    (fun i _ => n - (intOf i).toNat)
  case atStart => exact ⟨0, Nat.zero_le _, rfl, Below.refl _ _⟩
  case round =>
    obtain ⟨k, hk, rfl, hb⟩ := hrel
    by_cases hlt : k < n
    · obtain ⟨b, off, rfl, hbl, hcell⟩ := hx (by omega)
      obtain ⟨b', off', rfl, hbl', hcell'⟩ := hx' (by omega)
      have hkl : k < l.length := by rw [HN.out]; exact hlt
      have hcx : wr.cell? ⟨b, off + k, none⟩ = some (.string (str l[k])) := (hb.cell (p := ⟨b, off + k, none⟩) hbl).trans (hcell k _ (strs_get l k hkl))
      have hcy : wr.cell? ⟨b', off' + k, none⟩ = some (.string (str l[k])) := (hb.cell (p := ⟨b', off' + k, none⟩) hbl').trans (hcell' k _ (strs_get l k hkl))
      clear hcell hcell' hx hx'
      have hki : (k : Int) < (n : Int) := by omega
      have hbb := str_same l[k]
      go_wp2_with fail
      go_quiet (fail)
      go_wp2_with fail
      go_roundw
      case rel => exact ⟨k + 1, by omega, by go_num, below_drewN hb _⟩
      case measure => simp [intOf]; omega
    · obtain rfl : k = n := by omega
      have hki : ¬ (k : Int) < (k : Int) := by omega
      go_wp2_with fail
      go_ret
      exact ⟨rfl, TurnIn.of_below hb⟩

end Go.Proofs.YtfglkgeeelapgaaDoor
