/- Joined texts: AddMath, SplI, WitI, PeeCpy, CutP. -/
import Derived.Test.YtjklngheehhggaaBd14
import Derived.Lib.SliceRun
import Derived.Test.YtjklngheehhggaaBd12
import Derived.Test.YtjklngheehhggaaBd07
import Derived.Deep.RegionHeld3
import Derived.Deep.CutRange
set_option linter.unusedSimpArgs false
set_option linter.unusedVariables false
/- AddStripes: what is added; a stripe in a box whose texts are replaced one by one. -/
namespace G294
open Go Go.RowKit
def firstLen (s : Strp) : Nat := (s.1.getD 0 []).length
def sadOk (a b : Strp) : Bool := strpOk a && (strpOk b && (decide (a.1.length = b.1.length) && (decide (a.2.length = b.2.length) && decide (firstLen a = firstLen b))))
def sadT (L M : List (List UInt8)) : List (List UInt8) := textsF L.length fun i => plusL (L.getD i []) 1 (M.getD i [])
def sadS (a b : Strp) : Strp := (sadT a.1 b.1, sadT a.2 b.2)
def sadR (a b : Strp) : Strp := if sadOk a b = true then sadS a b else ([], [])
theorem sadR_no {a b : Strp} (h : sadOk a b = false) : sadR a b = ([], []) := if_neg (by rw [h]; simp)
theorem sadR_yes {a b : Strp} (h : sadOk a b = true) : sadR a b = sadS a b := if_pos h
@[simp] theorem sadT_length (L M : List (List UInt8)) : (sadT L M).length = L.length := by simp [sadT]
theorem sadR_len (a b : Strp) : (sadR a b).1.length + (sadR a b).2.length ≤ 20 := by
  unfold sadR; split
  · rename_i h
    simp only [sadOk, Bool.and_eq_true] at h
    have := strpOk_b h.1
    simp only [sadS, sadT_length]; omega
  · simp
theorem sadOk_b {a b : Strp} (h : sadOk a b = true) : strpOk a = true ∧ strpOk b = true ∧ a.1.length = b.1.length ∧ a.2.length = b.2.length ∧ firstLen a = firstLen b := by
  simpa [sadOk] using h
theorem strp_len1 {s : Strp} (h : strpOk s = true) {i : Nat} (hi : i < s.1.length) : (s.1.getD i []).length = firstLen s := (strpOk_len h).1 _ (getD_mem hi)
theorem strp_len2 {s : Strp} (h : strpOk s = true) {i : Nat} (hi : i < s.2.length) : (s.2.getD i []).length = firstLen s := (strpOk_len h).2.1 _ (getD_mem hi)
theorem strp_len40 {s : Strp} (h : strpOk s = true) : firstLen s ≤ 40 := (strpOk_len h).2.2
/-- the first k texts are replaced -/
def halfT (L : List (List UInt8)) (F : Nat → List UInt8) (k : Nat) : List (List UInt8) := textsF L.length fun i => if i < k then F i else L.getD i []
@[simp] theorem halfT_length (L : List (List UInt8)) (F : Nat → List UInt8) (k : Nat) : (halfT L F k).length = L.length := by simp [halfT]
theorem halfT_zero (L : List (List UInt8)) (F : Nat → List UInt8) : halfT L F 0 = L := by
  unfold halfT
  have : (fun i => if i < 0 then F i else L.getD i []) = fun i => L.getD i [] := by funext i; simp
  rw [this, textsF_self]
theorem halfT_all (L : List (List UInt8)) (F : Nat → List UInt8) : halfT L F L.length = textsF L.length F := textsF_congr fun i hi => if_pos hi
theorem halfT_get (L : List (List UInt8)) (F : Nat → List UInt8) (k : Nat) (hk : k < L.length) : (halfT L F k).getD k [] = L.getD k [] := by rw [halfT, textsF_getD _ _ _ hk, if_neg (by omega)]
theorem textsF_set (n : Nat) (F : Nat → List UInt8) (k : Nat) (x : List UInt8) : (textsF n F).set k x = textsF n fun i => if i = k then x else F i := by
  refine List.ext_getElem (by simp) fun i h1 h2 => ?_
  simp only [textsF, List.getElem_set, List.getElem_map, List.getElem_range]
  by_cases e : k = i
  · subst e; simp
  · rw [if_neg e, if_neg (fun h => e h.symm)]
theorem halfT_next (L : List (List UInt8)) (F : Nat → List UInt8) (k : Nat) : (halfT L F k).set k (F k) = halfT L F (k + 1) := by
  unfold halfT
  rw [textsF_set]
  refine textsF_congr fun i hi => ?_
  by_cases e : i = k
  · subst e; simp
  · rw [if_neg e]
    by_cases h : i < k
    · rw [if_pos h, if_pos (by omega)]
    · rw [if_neg h, if_neg (by omega)]
theorem OwnStrs.store {E : TypeId} {w : World} {lo hi g n cap q : Nat} {l l' : List (List UInt8)} {x : List UInt8} (h : OwnStrs E w lo hi (.slice (some ⟨g, 0, none⟩) n cap) l) (hn : l.length = n) (e : l.set q x = l') :
    OwnStrs E (w.setCell ⟨g, q, none⟩ (.string (str x))) lo hi (.slice (some ⟨g, 0, none⟩) n cap) l' := by
  have h1 := h.1
  rw [hn] at h1
  have hst := h1.stored q (.string (str x))
  refine ⟨?_, by simpa using h.2.1, h.2.2⟩
  have e2 : strs l' = (strs l).set q (.string (str x)) := by rw [← e]; simp [strs, List.map_set]
  have e3 : l'.length = n := by rw [← e]; simpa using hn
  rw [e2, e3]
  exact hst.1
theorem OwnStrs.shape {E : TypeId} {w : World} {lo hi : Nat} {v : Value} {l : List (List UInt8)} (h : OwnStrs E w lo hi v l) (h1 : 1 ≤ l.length) : ∃ g cap, v = .slice (some ⟨g, 0, none⟩) l.length cap ∧ lo ≤ g ∧ g < hi ∧ l.length ≤ cap ∧ cap ≤ maxLen ∧
    (∀ k, k < l.length → w.cell? ⟨g, k, none⟩ = some (.string (str (l.getD k [])))) ∧ ∀ k, w.frozen? ⟨g, k, none⟩ = false := by
  obtain ⟨ho, ht, hg⟩ := h
  rcases ho.2 with ⟨rfl, hn⟩ | ⟨g, cap, cur, rfl, hbg, hgg, hnc, hcm, hcs, htk⟩
  · omega
  · refine ⟨g, cap, rfl, hbg, hg g rfl, hnc, hcm, fun k hk => ?_, fun k => ho.frozenAt k⟩
    rw [ho.cellAt k (by omega), strs_get l k hk]
    simp [List.getD, hk]
/-- a stripe of the call's own in a box, beside cells of older boxes -/
structure SBox (E : TypeId) (w W : World) (B lo mid hi : Nat) (va vp : Value) (D P : List (List UInt8)) : Prop where
  data : OwnStrs E W lo mid va D
  par : OwnStrs E W mid hi vp P
  c0 : W.cell? ⟨B, 0, none⟩ = some va
  c1 : W.cell? ⟨B, 1, none⟩ = some vp
  hB : B < lo
  hlm : lo ≤ mid
  hmh : mid ≤ hi
  old : Below w.heap.size w W
section
variable {E : TypeId} {w W W' : World} {B lo mid hi : Nat} {va vp : Value} {D P : List (List UInt8)}
theorem SBox.top (h : SBox E w W B lo mid hi va vp D P) : hi ≤ W.heap.size := h.par.2.1
theorem SBox.turn (h : SBox E w W B lo mid hi va vp D P) (t : TurnIn 0 0 W W') (hw : w.heap.size ≤ W.heap.size) : SBox E w W' B lo mid hi va vp D P := by
  have h1 := h.hB; have h2 := h.hlm; have h3 := h.hmh; have h4 := h.top
  exact ⟨h.data.keep t (by omega), h.par.keep t (by omega), cell_turn t h.c0 (by omega), cell_turn t h.c1 (by omega), h1, h2, h3, t.base h.old hw (by omega)⟩
theorem SBox.storeD {g n cap q : Nat} {l' : List (List UInt8)} {x : List UInt8} (h : SBox E w W B lo mid hi (.slice (some ⟨g, 0, none⟩) n cap) vp D P) (hn : D.length = n) (e : D.set q x = l') (hw : w.heap.size ≤ lo) :
    SBox E w (W.setCell ⟨g, q, none⟩ (.string (str x))) B lo mid hi (.slice (some ⟨g, 0, none⟩) n cap) vp l' P := by
  have h1 := h.hB
  have g1 := (h.data.1.lt g rfl).1
  have g2 := h.data.2.2 g rfl
  have k := turn_setCell W g q (.string (str x))
  exact ⟨h.data.store hn e, h.par.keep k (by omega), (cell_set_other W _ _ _ (by omega)).trans h.c0, (cell_set_other W _ _ _ (by omega)).trans h.c1, h1, h.hlm, h.hmh, h.old.setCell (show w.heap.size ≤ g by omega) _⟩
theorem SBox.storeP {g n cap q : Nat} {l' : List (List UInt8)} {x : List UInt8} (h : SBox E w W B lo mid hi va (.slice (some ⟨g, 0, none⟩) n cap) D P) (hn : P.length = n) (e : P.set q x = l') (hw : w.heap.size ≤ lo) :
    SBox E w (W.setCell ⟨g, q, none⟩ (.string (str x))) B lo mid hi va (.slice (some ⟨g, 0, none⟩) n cap) D l' := by
  have h1 := h.hB
  have h2 := h.hlm
  have g1 := (h.par.1.lt g rfl).1
  have g2 := h.par.2.2 g rfl
  have k := turn_setCell W g q (.string (str x))
  exact ⟨h.data.keep k (by omega), h.par.store hn e, (cell_set_other W _ _ _ (by omega)).trans h.c0, (cell_set_other W _ _ _ (by omega)).trans h.c1, h1, h2, h.hmh, h.old.setCell (show w.heap.size ≤ g by omega) _⟩
theorem SBox.own (h : SBox E w W B lo mid hi va vp D P) : OwnT E W lo hi va vp (D, P) := ⟨mid, h.hlm, h.hmh, h.data, h.par⟩
end
/-- cells that stay: two of a box, and of a result's box with leave to write -/
structure Kept (W : World) (C R : Nat) (x y p q : Value) : Prop where
  x0 : W.cell? ⟨C, 0, none⟩ = some x
  x1 : W.cell? ⟨C, 1, none⟩ = some y
  r0 : W.cell? ⟨R, 0, none⟩ = some p
  r1 : W.cell? ⟨R, 1, none⟩ = some q
  f0 : W.frozen? ⟨R, 0, none⟩ = false
  f1 : W.frozen? ⟨R, 1, none⟩ = false
theorem Kept.turn {W W' : World} {C R : Nat} {x y p q : Value} (h : Kept W C R x y p q) (t : TurnIn 0 0 W W') (hC : C < W.heap.size) (hR : R < W.heap.size) : Kept W' C R x y p q :=
  ⟨cell_turn t h.x0 hC, cell_turn t h.x1 hC, cell_turn t h.r0 hR, cell_turn t h.r1 hR, frozen_turn t h.f0 hR, frozen_turn t h.f1 hR⟩
theorem Kept.set {W : World} {C R g o : Nat} {x y p q z : Value} (h : Kept W C R x y p q) (h1 : g ≠ C) (h2 : g ≠ R) : Kept (W.setCell ⟨g, o, none⟩ z) C R x y p q :=
  ⟨(cell_set_other W _ _ _ h1).trans h.x0, (cell_set_other W _ _ _ h1).trans h.x1, (cell_set_other W _ _ _ h2).trans h.r0, (cell_set_other W _ _ _ h2).trans h.r1, (frozen_set_other W _ _ _ h2).trans h.f0, (frozen_set_other W _ _ _ h2).trans h.f1⟩
end G294

/- Chapter 9: the known and the unknown blocks of a drop, the program's splitBlocks. -/
namespace G294
open Go Go.RowKit
theorem setCells_texts {E : TypeId} {g n cap lo hi : Nat} (m : Nat) : ∀ (o : Nat) (w : World) (l : List (List UInt8)), OwnStrs E w lo hi (.slice (some ⟨g, 0, none⟩) n cap) l → l.length = n → o + m ≤ n →
    ∃ l', l'.length = n ∧ (∀ j, j < n → l'.getD j [] = if o ≤ j ∧ j < o + m then [] else l.getD j []) ∧ OwnStrs E (w.setCells g o (List.replicate m (.string ⟨#[]⟩))) lo hi (.slice (some ⟨g, 0, none⟩) n cap) l' ∧ TurnIn g (g + 1) w (w.setCells g o (List.replicate m (.string ⟨#[]⟩))) := by
  induction m with
  | zero =>
    intro o w l h hl hm
    exact ⟨l, hl, fun j hj => by rw [if_neg (by omega)], h, ⟨rfl, rfl, rfl, Nat.le_refl _, fun _ _ _ => rfl⟩⟩
  | succ m ih =>
    intro o w l h hl hm
    have h1 : OwnStrs E (w.setCell ⟨g, o, none⟩ (.string (str []))) lo hi (.slice (some ⟨g, 0, none⟩) n cap) (l.set o []) := h.store hl rfl
    obtain ⟨l', e1, e2, e3, e4⟩ := ih (o + 1) (w.setCell ⟨g, o, none⟩ (.string (str []))) (l.set o []) h1 (by simpa using hl) (by omega)
    refine ⟨l', e1, fun j hj => ?_, e3, turn_trans (turn_setCell _ _ _ _) e4 (by omega)⟩
    rw [e2 j hj, getD_set _ _ _ _ _ (by omega)]
    by_cases hjo : j = o
    · rw [if_neg (by omega), if_pos hjo, if_pos (by omega)]
    · rw [if_neg hjo]
      by_cases h2 : o + 1 ≤ j ∧ j < o + 1 + m
      · rw [if_pos h2, if_pos (by omega)]
      · rw [if_neg h2, if_neg (by omega)]
theorem texts_cleared {E : TypeId} {g n cap lo hi : Nat} {w : World} {l : List (List UInt8)} (h : OwnStrs E w lo hi (.slice (some ⟨g, 0, none⟩) n cap) l) (hl : l.length = n) :
    OwnStrs E (w.setCells g 0 (List.replicate n (.string ⟨#[]⟩))) lo hi (.slice (some ⟨g, 0, none⟩) n cap) (List.replicate n []) ∧ TurnIn g (g + 1) w (w.setCells g 0 (List.replicate n (.string ⟨#[]⟩))) := by
  obtain ⟨l', e1, e2, e3, e4⟩ := setCells_texts n 0 w l h hl (by omega)
  have : l' = List.replicate n [] := by
    refine List.ext_getElem (by simp [e1]) fun j h1 h2 => ?_
    have := e2 j (by omega)
    rw [if_pos (by omega)] at this
    simp [List.getD, h1] at this
    simp [this]
  rw [← this]
  exact ⟨e3, e4⟩
/-- the chosen and known texts, each in its place -/
def tblK (p : Pee) (l : List Nat) : List (List UInt8) := textsF p.1.length fun j => if l.contains j && knw p j then p.1.getD j [] else []
@[simp] theorem tblK_length (p : Pee) (l : List Nat) : (tblK p l).length = p.1.length := by simp [tblK]
theorem tblK_nil (p : Pee) : tblK p [] = List.replicate p.1.length [] := by
  unfold tblK textsF
  simp [List.map_const']
theorem tblK_yes {p : Pee} {l : List Nat} {q : Nat} (h : knw p q = true) : (tblK p l).set q (p.1.getD q []) = tblK p (l ++ [q]) := by
  unfold tblK
  rw [textsF_set]
  refine textsF_congr fun i hi => ?_
  by_cases e : i = q
  · subst e; simp [h]
  · rw [if_neg e]; simp [e]
theorem tblK_no {p : Pee} {l : List Nat} {q : Nat} (h : knw p q = false) : tblK p (l ++ [q]) = tblK p l := by
  unfold tblK
  refine textsF_congr fun i hi => ?_
  by_cases e : i = q
  · subst e; simp [h]
  · simp [e]
theorem tblK_len {p : Pee} {l : List Nat} {n : Nat} (h : ∀ k, k < p.1.length → (p.1.getD k []).length = if knw p k then n else 0) : ∀ j, j < (tblK p l).length → ((tblK p l).getD j []).length ≤ n := by
  intro j hj
  rw [tblK_length] at hj
  unfold tblK
  rw [textsF_getD _ _ _ hj]
  split
  · rename_i hc
    have := h j hj
    simp only [Bool.and_eq_true] at hc
    rw [this, if_pos hc.2]; exact Nat.le_refl _
  · simp
theorem sumL_sel (B : List (List UInt8)) (sel : Nat → Bool) (o : List UInt8) (k : Nat) : sumL ((List.range k).map fun j => if sel j then B.getD j [] else []) o = addN B ((List.range k).filter sel) o := by
  induction k with
  | zero => rfl
  | succ k ih =>
    rw [List.range_succ, List.map_append, List.filter_append]
    show (List.foldl _ o (_ ++ _)) = _
    rw [List.foldl_append]
    show plusL (sumL _ o) 1 _ = _
    rw [ih]
    cases h : sel k
    · simp only [h, Bool.false_eq_true, if_false, plusL_nil, List.filter_cons, List.filter_nil, List.append_nil]
    · simp only [h, if_true, List.filter_cons, List.filter_nil, addN_snoc]
theorem sum_tbl (d : Sh) (p : Pee) : sumL (tblK p (blkN d.1.toNat p.1.length)) d.2 = pdat d p := by
  unfold pdat kno tblK textsF
  have e : (blkN d.1.toNat p.1.length).filter (fun k => knw p k) = (List.range p.1.length).filter fun k => inF d.1.toNat p.1.length k && knw p k := by
    unfold blkN blkK
    rw [List.filter_filter]
    exact List.filter_congr fun k _ => Bool.and_comm _ _
  rw [e, ← sumL_sel]
  congr 1
  refine List.map_congr_left fun j hj => ?_
  have hj' := List.mem_range.1 hj
  have hc : (blkN d.1.toNat p.1.length).contains j = inF d.1.toNat p.1.length j := by
    rw [Bool.eq_iff_iff, List.contains_iff_mem]
    show j ∈ blkK _ _ ↔ _
    rw [blkK_mem]
    exact ⟨fun h => h.2, fun h => ⟨hj', h⟩⟩
  rw [hc]
theorem take_snoc (ks : List Nat) (k : Nat) (h : k < ks.length) : ks.take (k + 1) = ks.take k ++ [ks.getD k 0] := by
  rw [List.take_add_one, List.getElem?_eq_getElem h]; simp [List.getD, h]
end G294
namespace Go.Proofs.Ytjklngheehhggaa
open Go.RowKit G294

/-- the unknown blocks in a new row; the known ones' texts in the given one -/
def RetSplit (w : World) (lo hi : Nat) (vk : Value) (p : Pee) (ks : List Nat) (e : Ending) (w' : World) : Prop :=
  ∃ v, e = .returned v ∧ OwnInts 3 w' w.heap.size w'.heap.size v (intL (unk p ks)) ∧ OwnStrs 9 w' lo hi vk (tblK p ks) ∧ TurnIn lo hi w w'

theorem zeroStr (w : World) : (zeroValue 9).run Try.prog w = .ok (.string ⟨#[]⟩) w := by kernel_rfl

set_option maxRecDepth 100000 in
set_option maxHeartbeats 4000000 in
theorem splitBlocks_own (s : Nat) (tx : List UInt8) (v u vk : Value) (p : Pee) (K0 : List (List UInt8)) (lo hi : Nat) (w0 w : World) (hs : s ≤ 100000) (hv : Seen w0 v (strs p.1)) (hu : Seen w0 u (bls p.2.1)) (hb1 : 1 ≤ p.1.length) (hb2 : p.1.length ≤ 12) (hkl : p.2.1.length = p.1.length)
    (hK : OwnStrs 9 w lo hi vk K0) (hKl : K0.length = p.1.length) (hb0 : Below w0.heap.size w0 w) (hlo : w0.heap.size ≤ lo) (h0w : w0.heap.size ≤ w.heap.size) :
    Calls Try.prog 54 #[.agg #[.int .i64 (s : Int), .string (str tx)], .agg #[v, u, .int .i64 p.2.2], vk] w (RetSplit w lo hi vk p (blkN s p.1.length)) := by
  obtain ⟨g, cap, hvk, hg1, hg2, hcp1, hcp2⟩ := hK.shape (by omega)
  rw [hKl] at hvk hcp1
  subst hvk
  obtain ⟨A, c, rfl, hlc, hcm, hx⟩ := hv
  obtain ⟨B, d, rfl, hld, hdm, hy⟩ := hu
  rw [strs_length] at hlc hx
  rw [bls_length] at hld hy
  simp only [strs_length, bls_length]
  obtain ⟨bb, off, rfl, hbl, hcell⟩ := hx hb1
  obtain ⟨bb', off', rfl, hbl', hcell'⟩ := hy (by omega)
  have HTB : Hid (∀ q, q < p.1.length → w0.cell? ⟨bb, off + q, none⟩ = some (.string (str (p.1.getD q [])))) := Lib.hid (fun q hq => by rw [getD_lt hq []]; exact hcell q _ (strs_get p.1 q hq))
  have HKB : Hid (∀ q, q < p.1.length → w0.cell? ⟨bb', off' + q, none⟩ = some (.bool (knw p q))) := Lib.hid (fun q hq => hcell' q _ (bls_getD p.2.1 q (by omega)))
  have HTN := Lib.hid (tblK_nil p)
  have HTL := Lib.hid (tblK_length p)
  have HTY := Lib.hid (fun l q => @tblK_yes p l q)
  have HTNO := Lib.hid (fun l q => @tblK_no p l q)
  have HQ : Hid (∀ k, k < (blkN s p.1.length).length → (blkN s p.1.length).getD k 0 < p.1.length) := Lib.hid (fun k hk => (blkK_mem.1 (show (blkN s p.1.length).getD k 0 ∈ blkK _ _ by rw [getD_lt hk 0]; exact List.getElem_mem hk)).1)
  have HKM : Hid ((blkN s p.1.length).length ≤ 12) := Lib.hid (by have := blkK_len (inF s p.1.length) p.1.length; show (blkK _ _).length ≤ _; omega)
  have HBR : Hid (blkR (s : Int) (p.1.length : Int) = intL (blkN s p.1.length) ∧ blkOk (s : Int) (p.1.length : Int) = true) := by
    have : blkOk (s : Int) (p.1.length : Int) = true := by simp [blkOk, seedOk, bcOk]; omega
    refine Lib.hid ⟨?_, this⟩
    unfold blkR; rw [if_pos this]; simp
  generalize hz : p.2.2 = zz at *
  rw [hkl] at *
  generalize hbb : p.1.length = b at *
  have HBB := Lib.hid hbb
  generalize blkN s b = ks at *
  clear hx hy hcell hcell' hbb hkl
  unfold maxLen at hcm hdm hcp2
  have a1 := turn_alloc w (.cells #[.int .i64 (s : Int), .string (str tx)] 59)
  have c0 := alloc_duo0 w (.int .i64 (s : Int)) (.string (str tx)) 59
  have z1 := World.size_alloc w (.cells #[.int .i64 (s : Int), .string (str tx)] 59)
  have a2 := turn_alloc (w.alloc (.cells #[.int .i64 (s : Int), .string (str tx)] 59)) (.cells #[.slice (some ⟨bb, off, none⟩) b c, .slice (some ⟨bb', off', none⟩) b d, .int .i64 zz] 33)
  have e0 := alloc_tri0 (w.alloc (.cells #[.int .i64 (s : Int), .string (str tx)] 59)) (.slice (some ⟨bb, off, none⟩) b c) (.slice (some ⟨bb', off', none⟩) b d) (.int .i64 zz) 33
  have e1 := alloc_tri1 (w.alloc (.cells #[.int .i64 (s : Int), .string (str tx)] 59)) (.slice (some ⟨bb, off, none⟩) b c) (.slice (some ⟨bb', off', none⟩) b d) (.int .i64 zz) 33
  have z2 := World.size_alloc (w.alloc (.cells #[.int .i64 (s : Int), .string (str tx)] 59)) (.cells #[.slice (some ⟨bb, off, none⟩) b c, .slice (some ⟨bb', off', none⟩) b d, .int .i64 zz] 33)
  rw [World.size_alloc] at e0 e1
  replace c0 := cell_turn a2 c0 (by omega)
  have k12 := turn_trans a1 a2 (by omega)
  have hKa := hK.keep k12 (by omega)
  have hhi := hK.2.1
  generalize hwa : ((w.alloc (.cells #[.int .i64 (s : Int), .string (str tx)] 59)).alloc (.cells #[.slice (some ⟨bb, off, none⟩) b c, .slice (some ⟨bb', off', none⟩) b d, .int .i64 zz] 33)) = wa at *
  have HWA := Lib.hid hwa
  have hcells : ∀ j, j < b → wa.cell? ⟨g, 0 + j, none⟩ = some (.string (str (K0.getD j []))) := fun j hj => by
    have h1 := hKa.1
    rw [hKl] at h1
    rw [Nat.zero_add, h1.cellAt j (by omega), strs_get _ j (by omega), getD_lt (by omega) []]
  have hfz : ∀ j, j < b → wa.frozen? ⟨g, 0 + j, none⟩ = false := fun j hj => by
    have h1 := hKa.1
    rw [hKl] at h1
    rw [Nat.zero_add]; exact h1.frozenAt j
  have hcl : ∀ ty, (Builtin.clear_ #[30] ty #[.slice (some ⟨g, 0, none⟩) b cap]).run Try.prog wa = .ok (.tuple #[]) (wa.setCells g 0 (List.replicate b (.string ⟨#[]⟩))) :=
    fun ty => Lib.run_clear_slice wa 30 9 ty (.string ⟨#[]⟩) Try.underlying30 zeroStr rfl rfl g 0 b cap (by omega) (fun j hj => by rw [hcells j hj]; rfl) hfz
  obtain ⟨hKb, kcl⟩ := texts_cleared hKa hKl
  rw [← HTN.out] at hKb
  have zwa : w.heap.size + 2 ≤ wa.heap.size := by omega
  have hle := kcl.size
  have kcl' : TurnIn lo hi wa (wa.setCells g 0 (List.replicate b (.string ⟨#[]⟩))) := ⟨kcl.os, kcl.tape, kcl.output, kcl.size, fun i h1 h2 => kcl.block i h1 (by omega)⟩
  have k12' : TurnIn lo hi w wa := ⟨k12.os, k12.tape, k12.output, k12.size, fun i h1 _ => k12.block i h1 (by omega)⟩
  have HKW := Lib.hid (turn_trans k12' kcl' (by omega))
  replace c0 := cell_keepT c0 (by omega) kcl (by omega)
  replace e0 := cell_keepT e0 (by omega) kcl (by omega)
  replace e1 := cell_keepT e1 (by omega) kcl (by omega)
  have HCL := Lib.hid hcl
  have HKB2 := Lib.hid hKb
  have HB0 := Lib.hid hb0
  clear hcells hfz hKa hK a1 a2 z1 z2 k12 kcl kcl' k12' hcl hKb hwa hb0
  go_enter Try.func54, Try.ntmps54
  go_wp2_with (simp only [HWA.out, HCL.out])
  generalize (wa.setCells g 0 (List.replicate b (.string ⟨#[]⟩))) = wb at *
  refine (blocksOf_own (s : Int) (b : Int) wb).mono ?_
  rintro e w1 ⟨v1, rfl, o1, k1⟩
  rw [HBR.out.2]
  rw [HBR.out.1] at o1
  have s1 := k1.size
  replace e0 := cell_turn k1 e0 (by omega)
  replace e1 := cell_turn k1 e1 (by omega)
  obtain ⟨A1, n1, cc1, rfl⟩ := own_isSlice o1.1
  have HLT := Lib.hid (fun g' e => (o1.1.lt g' e).1)
  obtain ⟨A1', c1', hv1, hlc1, hcm1, hx1⟩ := o1.seen
  rw [ints_length, intL_length] at hv1 hlc1 hx1
  simp only [Value.slice.injEq] at hv1
  obtain ⟨rfl, rfl, rfl⟩ := hv1
  unfold maxLen at hcm1
  have HX1 := Lib.hid hx1
  have HK1 := Lib.hid (HKB2.out.keep k1 (by omega))
  have HW1 := Lib.hid (turn_trans HKW.out k1 (by omega))
  have hkm := HKM.out
  have hz1 : w.heap.size + 2 ≤ w1.heap.size := by omega
  clear hx1 o1 k1 HKB2 HKW HCL HBR HKM
  generalize hmm : ks.length = m at *
  have HMM := Lib.hid hmm
  clear hmm
  go_wp2_with fail
  go_loopw [7, 24] (fun o i wr => ∃ k : Nat, k ≤ m ∧ i = .int .i64 k ∧ wr.ownsRow w1.heap.size 3 1 o (unk p (ks.take k)).length (ints (intL (unk p (ks.take k)))) ∧ OwnStrs 9 wr lo hi (.slice (some ⟨g, 0, none⟩) b cap) (tblK p (ks.take k)) ∧ TurnIn lo hi w1 wr)
    (fun _ i _ => m - (intOf i).toNat)
  case atStart => exact ⟨0, Nat.zero_le _, rfl, World.ownsRow_nil _ _ _ _, HK1.out, ⟨rfl, rfl, rfl, Nat.le_refl _, fun _ _ _ => rfl⟩⟩
  case round =>
    obtain ⟨k, hk, rfl, ho, hT, kr⟩ := hrel
    have zr := kr.size
    clear HK1
    have kk := turn_trans HW1.out kr (by omega)
    have hbw := kk.base HB0.out h0w (by omega)
    replace e0 := cell_keepT e0 (by omega) kr (by omega)
    replace e1 := cell_keepT e1 (by omega) kr (by omega)
    by_cases hlt : k < m
    · obtain ⟨b1, off1, rfl, hbl1, hcell1⟩ := HX1.out (by omega)
      have hki : (k : Int) < (m : Int) := by omega
      have hbg : b1 < lo ∨ hi ≤ b1 := by
        rcases Nat.lt_or_ge b1 lo with h | h
        · exact .inl h
        · exact .inr (by have := HLT.out b1 rfl; omega)
      have hcx := cell_keepT (hcell1 k _ (intL_get ks k (by rw [HMM.out]; exact hlt))) hbl1 kr hbg
      have hq := HQ.out k hlt
      have HTS := Lib.hid (take_snoc ks k (by rw [HMM.out]; exact hlt))
      generalize ks.getD k 0 = q at *
      have hcy := (hbw.cell (p := ⟨bb, off + q, none⟩) hbl).trans (HTB.out q hq)
      have hcz := (hbw.cell (p := ⟨bb', off' + q, none⟩) hbl').trans (HKB.out q hq)
      have hqi : (q : Int) < (b : Int) := by omega
      have htl : (tblK p (ks.take k)).length = b := HTL.out (ks.take k)
      have hco : wr.cell? ⟨g, q, none⟩ = some (.string (str ((tblK p (ks.take k)).getD q []))) := by
        have h1 := hT.1
        rw [htl] at h1
        rw [h1.cellAt q (by omega), strs_get _ q (by omega), getD_lt (by omega) []]
      have hfr : wr.frozen? ⟨g, q, none⟩ = false := by
        have h1 := hT.1
        rw [htl] at h1
        exact h1.frozenAt q
      obtain ⟨t, ht⟩ : ∃ t, t = (unk p (ks.take k)).length := ⟨_, rfl⟩
      have htk : t ≤ 12 := by
        have := List.length_filter_le (fun k => !knw p k) (ks.take k)
        have h3 : (ks.take k).length ≤ k := by simp; omega
        rw [ht]; unfold unk; omega
      have HTLN : Hid ((unk p (ks.take k)).length = t) := ht.symm
      rw [← ht] at ho
      have HO := Lib.hid ho
      have HTT := Lib.hid hT
      clear ho ht hT hcell1
      cases hkn : knw p q
      · rw [hkn] at hcz
        obtain ⟨hu1, _⟩ := unk_snoc_no (ks := ks.take k) hkn
        have HU1 := Lib.hid hu1
        have HT2 : Hid (OwnStrs 9 wr lo hi (.slice (some ⟨g, 0, none⟩) b cap) (tblK p (ks.take (k + 1)))) := by
          show OwnStrs _ _ _ _ _ _
          rw [HTS.out, HTNO.out _ _ hkn]; exact HTT.out
        have HO2 := Lib.hid (HO.out.alloc (.cells #[.int .i64 (q : Int)] 3))
        have KA := Lib.hid (turn_trans kr (turn_alloc wr (.cells #[.int .i64 (q : Int)] 3)) (by omega))
        have HT3 := Lib.hid (HT2.out.keep (turn_alloc wr (.cells #[.int .i64 (q : Int)] 3)) (by omega))
        clear hkn hu1 HO hco hfr HTT
        go_wp2_with (at_builtin; refine wpList_append1 rfl _ _ _ rfl w1.heap.size 3 _ _ Try.underlying22 infoInt rfl _ t _ rfl HO2.out wr.heap.size (.int .i64 (q : Int)) rfl ?c1 rfl ?c2 ?c3 ?c4 ?_)
        case c1 => simp
        case c2 => omega
        case c3 => omega
        case c4 => simp; omega
        intro v' w3 hown3 hg3 _
        have kg : TurnIn w1.heap.size (wr.alloc (.cells #[.int .i64 (q : Int)] 3)).heap.size (wr.alloc (.cells #[.int .i64 (q : Int)] 3)) w3 := TurnIn.of_grown hg3 (fun g' e => HO2.out.lt g' e)
        have k3 : TurnIn lo hi w1 w3 := turn_trans KA.out kg (by omega)
        have hT4 := HT3.out.keep kg (by omega)
        have hon : w3.ownsRow w1.heap.size 3 1 v' (unk p (ks.take (k + 1))).length (ints (intL (unk p (ks.take (k + 1))))) := by
          rw [HTS.out, HU1.out, intL_append, ints_append, List.length_append, HTLN.out]; exact hown3
        have HON := Lib.hid hon
        clear hown3 hg3 KA HO2 kg hon
        go_wp2_with fail
        go_roundw
        case rel => exact ⟨k + 1, by omega, by go_num, HON.out, hT4, k3⟩
        case measure => simp [intOf]; omega
      · rw [hkn] at hcz
        obtain ⟨hu1, _⟩ := unk_snoc_yes (ks := ks.take k) hkn
        have hst := HTT.out.store (q := q) (x := p.1.getD q []) htl (HTY.out (ks.take k) q hkn)
        have kS := turn_setCell wr g q (.string (str (p.1.getD q [])))
        have kS' : TurnIn lo hi wr (wr.setCell ⟨g, q, none⟩ (.string (str (p.1.getD q [])))) := ⟨kS.os, kS.tape, kS.output, kS.size, fun i h1 h2 => kS.block i h1 (by omega)⟩
        have hon := owns_turn HO.out (fun g' e => (HO.out.lt g' e).2) kS (by omega)
        have HON : Hid ((wr.setCell ⟨g, q, none⟩ (.string (str (p.1.getD q [])))).ownsRow w1.heap.size 3 1 u7 (unk p (ks.take (k + 1))).length (ints (intL (unk p (ks.take (k + 1)))))) := by
          show World.ownsRow _ _ _ _ _ _ _
          rw [HTS.out, hu1, HTLN.out]; exact hon
        have HST : Hid (OwnStrs 9 (wr.setCell ⟨g, q, none⟩ (.string (str (p.1.getD q [])))) lo hi (.slice (some ⟨g, 0, none⟩) b cap) (tblK p (ks.take (k + 1)))) := by
          show OwnStrs _ _ _ _ _ _
          rw [HTS.out]; exact hst
        have HKS := Lib.hid (turn_trans kr kS' (by omega))
        generalize p.1.getD q [] = bt at *
        clear hkn hu1 hst kS kS' hon HO HTT htl
        go_wp2_with fail
        go_roundw
        case rel => exact ⟨k + 1, by omega, by go_num, HON.out, HST.out, HKS.out⟩
        case measure => simp [intOf]; omega
    · have hke : k = m := by omega
      have hki : ¬ (k : Int) < (m : Int) := by omega
      have hall : ks.take k = ks := List.take_of_length_le (by rw [HMM.out]; omega)
      rw [hall] at ho hT
      have hox : OwnInts 3 wr w.heap.size wr.heap.size u7 (intL (unk p ks)) := ⟨own_base (by rw [intL_length]; exact ho) (by omega), Nat.le_refl _, fun g' e => (ho.lt g' e).2⟩
      have HOX := Lib.hid hox
      have HTX := Lib.hid hT
      have HKK := Lib.hid kk
      clear ho hox hT hall kk
      go_wp2_with fail
      go_ret
      exact ⟨u7, rfl, HOX.out, HTX.out, HKK.out⟩

end Go.Proofs.Ytjklngheehhggaa

/- Chapter 9: a state with one block more, the program's withBlock. -/
namespace G294
open Go Go.RowKit
/-- three cells of a variable, each of which may be written -/
structure BoxT (B : Nat) (x y z : Value) (W : World) : Prop where
  c0 : W.cell? ⟨B, 0, none⟩ = some x
  c1 : W.cell? ⟨B, 1, none⟩ = some y
  c2 : W.cell? ⟨B, 2, none⟩ = some z
  f0 : W.frozen? ⟨B, 0, none⟩ = false
  f1 : W.frozen? ⟨B, 1, none⟩ = false
  f2 : W.frozen? ⟨B, 2, none⟩ = false
  lt : B < W.heap.size
section
variable {B a b : Nat} {x y z : Value} {W W' X : World} {T : TypeId}
theorem frz_keep {o : Nat} {x : Bool} (h : W.frozen? ⟨B, o, none⟩ = x) (hl : B < W.heap.size) (t : TurnIn a b W W') (d : B < a ∨ b ≤ B) : W'.frozen? ⟨B, o, none⟩ = x := by
  have e := t.block B hl (by omega)
  simp only [World.frozen?] at h ⊢
  rw [e]; exact h
theorem boxT_new (X : World) (x y z : Value) (T : TypeId) : BoxT X.heap.size x y z (X.alloc (.cells #[x, y, z] T)) := ⟨by simp, by simp, by simp, by simp, by simp, by simp, by simp⟩
theorem BoxT.keep (h : BoxT B x y z W) (t : TurnIn a b W W') (d : B < a ∨ b ≤ B) : BoxT B x y z W' :=
  ⟨cell_keepT h.c0 h.lt t d, cell_keepT h.c1 h.lt t d, cell_keepT h.c2 h.lt t d, frz_keep h.f0 h.lt t d, frz_keep h.f1 h.lt t d, frz_keep h.f2 h.lt t d, Nat.lt_of_lt_of_le h.lt t.size⟩
theorem boxT_made (k : TurnIn 0 0 (X.alloc (.cells #[x, y, z] T)) W) : BoxT X.heap.size x y z W := (boxT_new X x y z T).keep k (by omega)
theorem boxT_mid {o : Obj} (k : TurnIn 0 0 ((X.alloc (.cells #[x, y, z] T)).alloc o) W) : BoxT X.heap.size x y z W := ((boxT_new X x y z T).keep (turn_alloc _ o) (by omega)).keep k (by omega)
theorem BoxT.set (h : BoxT B x y z W) (p q r : Value) : BoxT B p q r (((W.setCell ⟨B, 0, none⟩ p).setCell ⟨B, 1, none⟩ q).setCell ⟨B, 2, none⟩ r) := by
  have y1 : (W.setCell ⟨B, 0, none⟩ p).cell? ⟨B, 1, none⟩ = some y := (World.cell?_setCell_other _ _ _ _ (by simp)).trans h.c1
  have y2 : ((W.setCell ⟨B, 0, none⟩ p).setCell ⟨B, 1, none⟩ q).cell? ⟨B, 2, none⟩ = some z := (World.cell?_setCell_other _ _ _ _ (by simp)).trans ((World.cell?_setCell_other _ _ _ _ (by simp)).trans h.c2)
  refine ⟨?_, ?_, ?_, by simpa using h.f0, by simpa using h.f1, by simpa using h.f2, by simpa using h.lt⟩
  · exact (World.cell?_setCell_other _ _ _ _ (by simp)).trans ((World.cell?_setCell_other _ _ _ _ (by simp)).trans (World.cell?_setCell_same _ _ _ h.c0))
  · exact (World.cell?_setCell_other _ _ _ _ (by simp)).trans (World.cell?_setCell_same _ _ _ y1)
  · exact World.cell?_setCell_same _ _ _ y2
theorem turn_set3 (W : World) (B : Nat) (p q r : Value) : TurnIn B (B + 1) W (((W.setCell ⟨B, 0, none⟩ p).setCell ⟨B, 1, none⟩ q).setCell ⟨B, 2, none⟩ r) :=
  turn_trans (turn_trans (turn_setCell W B 0 p) (turn_setCell _ B 1 q) (by omega)) (turn_setCell _ B 2 r) (by omega)
end
/-- a new state of peeling in a new variable that is none of its blocks -/
def NewP (E E2 : TypeId) (w0 : World) (L : List (List UInt8)) (Z : List Bool) (m : Int) (s : Value) (W : World) : Prop :=
  ∃ B x y, s = .pointer (some ⟨B, 0, none⟩) ∧ BoxT B x y (.int .i64 m) W ∧ w0.heap.size ≤ B ∧ (∃ l1 h1 l2 h2, w0.heap.size ≤ l1 ∧ w0.heap.size ≤ l2 ∧ (h1 ≤ l2 ∨ h2 ≤ l1) ∧ (B < l1 ∨ h1 ≤ B) ∧ (B < l2 ∨ h2 ≤ B) ∧ OwnStrs E W l1 h1 x L ∧ OwnBools E2 W l2 h2 y Z) ∧ TurnIn 0 0 w0 W
section
variable {E E2 : TypeId} {w0 X W : World} {L : List (List UInt8)} {Z : List Bool} {m : Int} {x y : Value} {l1 h1 l2 h2 B : Nat} {T : TypeId}
theorem newP_new (k : TurnIn 0 0 w0 X) (o1 : OwnStrs E X l1 h1 x L) (o2 : OwnBools E2 X l2 h2 y Z) (g1 : w0.heap.size ≤ l1) (g2 : w0.heap.size ≤ l2) (d : h1 ≤ l2 ∨ h2 ≤ l1) : NewP E E2 w0 L Z m (.pointer (some ⟨X.heap.size, 0, none⟩)) (X.alloc (.cells #[x, y, .int .i64 m] T)) := by
  have b1 := o1.2.1
  have b2 := o2.2.1
  exact ⟨_, _, _, rfl, boxT_new _ _ _ _ _, k.size, ⟨l1, h1, l2, h2, g1, g2, d, by omega, by omega, o1.keep (turn_alloc _ _) (by omega), o2.keep (turn_alloc _ _) (by omega)⟩, turn_trans k (turn_alloc _ _) (by omega)⟩
theorem newP_mid {o : Obj} (k : TurnIn 0 0 w0 X) (o1 : OwnStrs E X l1 h1 x L) (g1 : w0.heap.size ≤ l1) (o2 : OwnBools E2 ((X.alloc (.cells #[x, y, .int .i64 m] T)).alloc o) (X.heap.size + 1) (X.heap.size + 2) y Z) :
    NewP E E2 w0 L Z m (.pointer (some ⟨X.heap.size, 0, none⟩)) ((X.alloc (.cells #[x, y, .int .i64 m] T)).alloc o) := by
  have b1 := o1.2.1
  have ks := k.size
  exact ⟨_, _, _, rfl, (boxT_new _ _ _ _ _).keep (turn_alloc _ _) (by omega), k.size, ⟨l1, h1, _, _, g1, by omega, by omega, by omega, by omega, (o1.keep (turn_alloc _ _) (by omega)).keep (turn_alloc _ _) (by omega), o2⟩, turn_trans (turn_trans k (turn_alloc _ _) (by omega)) (turn_alloc _ _) (by omega)⟩
theorem newP_set {p q r : Value} (b : BoxT B p q r X) (hB : w0.heap.size ≤ B) (k : TurnIn 0 0 w0 X) (o1 : OwnStrs E X l1 h1 x L) (o2 : OwnBools E2 X l2 h2 y Z) (g1 : w0.heap.size ≤ l1) (g2 : w0.heap.size ≤ l2) (d : h1 ≤ l2 ∨ h2 ≤ l1) (d1 : B < l1 ∨ h1 ≤ B) (d2 : B < l2 ∨ h2 ≤ B) :
    NewP E E2 w0 L Z m (.pointer (some ⟨B, 0, none⟩)) (((X.setCell ⟨B, 0, none⟩ x).setCell ⟨B, 1, none⟩ y).setCell ⟨B, 2, none⟩ (.int .i64 m)) := by
  have t := turn_set3 X B x y (.int .i64 m)
  refine ⟨B, x, y, rfl, b.set _ _ _, hB, ⟨l1, h1, l2, h2, g1, g2, d, d1, d2, o1.keep t (by omega), o2.keep t (by omega)⟩, ?_⟩
  exact ⟨t.os.trans k.os, t.tape.trans k.tape, t.output.trans k.output, Nat.le_trans k.size t.size, fun i hi _ => (t.block i (Nat.lt_of_lt_of_le hi k.size) (by omega)).trans (k.block i hi (by omega))⟩
theorem turn_old (k : TurnIn 0 0 w0 X) (t : TurnIn B (B + 1) X W) (hB : w0.heap.size ≤ B) : TurnIn 0 0 w0 W :=
  ⟨t.os.trans k.os, t.tape.trans k.tape, t.output.trans k.output, Nat.le_trans k.size t.size, fun i hi _ => (t.block i (Nat.lt_of_lt_of_le hi k.size) (by omega)).trans (k.block i hi (by omega))⟩
theorem newP_setmk {p q r : Value} {o : Obj} (b : BoxT B p q r X) (hB : w0.heap.size ≤ B) (k : TurnIn 0 0 w0 X) (o1 : OwnStrs E X l1 h1 x L) (g1 : w0.heap.size ≤ l1) (d1 : B < l1 ∨ h1 ≤ B) (o2 : OwnBools E2 ((((X.setCell ⟨B, 0, none⟩ x).setCell ⟨B, 1, none⟩ y).setCell ⟨B, 2, none⟩ (.int .i64 m)).alloc o) X.heap.size (X.heap.size + 1) y Z) :
    NewP E E2 w0 L Z m (.pointer (some ⟨B, 0, none⟩)) ((((X.setCell ⟨B, 0, none⟩ x).setCell ⟨B, 1, none⟩ y).setCell ⟨B, 2, none⟩ (.int .i64 m)).alloc o) := by
  have t := turn_set3 X B x y (.int .i64 m)
  have a := turn_alloc (((X.setCell ⟨B, 0, none⟩ x).setCell ⟨B, 1, none⟩ y).setCell ⟨B, 2, none⟩ (.int .i64 m)) o
  have bl := b.lt
  have e1 := o1.2.1
  have ks := k.size
  exact ⟨B, x, y, rfl, (b.set _ _ _).keep a (by omega), hB, ⟨l1, h1, _, _, g1, ks, .inl e1, d1, .inl bl, (o1.keep t (by omega)).keep a (by omega), o2⟩, turn_trans (turn_old k t hB) a (by omega)⟩
end
theorem OwnBools.shape {E : TypeId} {w : World} {lo hi : Nat} {v : Value} {l : List Bool} (h : OwnBools E w lo hi v l) (h1 : 1 ≤ l.length) : ∃ g cap, v = .slice (some ⟨g, 0, none⟩) l.length cap ∧ lo ≤ g ∧ g < hi ∧ l.length ≤ cap ∧ cap ≤ maxLen := by
  rcases h.1.2 with ⟨_, hn⟩ | ⟨g, cap, cur, hh, hb, hg, hc1, hc2, _⟩
  · omega
  · exact ⟨g, cap, hh, hb, h.2.2 g (by rw [hh]; rfl), hc1, hc2⟩
theorem copy_bools {P : Program} {E dT sT : TypeId} {w : World} {lo hi g b cap d : Nat} {A : Option Addr} {Z K : List Bool} (hu : P.underlying dT = some (.slice E)) (hs : (P.info? E).map (·.size) = some 1) (h : OwnBools E w lo hi (.slice (some ⟨g, 0, none⟩) b cap) Z) (hZ : Z.length = b) (hb : 1 ≤ b) (hK : Seen w (.slice A b d) (bls K)) (hKl : K.length = b) :
    ∃ w', (∀ ty, (Builtin.copy_ #[dT, sT] ty #[.slice (some ⟨g, 0, none⟩) b cap, .slice A b d]).run P w = .ok (goInt b) w') ∧ OwnBools E w' lo hi (.slice (some ⟨g, 0, none⟩) b cap) K ∧ TurnIn g (g + 1) w w' := by
  obtain ⟨A', d', e, h1, h2, h3⟩ := hK
  simp only [bls_length, Value.slice.injEq] at e h1 h3
  obtain ⟨rfl, _, rfl⟩ := e
  obtain ⟨b', off, rfl, hbl, hcell⟩ := h3 (by omega)
  have hown := h.1
  rw [hZ] at hown
  have hx : (bls Z).length = b := by simp [hZ]
  have hst := own_setCells (bls K) 0 w (bls Z) hown (by simp [hKl])
  refine ⟨w.setCells g 0 (bls K), fun ty => ?_, ?_, TurnIn.of_grown hst.2 (fun g' e => by simp at e; omega)⟩
  · have := run_copy_cells (P := P) w dT sT ty E g 0 b cap ⟨b', off, none⟩ b d (bls K) hu hs (by simp [hKl]) (fun j v hj => by rw [Addr.add_lit]; exact hcell j v hj) (fun j hj => by
      rw [bls_length, hKl] at hj
      rw [Nat.zero_add, hown.cellAt j (by omega), List.getElem?_eq_getElem (by omega)]; rfl) (fun j hj => by rw [Nat.zero_add]; exact hown.frozenAt j) (bls_oneC K)
    rw [bls_length, hKl] at this
    exact this
  · refine ⟨?_, Nat.le_trans h.2.1 hst.2.size, h.2.2⟩
    have h9 := hst.1
    simp only [List.take_zero, List.nil_append, Nat.zero_add, bls_length] at h9
    rw [List.drop_of_length_le (by rw [hx, hKl]; exact Nat.le_refl _), List.append_nil] at h9
    rw [hKl]; exact h9
theorem madeBools (W : World) (b : Nat) (E : TypeId) (hb : b ≤ 1000) : OwnBools E (W.alloc (.cells (madeCells #[.bool false] b) E)) W.heap.size (W.heap.size + 1) (.slice (some ⟨W.heap.size, 0, none⟩) b b) (List.replicate b false) := by
  have h := World.ownsRow_lit (base := W.heap.size) (e := E) (size := 1) W (madeCells #[.bool false] b) b (Nat.le_refl _) (by unfold maxLen; omega) (by rw [size_madeCells]; omega)
  rw [toList_madeCells_one, ← bls_rep] at h
  refine ⟨by rw [List.length_replicate]; exact h, by simp, fun g e => ?_⟩
  simp only [Value.ownBlock, Option.some.injEq] at e
  omega
end G294
namespace Go.Proofs.Ytjklngheehhggaa
open Go.RowKit G294

theorem makeBools (b : Nat) (hb : b ≤ 1000) (W : World) : (Instr.makeSlice 31 (.int .i64 (b : Int)) (.int .i64 (b : Int))).run Try.prog W = .ok (.slice (some ⟨W.heap.size, 0, none⟩) b b) (W.alloc (.cells (madeCells #[.bool false] b) 4)) := by
  obtain ⟨i0, hi0, hz0, hz1, hz2⟩ := info_parts infoBool
  have h := run_make (P := Try.prog) W 31 4 i0 (.bool false) Try.underlying31 hi0 hz0 .i64 .i64 (b : Int) (b : Int) (by omega) (by omega) (by rw [hz2]; omega) (by omega)
  rw [hz1, show (Value.bool false).cells = #[.bool false] from rfl] at h
  simpa using h

set_option maxRecDepth 100000 in
set_option maxHeartbeats 4000000 in
theorem withBlock_own (v u : Value) (p : Pee) (k : Nat) (tx : List UInt8) (w : World) (hv : Seen w v (strs p.1)) (hu : Seen w u (bls p.2.1)) (hb1 : 1 ≤ p.1.length) (hb2 : p.1.length ≤ 12) (hkl : p.2.1.length = p.1.length) (hk : k < p.1.length) (hl : ∀ t ∈ p.1, t.length ≤ 1000000) (hm : 0 ≤ p.2.2 ∧ p.2.2 ≤ 12) :
    Calls Try.prog 55 #[.agg #[v, u, .int .i64 p.2.2], .int .i64 (k : Int), .string (str tx)] w (RetP 9 4 w (putP p k tx)) := by
  have HV := Lib.hid hv
  have HU := Lib.hid hu
  obtain ⟨A, c, rfl, hlc, hcm, hx⟩ := hv
  obtain ⟨B, d, rfl, hld, hdm, hy⟩ := hu
  rw [strs_length] at hlc hx
  rw [bls_length] at hld hy
  simp only [strs_length, bls_length] at HV HU ⊢
  generalize hz : p.2.2 = zz at *
  rw [hkl] at hld hy HU ⊢
  generalize hbb : p.1.length = b at *
  have HBB := Lib.hid hbb
  have HKL := Lib.hid hkl
  clear hkl
  have HPP : Hid ((p.1.set k tx, p.2.1.set k true, zz + 1) = putP p k tx) := Lib.hid (by rw [← hz]; rfl)
  have HL := Lib.hid hl
  unfold maxLen at hcm hdm
  clear hx hy hbb hl
  have a1 := turn_alloc w (.cells #[.slice A b c, .slice B b d, .int .i64 zz] 33)
  have e0 := alloc_tri0 w (.slice A b c) (.slice B b d) (.int .i64 zz) 33
  have e1 := alloc_tri1 w (.slice A b c) (.slice B b d) (.int .i64 zz) 33
  have e2 := alloc_tri2 w (.slice A b c) (.slice B b d) (.int .i64 zz) 33
  have z1 := World.size_alloc w (.cells #[.slice A b c, .slice B b d, .int .i64 zz] 33)
  have a2 := turn_alloc (w.alloc (.cells #[.slice A b c, .slice B b d, .int .i64 zz] 33)) (.cells #[.slice none 0 0, .slice none 0 0, .int .i64 0] 33)
  have r0 := alloc_tri0 (w.alloc (.cells #[.slice A b c, .slice B b d, .int .i64 zz] 33)) (.slice none 0 0) (.slice none 0 0) (.int .i64 0) 33
  have r1 := alloc_tri1 (w.alloc (.cells #[.slice A b c, .slice B b d, .int .i64 zz] 33)) (.slice none 0 0) (.slice none 0 0) (.int .i64 0) 33
  have r2 := alloc_tri2 (w.alloc (.cells #[.slice A b c, .slice B b d, .int .i64 zz] 33)) (.slice none 0 0) (.slice none 0 0) (.int .i64 0) 33
  have z2 := World.size_alloc (w.alloc (.cells #[.slice A b c, .slice B b d, .int .i64 zz] 33)) (.cells #[.slice none 0 0, .slice none 0 0, .int .i64 0] 33)
  replace e0 := cell_turn a2 e0 (by omega)
  replace e1 := cell_turn a2 e1 (by omega)
  replace e2 := cell_turn a2 e2 (by omega)
  rw [World.size_alloc] at r0 r1 r2
  have k12 := turn_trans a1 a2 (by omega)
  have HR := Lib.hid (boxT_new (w.alloc (.cells #[.slice A b c, .slice B b d, .int .i64 zz] 33)) (.slice none 0 0) (.slice none 0 0) (.int .i64 0) 33)
  rw [World.size_alloc] at HR
  have HMK := Lib.hid (makeBools b (by omega))
  have hmk := HMK.out
  go_enter Try.func55, Try.ntmps55
  go_wp2_with fail
  generalize ((w.alloc (.cells #[.slice A b c, .slice B b d, .int .i64 zz] 33)).alloc (.cells #[.slice none 0 0, .slice none 0 0, .int .i64 0] 33)) = wa at *
  have HC : Hid (∀ W, Below wa.heap.size wa W → Calls Try.prog 68 #[.slice A b c] W (RetStrs 9 W p.1)) := Lib.hid (fun W hb => copiesOf_own _ p.1 W ((HV.out.touch k12).below hb) (by rw [HBB.out]; omega) HL.out)
  have hS0 : Below wa.heap.size wa wa.drew ∧ wa.drew.cell? ⟨w.heap.size, 0, none⟩ = some (.slice A b c) ∧ wa.drew.cell? ⟨w.heap.size, 1, none⟩ = some (.slice B b d) ∧ wa.drew.cell? ⟨w.heap.size, 2, none⟩ = some (.int .i64 zz) := ⟨(Below.refl _ _).drew, e0, e1, e2⟩
  have hlt0 : w.heap.size < wa.heap.size := by omega
  have hlt1 : w.heap.size + 2 ≤ wa.heap.size := by omega
  clear z1 z2 a1 a2
  have HSX : Hid (∀ W, Below wa.heap.size wa W → (Below wa.heap.size wa W ∧ W.cell? ⟨w.heap.size, 0, none⟩ = some (.slice A b c) ∧ W.cell? ⟨w.heap.size, 1, none⟩ = some (.slice B b d) ∧ W.cell? ⟨w.heap.size, 2, none⟩ = some (.int .i64 zz))) := Lib.hid (fun W hb => ⟨hb, (hb.cell (p := ⟨w.heap.size, 0, none⟩) hlt0).trans e0, (hb.cell (p := ⟨w.heap.size, 1, none⟩) hlt0).trans e1, (hb.cell (p := ⟨w.heap.size, 2, none⟩) hlt0).trans e2⟩)
  have hwz : IntKind.i64.wrap (zz + 1) = zz + 1 := IntWalk.i64_in _ (by omega)
  have hmo := fun W => madeBools W b 4 (by omega)
  have HMO := Lib.hid hmo
  have A1 : ∀ (W : World) (x y z : Value) (o : Obj), ((W.alloc (.cells #[x, y, z] 33)).alloc o).cell? ⟨W.heap.size, 0, none⟩ = some x := fun W x y z o => ((boxT_new W x y z 33).keep (turn_alloc _ o) (by omega)).c0
  have A2 : ∀ (W : World) (x y z : Value) (o : Obj), ((W.alloc (.cells #[x, y, z] 33)).alloc o).cell? ⟨W.heap.size, 1, none⟩ = some y := fun W x y z o => ((boxT_new W x y z 33).keep (turn_alloc _ o) (by omega)).c1
  have A3 : ∀ (W : World) (x y z : Value) (o : Obj), ((W.alloc (.cells #[x, y, z] 33)).alloc o).cell? ⟨W.heap.size, 2, none⟩ = some z := fun W x y z o => ((boxT_new W x y z 33).keep (turn_alloc _ o) (by omega)).c2
  have A4 : ∀ (W : World) (x y z : Value) (o : Obj), ((W.alloc (.cells #[x, y, z] 33)).alloc o).frozen? ⟨W.heap.size, 0, none⟩ = false := fun W x y z o => ((boxT_new W x y z 33).keep (turn_alloc _ o) (by omega)).f0
  have A5 : ∀ (W : World) (x y z : Value) (o : Obj), ((W.alloc (.cells #[x, y, z] 33)).alloc o).frozen? ⟨W.heap.size, 1, none⟩ = false := fun W x y z o => ((boxT_new W x y z 33).keep (turn_alloc _ o) (by omega)).f1
  have A6 : ∀ (W : World) (x y z : Value) (o : Obj), ((W.alloc (.cells #[x, y, z] 33)).alloc o).frozen? ⟨W.heap.size, 2, none⟩ = false := fun W x y z o => ((boxT_new W x y z 33).keep (turn_alloc _ o) (by omega)).f2
  go_cut [7] from 8 to 18 (fun s7 wx => NewP 9 4 wa p.1 (List.replicate b false) (zz + 1) s7 wx)
  case first =>
    go_region_held3 (fun W => Below wa.heap.size wa W ∧ W.cell? ⟨w.heap.size, 0, none⟩ = some (.slice A b c) ∧ W.cell? ⟨w.heap.size, 1, none⟩ = some (.slice B b d) ∧ W.cell? ⟨w.heap.size, 2, none⟩ = some (.int .i64 zz))
      (first | exact hS0 | exact HSX.out _ (by assumption) | (refine HSX.out _ ?_; repeat' (first | exact hb6 | exact Below.refl _ _ | refine Below.drew ?_ | refine Below.alloc ?_ (by first | exact s6 | exact Nat.le_refl _ | (simp <;> omega)) _ | refine Below.setCell ?_ (by first | exact s6 | exact Nat.le_refl _ | (simp <;> omega)) _)))
      ((go_at_call 68; refine (HC.out _ (And.left (by assumption))).mono ?_; rintro e w6 ⟨u6, rfl, o6, k6⟩; obtain ⟨A6, n6, c6, rfl⟩ := o6.isSlice; have hb6 : Below wa.heap.size wa w6 := k6.base (And.left (by assumption)) (Below.size (And.left (by assumption))) (by omega); have s6 := hb6.size; (first | (have fb := boxT_mid (undrew k6); (try simp only [World.size_alloc] at fb); have hBx := fb; obtain ⟨b0, b1, b2, b3, b4, b5, b6⟩ := fb) | (have fb := boxT_made (undrew k6); (try simp only [World.size_alloc] at fb); have hBx := fb; obtain ⟨b0, b1, b2, b3, b4, b5, b6⟩ := fb) | skip)))
    all_goals
      go_wp2_with fail
      go_meet
    all_goals have kw6 := TurnIn.of_below hb6
    all_goals have l6 := o6.2.1
    all_goals first
      | (have h := newP_new (T := 33) (m := zz + 1) (turn_trans kw6 (turn_alloc w6 (.cells (madeCells #[.bool false] b) 4)) (by omega)) (o6.keep (turn_alloc w6 (.cells (madeCells #[.bool false] b) 4)) (by omega)) (HMO.out w6) (by first | exact Nat.le_refl _ | (simp <;> omega) | omega) s6 (.inl (Nat.le_refl _)); rw [World.size_alloc] at h; exact h)
      | (have o2 := HMO.out (w6.alloc (.cells #[.slice A6 n6 c6, .slice (some ⟨w6.heap.size + 1, 0, none⟩) b b, .int .i64 (zz + 1)] 33)); rw [World.size_alloc] at o2; exact newP_mid kw6 o6 (by first | exact Nat.le_refl _ | (simp <;> omega) | omega) o2)
      | (have o2 := (HMO.out wa).keep (undrew k6) (by omega); exact newP_new kw6 o6 o2 (by first | exact Nat.le_refl _ | (simp <;> omega) | omega) (Nat.le_refl _) (.inr (by first | exact Nat.le_refl _ | (simp <;> omega) | omega)))
      | (have o2 := ((HMO.out wa).keep (turn_alloc _ _) (by omega)).keep (undrew k6) (by omega); exact newP_set hBx (Nat.le_succ _) kw6 o6 o2 (by first | exact Nat.le_refl _ | (simp <;> omega) | omega) (Nat.le_refl _) (.inr (by first | exact Nat.le_refl _ | (simp <;> omega) | omega)) (.inl (by first | exact Nat.le_refl _ | (simp <;> omega) | omega)) (.inr (Nat.le_refl _)))
      | (have o2 := HMO.out (((w6.setCell ⟨wa.heap.size, 0, none⟩ (.slice A6 n6 c6)).setCell ⟨wa.heap.size, 1, none⟩ (.slice (some ⟨w6.heap.size, 0, none⟩) b b)).setCell ⟨wa.heap.size, 2, none⟩ (.int .i64 (zz + 1))); simp only [World.size_setCell] at o2; exact newP_setmk hBx (Nat.le_refl _) kw6 o6 (by first | exact Nat.le_refl _ | (simp <;> omega) | omega) (.inl (by first | exact Nat.le_refl _ | (simp <;> omega) | omega)) o2)
      | (have o2 := (HMO.out (wa.alloc (.cells #[.slice none 0 0, .slice none 0 0, .int .i64 0] 33))).keep (undrew k6) (by omega); rw [World.size_alloc] at o2; exact newP_set hBx (Nat.le_refl _) kw6 o6 o2 (by first | exact Nat.le_refl _ | (simp <;> omega) | omega) (Nat.le_succ _) (.inr (by first | exact Nat.le_refl _ | (simp <;> omega) | omega)) (.inl (by first | exact Nat.le_refl _ | (simp <;> omega) | omega)) (.inl (Nat.lt_succ_self _)))
  case rest =>
    obtain ⟨B9, x9, y9, rfl, hBx, hB9, ⟨l1, h1, l2, h2, g1, g2, hd, hd1, hd2, o1, o2⟩, k9⟩ := hcut
    generalize hwc : wc = w9 at *
    clear hwc HSX hS0 HC A1 A2 A3 A4 A5 A6 hmo HMO hmk HMK
    have s9 := k9.size
    obtain ⟨gx, cx, rfl, hx1, hx2, hcx1, hcx2, hxc, hxf⟩ := o1.shape (by rw [HBB.out]; exact hb1)
    rw [HBB.out] at hBx hcx1 hxc o1
    obtain ⟨gy, cy, rfl, hy1, hy2, hcy1, hcy2⟩ := o2.shape (by rw [List.length_replicate]; exact hb1)
    rw [List.length_replicate] at hBx hcy1 o2
    replace e1 := cell_turn k9 e1 hlt0
    have kk9 := turn_trans k12 k9 (by omega)
    obtain ⟨wd, hcp, oy, kd⟩ := copy_bools (P := Try.prog) (dT := 31) (sT := 31) Try.underlying31 (by kernel_rfl) o2 (by simp) hb1 (HU.out.touch kk9) HKL.out
    unfold maxLen at hcx2 hcy2
    have hne1 : gx ≠ B9 := by omega
    have hne2 : gy ≠ B9 := by omega
    have hne3 : gx ≠ gy := by omega
    have sd := kd.size
    have hBd := hBx.keep kd (by omega)
    have o1d := o1.keep kd (by omega)
    have hxk := cell_keepT (hxc k hk) (by have := o1.2.1; omega) kd (by omega)
    have hxfk := frz_keep (hxf k) (by have := o1.2.1; omega) kd (by omega)
    have hT := Lib.hid k12
    have hki : (k : Int) < (b : Int) := by omega
    have oxs : OwnStrs 9 (wd.setCell ⟨gx, k, none⟩ (.string (str tx))) l1 h1 (.slice (some ⟨gx, 0, none⟩) b cx) (p.1.set k tx) := o1d.store HBB.out rfl
    have ks1 := turn_setCell wd gx k (.string (str tx))
    have oy1 := oy.keep ks1 (by omega)
    have hB1 := hBd.keep ks1 (by omega)
    have hyk := oy1.cellAt (k := k) (by rw [HKL.out]; exact hk)
    have hyfk := oy1.frozenAt k
    have oys : OwnBools 4 ((wd.setCell ⟨gx, k, none⟩ (.string (str tx))).setCell ⟨gy, k, none⟩ (.bool true)) l2 h2 (.slice (some ⟨gy, 0, none⟩) b cy) (p.2.1.set k true) := oy1.store HKL.out rfl
    have ks2 := turn_setCell (wd.setCell ⟨gx, k, none⟩ (.string (str tx))) gy k (.bool true)
    have oxs2 := oxs.keep ks2 (by omega)
    have hB2 := hB1.keep ks2 (by omega)
    have hR2 := (((HR.out.keep k9 (by omega)).keep kd (by omega)).keep ks1 (by omega)).keep ks2 (by omega)
    have kall := turn_old (turn_old (turn_old kk9 kd (by omega)) ks1 (by omega)) ks2 (by omega)
    have kS := turn_set3 ((wd.setCell ⟨gx, k, none⟩ (.string (str tx))).setCell ⟨gy, k, none⟩ (.bool true)) (w.heap.size + 1) (.slice (some ⟨gx, 0, none⟩) b cx) (.slice (some ⟨gy, 0, none⟩) b cy) (.int .i64 (zz + 1))
    have kend := turn_old kall kS (by omega)
    have sall := kS.size
    have oxf := oxs2.keep kS (by omega)
    have oyf := oys.keep kS (by omega)
    have HF : Hid (RetP 9 4 w (p.1.set k tx, p.2.1.set k true, zz + 1) (.returned (.agg #[.slice (some ⟨gx, 0, none⟩) b cx, .slice (some ⟨gy, 0, none⟩) b cy, .int .i64 (zz + 1)])) (((((wd.setCell ⟨gx, k, none⟩ (.string (str tx))).setCell ⟨gy, k, none⟩ (.bool true)).setCell ⟨w.heap.size + 1, 0, none⟩ (.slice (some ⟨gx, 0, none⟩) b cx)).setCell ⟨w.heap.size + 1, 1, none⟩ (.slice (some ⟨gy, 0, none⟩) b cy)).setCell ⟨w.heap.size + 1, 2, none⟩ (.int .i64 (zz + 1)))) := by
      have e := sall
      exact Lib.hid ⟨_, _, rfl, ⟨l1, h1, l2, h2, by omega, by have := oxf.2.1; omega, by omega, by have := oyf.2.1; omega, hd, oxf, oyf⟩, kend⟩
    clear oxf oyf kS kend sall kall oxs2 oxs oys oy oy1 ks1 ks2 kd k9 kk9 o1 o2 o1d hd hd1 hd2
    obtain ⟨p0, p1, p2, _, _, _, _⟩ := hBx
    obtain ⟨q0, q1, q2, _, _, _, _⟩ := hBd
    obtain ⟨t0, t1, t2, _, _, _, _⟩ := hB1
    obtain ⟨v0, v1, v2, _, _, _, _⟩ := hB2
    obtain ⟨y0, y1, y2, y3, y4, y5, y6⟩ := hR2
    go_wp2_with (simp only [hcp])
    refine bodyPost_ret (v := .agg #[.slice (some ⟨gx, 0, none⟩) b cx, .slice (some ⟨gy, 0, none⟩) b cy, .int .i64 (zz + 1)]) (by simp [results, Try.results55, go_sem, y0, y1, y2, y3, y4, y5]) rfl ?_
    exact HPP.out ▸ HF.out

end Go.Proofs.Ytjklngheehhggaa

/- Copies of states of peeling: the laws'. -/
namespace G294
open Go Go.RowKit
section
variable {B : Nat} {x y z : Value} {W : World}
theorem BoxT.set0 (h : BoxT B x y z W) (p : Value) : BoxT B p y z (W.setCell ⟨B, 0, none⟩ p) :=
  ⟨World.cell?_setCell_same _ _ _ h.c0, (World.cell?_setCell_other _ _ _ _ (by simp)).trans h.c1, (World.cell?_setCell_other _ _ _ _ (by simp)).trans h.c2, by simpa using h.f0, by simpa using h.f1, by simpa using h.f2, by simpa using h.lt⟩
theorem BoxT.set1 (h : BoxT B x y z W) (p : Value) : BoxT B x p z (W.setCell ⟨B, 1, none⟩ p) :=
  ⟨(World.cell?_setCell_other _ _ _ _ (by simp)).trans h.c0, World.cell?_setCell_same _ _ _ h.c1, (World.cell?_setCell_other _ _ _ _ (by simp)).trans h.c2, by simpa using h.f0, by simpa using h.f1, by simpa using h.f2, by simpa using h.lt⟩
theorem BoxT.set2 (h : BoxT B x y z W) (p : Value) : BoxT B x y p (W.setCell ⟨B, 2, none⟩ p) :=
  ⟨(World.cell?_setCell_other _ _ _ _ (by simp)).trans h.c0, (World.cell?_setCell_other _ _ _ _ (by simp)).trans h.c1, World.cell?_setCell_same _ _ _ h.c2, by simpa using h.f0, by simpa using h.f1, by simpa using h.f2, by simpa using h.lt⟩
end
end G294
namespace Go.Proofs.Ytjklngheehhggaa
open Go.RowKit G294

set_option maxRecDepth 100000 in
set_option maxHeartbeats 4000000 in
theorem toPeel_own (v u : Value) (s : Pee) (w : World) (hv : Seen w v (strs s.1)) (hu : Seen w u (bls s.2.1)) (hn1 : s.1.length ≤ 1048576) (hn2 : s.2.1.length ≤ 1048576) :
    Calls Try.prog 25 #[.agg #[v, u, .int .i64 s.2.2]] w (RetP 9 4 w s) := by
  obtain ⟨A, c, hvv⟩ := hv.len
  obtain ⟨B, d, huu⟩ := hu.len
  rw [strs_length] at hvv
  rw [bls_length] at huu
  subst hvv huu
  unfold RetP
  generalize hz : s.2.2 = zz at *
  generalize hn : s.1.length = n at *
  generalize hm : s.2.1.length = m at *
  have HN := Lib.hid hn
  have HM := Lib.hid hm
  have a1 := turn_alloc w (.cells #[.slice A n c, .slice B m d, .int .i64 zz] 45)
  have a2 := turn_alloc (w.alloc (.cells #[.slice A n c, .slice B m d, .int .i64 zz] 45)) (.cells #[.slice none 0 0, .slice none 0 0, .int .i64 0] 33)
  have a3 := turn_alloc ((w.alloc (.cells #[.slice A n c, .slice B m d, .int .i64 zz] 45)).alloc (.cells #[.slice none 0 0, .slice none 0 0, .int .i64 0] 33)) (.cells #[.slice none 0 0, .slice none 0 0, .int .i64 0] 33)
  have bl := ((boxT_new w (.slice A n c) (.slice B m d) (.int .i64 zz) 45).keep a2 (by omega)).keep a3 (by omega)
  have br := (boxT_new (w.alloc (.cells #[.slice A n c, .slice B m d, .int .i64 zz] 45)) (.slice none 0 0) (.slice none 0 0) (.int .i64 0) 33).keep a3 (by omega)
  have bp := boxT_new ((w.alloc (.cells #[.slice A n c, .slice B m d, .int .i64 zz] 45)).alloc (.cells #[.slice none 0 0, .slice none 0 0, .int .i64 0] 33)) (.slice none 0 0) (.slice none 0 0) (.int .i64 0) 33
  rw [World.size_alloc] at br
  rw [World.size_alloc, World.size_alloc] at bp
  have kb := turn_trans (turn_trans a1 a2 (by omega)) a3 (by omega)
  have z0 : (((w.alloc (.cells #[.slice A n c, .slice B m d, .int .i64 zz] 45)).alloc (.cells #[.slice none 0 0, .slice none 0 0, .int .i64 0] 33)).alloc (.cells #[.slice none 0 0, .slice none 0 0, .int .i64 0] 33)).heap.size = w.heap.size + 3 := by simp
  generalize hwa : (((w.alloc (.cells #[.slice A n c, .slice B m d, .int .i64 zz] 45)).alloc (.cells #[.slice none 0 0, .slice none 0 0, .int .i64 0] 33)).alloc (.cells #[.slice none 0 0, .slice none 0 0, .int .i64 0] 33)) = wa at *
  have HWA := Lib.hid hwa
  have HKB := Lib.hid kb
  have HS := Lib.hid (hv.touch kb)
  have HU := Lib.hid hu
  have HL := Lib.hid bl
  have HR := Lib.hid br
  have HP := Lib.hid bp
  have hz3 : w.heap.size + 3 ≤ wa.heap.size := by omega
  clear hv hu a1 a2 a3 kb z0 hwa hn hm bl br bp
  obtain ⟨p0, p1, p2, p3, p4, p5, p6⟩ := HL.out
  go_enter Try.func25, Try.ntmps25
  go_wp2_with (simp only [HWA.out])
  refine (toStringS_own _ s.1 _ HS.out (by rw [HN.out]; exact hn1)).mono ?_
  rintro e w2 ⟨x, rfl, hx, k2⟩
  clear p0 p1 p2 p3 p4 p5 p6
  have s2 := k2.size
  obtain ⟨A2, n2, c2, rfl⟩ := hx.isSlice
  have HL2 := HL.out.keep k2 (by omega)
  have HR2 := HR.out.keep k2 (by omega)
  have HP2 := HP.out.keep k2 (by omega)
  have ks := turn_setCell w2 (w.heap.size + 1 + 1) 0 (.slice A2 n2 c2)
  have HL3 := Lib.hid (HL2.keep ks (by omega))
  have HR3 := Lib.hid (HR2.keep ks (by omega))
  have HP3 := Lib.hid (HP2.set0 (.slice A2 n2 c2))
  have HX3 := Lib.hid (hx.keep ks (by omega))
  have k13 := turn_old (turn_trans HKB.out k2 (by omega)) ks (by omega)
  have HU3 := Lib.hid (HU.out.touch k13)
  have HK3 := Lib.hid k13
  have s3 := ks.size
  clear hx k2 ks k13 HL2 HR2
  obtain ⟨q0, q1, q2, q3, q4, q5, q6⟩ := HP2
  obtain ⟨p0, p1, p2, p3, p4, p5, p6⟩ := HL3.out
  go_wp2_with fail
  clear q0 q1 q2 q3 q4 q5 q6 p0 p1 p2 p3 p4 p5 p6
  generalize (w2.setCell ⟨w.heap.size + 1 + 1, 0, none⟩ (.slice A2 n2 c2)) = w3 at *
  refine (toBoolS_own _ s.2.1 _ HU3.out (by rw [HM.out]; exact hn2)).mono ?_
  rintro e w4 ⟨y, rfl, hy, k4⟩
  have s4 := k4.size
  obtain ⟨A4, n4, c4, rfl⟩ := hy.isSlice
  have hx4 := HX3.out.keep k4 (by omega)
  have HL4 := HL3.out.keep k4 (by omega)
  have HR4 := HR3.out.keep k4 (by omega)
  have HP4 := HP3.out.keep k4 (by omega)
  have ks1 := turn_setCell w4 (w.heap.size + 1 + 1) 1 (.slice A4 n4 c4)
  have HL5 := HL4.keep ks1 (by omega)
  have HR5 := HR4.keep ks1 (by omega)
  have HP5 := HP4.set1 (.slice A4 n4 c4)
  have ks2 := turn_setCell (w4.setCell ⟨w.heap.size + 1 + 1, 1, none⟩ (.slice A4 n4 c4)) (w.heap.size + 1 + 1) 2 (.int .i64 zz)
  have HR6 := HR5.keep ks2 (by omega)
  have HP6 := HP5.set2 (.int .i64 zz)
  have kS := turn_set3 ((w4.setCell ⟨w.heap.size + 1 + 1, 1, none⟩ (.slice A4 n4 c4)).setCell ⟨w.heap.size + 1 + 1, 2, none⟩ (.int .i64 zz)) (w.heap.size + 1) (.slice A2 n2 c2) (.slice A4 n4 c4) (.int .i64 zz)
  have k14 := turn_trans HK3.out k4 (by omega)
  have kend := turn_old (turn_old (turn_old k14 ks1 (by omega)) ks2 (by omega)) kS (by omega)
  have oxf := ((hx4.keep ks1 (by omega)).keep ks2 (by omega)).keep kS (by omega)
  have oyf := ((hy.keep ks1 (by omega)).keep ks2 (by omega)).keep kS (by omega)
  have z1 := ks1.size
  have z2 := ks2.size
  have z5 := kS.size
  have t1 := oxf.2.1
  have t2 := oyf.2.1
  have HF : Hid (∃ v u, (Ending.returned (.agg #[.slice A2 n2 c2, .slice A4 n4 c4, .int .i64 zz])) = .returned (.agg #[v, u, .int .i64 zz]) ∧ OwnP 9 4 (((((w4.setCell ⟨w.heap.size + 1 + 1, 1, none⟩ (.slice A4 n4 c4)).setCell ⟨w.heap.size + 1 + 1, 2, none⟩ (.int .i64 zz)).setCell ⟨w.heap.size + 1, 0, none⟩ (.slice A2 n2 c2)).setCell ⟨w.heap.size + 1, 1, none⟩ (.slice A4 n4 c4)).setCell ⟨w.heap.size + 1, 2, none⟩ (.int .i64 zz)) w.heap.size (((((w4.setCell ⟨w.heap.size + 1 + 1, 1, none⟩ (.slice A4 n4 c4)).setCell ⟨w.heap.size + 1 + 1, 2, none⟩ (.int .i64 zz)).setCell ⟨w.heap.size + 1, 0, none⟩ (.slice A2 n2 c2)).setCell ⟨w.heap.size + 1, 1, none⟩ (.slice A4 n4 c4)).setCell ⟨w.heap.size + 1, 2, none⟩ (.int .i64 zz)).heap.size v u s ∧ TurnIn 0 0 w (((((w4.setCell ⟨w.heap.size + 1 + 1, 1, none⟩ (.slice A4 n4 c4)).setCell ⟨w.heap.size + 1 + 1, 2, none⟩ (.int .i64 zz)).setCell ⟨w.heap.size + 1, 0, none⟩ (.slice A2 n2 c2)).setCell ⟨w.heap.size + 1, 1, none⟩ (.slice A4 n4 c4)).setCell ⟨w.heap.size + 1, 2, none⟩ (.int .i64 zz))) :=
    Lib.hid ⟨_, _, rfl, ⟨_, _, _, _, by omega, by omega, by omega, by omega, .inl (by omega), oxf, oyf⟩, kend⟩
  clear z1 z2 z5 t1 t2 oxf oyf kend k14 kS ks1 ks2 hx4 hy k4 HR4
  obtain ⟨p0, p1, p2, _, _, _, _⟩ := HL4
  obtain ⟨a0, a1, a2, a3, a4, a5, a6⟩ := HP4
  obtain ⟨b0, b1, b2, b3, b4, b5, b6⟩ := HL5
  obtain ⟨c0, c1, c2', c3, c4', c5, c6⟩ := HP5
  obtain ⟨d0, d1, d2, d3, d4, d5, d6⟩ := HP6
  obtain ⟨y0, y1, y2, y3, y4, y5, y6⟩ := HR6
  clear HR5
  go_wp2_with fail
  refine bodyPost_ret (v := .agg #[.slice A2 n2 c2, .slice A4 n4 c4, .int .i64 zz]) (by simp [results, Try.results25, go_sem, y0, y1, y2, y3, y4, y5]) rfl ?_
  exact HF.out

end Go.Proofs.Ytjklngheehhggaa

/- A state of peeling that a call hands back, in a box of three cells that was made ahead of the call or behind it. -/
namespace G294
open Go Go.RowKit
def PBoxOk (E E2 : TypeId) (w0 : World) (t : Pee) (ok : Bool) (s6 s7 : Value) (W : World) : Prop := ∃ B x y lo hi, s6 = .pointer (some ⟨B, 0, none⟩) ∧ s7 = .bool ok ∧ BoxT B x y (.int .i64 t.2.2) W ∧ w0.heap.size ≤ B ∧
  OwnP E E2 W lo hi x y t ∧ w0.heap.size ≤ lo ∧ hi ≤ W.heap.size ∧ (B < lo ∨ hi ≤ B) ∧ TurnIn 0 0 w0 W
section
variable {E E2 T : TypeId} {w0 X W W' : World} {lo B : Nat} {x y p q r : Value} {t : Pee} {ok : Bool}
theorem pbox_new (k : TurnIn 0 0 w0 X) (o : OwnP E E2 X lo X.heap.size x y t) (h : w0.heap.size ≤ lo) : PBoxOk E E2 w0 t ok (.pointer (some ⟨X.heap.size, 0, none⟩)) (.bool ok) (X.alloc (.cells #[x, y, .int .i64 t.2.2] T)) :=
  ⟨_, _, _, lo, X.heap.size, rfl, rfl, boxT_new _ _ _ _ _, k.size, o.keep (turn_alloc _ _) (by omega), h, Nat.le_of_lt (alloc_lt _ _), .inr (Nat.le_refl _), turn_trans k (turn_alloc _ _) (by omega)⟩
theorem pbox_set (b : BoxT B p q r X) (hl : B < lo) (hB : w0.heap.size ≤ B) (k : TurnIn 0 0 w0 X) (o : OwnP E E2 X lo X.heap.size x y t) :
    PBoxOk E E2 w0 t ok (.pointer (some ⟨B, 0, none⟩)) (.bool ok) (((X.setCell ⟨B, 0, none⟩ x).setCell ⟨B, 1, none⟩ y).setCell ⟨B, 2, none⟩ (.int .i64 t.2.2)) := by
  have kS := turn_set3 X B x y (.int .i64 t.2.2)
  have s := kS.size
  exact ⟨B, x, y, lo, X.heap.size, rfl, rfl, b.set _ _ _, hB, o.keep kS (by omega), by omega, by omega, .inl hl, turn_old k kS hB⟩
def ThreeAt (w1 : World) (B : Nat) (a b c : Value) (W : World) : Prop := Below w1.heap.size w1 W ∧ W.cell? ⟨B, 0, none⟩ = some a ∧ W.cell? ⟨B, 1, none⟩ = some b ∧ W.cell? ⟨B, 2, none⟩ = some c
theorem three_below {w1 : World} {a b c : Value} (h : BoxT B a b c w1) (hb : Below w1.heap.size w1 W) : ThreeAt w1 B a b c W :=
  ⟨hb, (hb.cell (p := ⟨B, 0, none⟩) h.lt).trans h.c0, (hb.cell (p := ⟨B, 1, none⟩) h.lt).trans h.c1, (hb.cell (p := ⟨B, 2, none⟩) h.lt).trans h.c2⟩
end
theorem stpR_len (l : List Sh) (p : Pee) : (stpR l p).1.length + (stpR l p).2.1.length ≤ 100 := by
  unfold stpR
  by_cases h : stpOk l p = true
  · rw [if_pos h]
    unfold stpOk at h
    rw [Bool.and_eq_true, Bool.and_eq_true] at h
    obtain ⟨_, h2, h3⟩ := h
    have hp := peeOk_iff.1 h2
    obtain ⟨q, hq⟩ := Option.isSome_iff_exists.1 h3
    obtain ⟨d, k, _, _, rfl⟩ := stepP_cases hq
    rw [hq]
    have b2 := hp.b2
    have kl := hp.kl
    show (p.1.set k _).length + (p.2.1.set k true).length ≤ 100
    rw [List.length_set, List.length_set]
    omega
  · rw [if_neg h]
    show (0 : Nat) + 0 ≤ 100
    omega
end G294
