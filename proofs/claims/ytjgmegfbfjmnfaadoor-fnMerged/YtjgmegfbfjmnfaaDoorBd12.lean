/- Joined texts: ChkMath, AnyFew, SomeOf, Same3, RowMath, Msr, MsgMath. -/
import Derived.Test.YtjgmegfbfjmnfaaDoorBd11
import Derived.Test.YtjgmegfbfjmnfaaDoorBd04
import Derived.Test.YtjgmegfbfjmnfaaDoorBd06
import Derived.Test.YtjgmegfbfjmnfaaDoorBd09
import Derived.Test.YtjgmegfbfjmnfaaDoorBd10
import Derived.Deep.QuietTactic
import Derived.BigQuiet
import Derived.IntWalk
import Derived.Test.YtjgmegfbfjmnfaaDoorBd01
import Derived.Test.YtjgmegfbfjmnfaaDoorBd02
import Derived.Test.YtjgmegfbfjmnfaaDoorBd03
import Derived.Test.YtjgmegfbfjmnfaaDoorBd00
set_option linter.unusedSimpArgs false
set_option linter.unusedVariables false
/- CheckShards: its mathematics. -/
namespace G294
open Go Go.RowKit
theorem alloc_pair0' (w : World) (x y : Value) (T : TypeId) : (w.alloc (.cells #[x, y] T)).cell? ⟨w.heap.size, 0, none⟩ = some x := by simp
theorem alloc_pair1' (w : World) (x y : Value) (T : TypeId) : (w.alloc (.cells #[x, y] T)).cell? ⟨w.heap.size, 1, none⟩ = some y := by simp
/-- one round of the comparison: the next to be met, or the end -/
def stp (l : List Sh) (t : Nat) (x : Sh) : Option Nat := if t = l.length then none else if x = l.getD t (0, []) then some (t + 1) else if x.1 = (l.getD t (0, [])).1 then none else some t
def runC (l : List Sh) (pre : List Sh) : Option Nat := pre.foldl (fun o x => o.bind fun t => stp l t x) (some 0)
theorem runC_snoc (l pre : List Sh) (x : Sh) : runC l (pre ++ [x]) = (runC l pre).bind fun t => stp l t x := by simp [runC]
/-- every shard is the one that f makes -/
def matchB (l : List Sh) (f : Nat → List UInt8) : Bool := l.all fun s => decide (s.2 = f s.1.toNat)
theorem matchB_iff (l : List Sh) (f : Nat → List UInt8) : matchB l f = true ↔ ∀ (i : Nat) (s : Sh), l[i]? = some s → s.2 = f s.1.toNat := by
  simp only [matchB, List.all_eq_true, decide_eq_true_eq]
  constructor
  · intro h i s hs; exact h s (List.mem_of_getElem? hs)
  · intro h s hs
    obtain ⟨i, hi⟩ := List.mem_iff_getElem?.1 hs
    exact h i s hi
def chkR (l : List Sh) (k m : Int) : Bool := decOk l k m && matchB l fun j => comb k.toNat (lenH l) (codF k.toNat j) (decR l k m)
theorem chkR_no {l : List Sh} {k m : Int} (h : decOk l k m = false) : chkR l k m = false := by unfold chkR; rw [h]; rfl
theorem chkR_yes {l : List Sh} {k : Nat} {m : Int} (h : decOk l k m = true) : chkR l k m = matchB l fun j => comb k (lenH l) (codF k j) (decR l k m) := by unfold chkR; rw [h]; simp
/-- strictly increasing -/
theorem shards_lt {l : List Sh} {n : Int} (h : shardsOk l n = true) : ∀ (d i : Nat) (s s' : Sh), l[i]? = some s → l[i + d + 1]? = some s' → s.1 < s'.1
  | 0, i, s, s', hs, hs' => by
    have h1 := ((shardsOk_iff l n).1 h (i + 1) s' hs').1.1
    rw [lastNo_succ hs] at h1
    omega
  | d + 1, i, s, s', hs, hs' => by
    have hi : i + d + 1 < l.length := by have := (List.getElem?_eq_some_iff.1 hs').1; omega
    have h1 := shards_lt h d i s l[i + d + 1] hs (List.getElem?_eq_getElem hi)
    have h2 := ((shardsOk_iff l n).1 h (i + (d + 1) + 1) s' hs').1.1
    rw [show i + (d + 1) + 1 = (i + d + 1) + 1 by omega, lastNo_succ (List.getElem?_eq_getElem hi)] at h2
    omega
theorem shards_lt' {l : List Sh} {n : Int} (h : shardsOk l n = true) {i j : Nat} {s s' : Sh} (hij : i < j) (hs : l[i]? = some s) (hs' : l[j]? = some s') : s.1 < s'.1 :=
  shards_lt h (j - i - 1) i s s' hs (by rw [show i + (j - i - 1) + 1 = j by omega]; exact hs')
section
variable {l : List Sh} {n : Int} {f : Nat → List UInt8}
def mk (f : Nat → List UInt8) (j : Nat) : List Sh := (List.range j).map fun (i : Nat) => (((i : Nat) : Int), f i)
theorem mk_succ (f : Nat → List UInt8) (j : Nat) : mk f (j + 1) = mk f j ++ [((j : Int), f j)] := by simp [mk, List.range_succ]
theorem runC_inv (h : shardsOk l n = true) : ∀ (j t : Nat), runC l (mk f j) = some t → t ≤ l.length ∧ (∀ (i : Nat) (s : Sh), i < t → l[i]? = some s → s.2 = f s.1.toNat) ∧ ∀ (i : Nat) (s : Sh), t ≤ i → l[i]? = some s → (j : Int) ≤ s.1
  | 0, t, ht => by
    have : t = 0 := by simpa [runC, mk] using ht.symm
    subst this
    exact ⟨Nat.zero_le _, fun i s hi => by omega, fun i s _ hs => by have := shards_ge h i s hs; omega⟩
  | j + 1, t, ht => by
    rw [mk_succ, runC_snoc] at ht
    cases hr : runC l (mk f j) with
    | none => rw [hr] at ht; cases ht
    | some t0 =>
      rw [hr] at ht
      obtain ⟨a1, a2, a3⟩ := runC_inv h j t0 hr
      simp only [Option.bind_some, stp] at ht
      split at ht
      · cases ht
      · rename_i hne
        have hlt : t0 < l.length := by omega
        have hg : l.getD t0 (0, []) = l[t0] := by simp [List.getD, hlt]
        have hs0 : l[t0]? = some l[t0] := List.getElem?_eq_getElem hlt
        have hge := a3 t0 _ (Nat.le_refl _) hs0
        rw [hg] at ht
        split at ht
        · rename_i hx
          cases ht
          refine ⟨by omega, fun i s hi hs => ?_, fun i s hi hs => ?_⟩
          · by_cases e : i < t0
            · exact a2 i s e hs
            · obtain rfl : i = t0 := by omega
              rw [hs0] at hs
              cases hs
              rw [← hx]; simp
          · have := shards_lt' h (show t0 < i by omega) hs0 hs
            rw [← hx] at this
            simp at this
            omega
        · split at ht
          · cases ht
          · rename_i hx hx1
            cases ht
            refine ⟨a1, a2, fun i s hi hs => ?_⟩
            have h1 : (j : Int) < l[t].1 := by
              rcases Int.lt_or_eq_of_le hge with h | h
              · exact h
              · exact absurd h hx1
            by_cases e : i = t
            · subst e; rw [hs0] at hs; cases hs; omega
            · have := shards_lt' h (show t < i by omega) hs0 hs
              omega
theorem runC_done {r t : Nat} (h : shardsOk l (r : Int) = true) (ht : runC l (mk f r) = some t) : decide (t = l.length) = matchB l f := by
  obtain ⟨a1, a2, a3⟩ := runC_inv h r t ht
  have e : t = l.length := by
    rcases Nat.lt_or_ge t l.length with hlt | hge
    · have h1 := a3 t l[t] (Nat.le_refl _) (List.getElem?_eq_getElem hlt)
      have h2 := ((shardsOk_iff l (r : Int)).1 h t l[t] (List.getElem?_eq_getElem hlt)).1.2
      omega
    · omega
  have h2 : matchB l f = true := (matchB_iff l f).2 fun i s hs => a2 i s (by have := (List.getElem?_eq_some_iff.1 hs).1; omega) hs
  rw [h2]; simpa using e
theorem runC_stop {j t : Nat} (h : shardsOk l n = true) (ht : runC l (mk f j) = some t) (hs : stp l t ((j : Int), f j) = none) : decide (t = l.length) = matchB l f := by
  obtain ⟨a1, a2, a3⟩ := runC_inv h j t ht
  by_cases e : t = l.length
  · have h2 : matchB l f = true := (matchB_iff l f).2 fun i s hs => a2 i s (by have := (List.getElem?_eq_some_iff.1 hs).1; omega) hs
    rw [h2]; simpa using e
  · have hlt : t < l.length := by omega
    have hg : l.getD t (0, []) = l[t] := by simp [List.getD, hlt]
    simp only [stp, if_neg e, hg] at hs
    split at hs
    · cases hs
    · split at hs
      · rename_i hx hx1
        have h2 : matchB l f = false := by
          rw [← Bool.not_eq_true, matchB_iff]
          intro hall
          have := hall t l[t] (List.getElem?_eq_getElem hlt)
          apply hx
          rw [← hx1] at this
          simp at this hx1
          exact Prod.ext hx1 this.symm
        rw [h2]; simpa using e
      · cases hs
end
end G294

/- Any k shards determine the data, and they are found right. -/
namespace G294
/-- the shards with these numbers -/
def pickS (k n : Nat) (T : List (List UInt8)) (is : List Nat) : List Sh := is.map fun (i : Nat) => (((i : Nat) : Int), comb k n (codF k i) T)
@[simp] theorem pickS_length (k n : Nat) (T : List (List UInt8)) (is : List Nat) : (pickS k n T is).length = is.length := by simp [pickS]
theorem comb_len (c n : Nat) (f : Nat → UInt8) (T : List (List UInt8)) : (comb c n f T).length = n := by simp [comb]
theorem pickS_getD {k n : Nat} {T : List (List UInt8)} {is : List Nat} {i : Nat} (h : i < is.length) : (pickS k n T is).getD i (0, []) = (((is[i] : Nat) : Int), comb k n (codF k is[i]) T) := by simp [pickS, List.getD, h]
theorem rises_nodup {is : List Nat} {n : Nat} (h : risesB is n) : is.Nodup := h.2.imp fun h e => by omega
theorem code_fullF {k m : Nat} {F : Ents} (is : List Nat) (h : risesB is (k + m)) (hl : k ≤ is.length) (hk : k + m ≤ 256) (hF : ∀ i j (hi : i < is.length), i < k → j < k → F i j = codF k is[i] j) : (est F k k).2 = k := by
  refine rank_full (Nat.le_refl _) fun v hv => ?_
  refine code_ker (m := m) (is.take k) ((rises_nodup h).sublist (List.take_sublist _ _)) (by simp; omega) (fun x hx => h.1 x (List.mem_of_mem_take hx)) hk v (fun x hx => ?_)
  obtain ⟨i, hi, rfl⟩ := List.getElem_of_mem hx
  have hi2 : i < k ∧ i < is.length := by simp only [List.length_take] at hi; omega
  have := hv i (by omega)
  rw [← this]
  exact sumK_congr fun j hj => by rw [hF i j hi2.2 hi2.1 hj, List.getElem_take]
section
variable {k m n : Nat} {T : List (List UInt8)} {is : List Nat}
theorem pick_used {i j : Nat} (hi : i < is.length) (hik : i < k) (hj : j < k) : usedF k (pickS k n T is) i j = codF k is[i] j := by
  unfold usedF
  rw [ent_mkM _ _ _ _ _ hik hj]
  simp only [usedG, pickS_getD hi]; simp
theorem pick_usedOk (h : risesB is (k + m)) (hl : k ≤ is.length) (hk : k + m ≤ 256) : usedOk k (pickS k n T is) = true := by
  simp only [usedOk, decide_eq_true_eq]
  exact code_fullF is h hl hk fun i j hi hik hj => pick_used hi hik hj
theorem pick_txt (hl : k ≤ is.length) {j p : Nat} (hj : j < k) (hp : p < n) : ent (txtK k (pickS k n T is)) j p = sumK k fun t => gmul (codF k (is.getD j 0) t) (ent T t p) := by
  have hj' : j < is.length := by omega
  have e1 : (txtK k (pickS k n T is)).getD j [] = comb k n (codF k (is.getD j 0)) T := by
    simp [txtK, pickS, List.getD, hj', hj]
  show ((txtK k (pickS k n T is)).getD j []).getD p 0 = _
  rw [e1]
  unfold comb
  rw [mkRow_getD _ _ _ hp]
  rfl
/-- decoding gives the data back -/
theorem pick_decX (h : risesB is (k + m)) (hl : k ≤ is.length) (hk : k + m ≤ 256) (hT : T.length = k) (hn : ∀ j, j < k → (T.getD j []).length = n) : decX k n (pickS k n T is) = T := by
  unfold decX rowsT
  rw [eq_mkM hT hn]
  refine mkM_congr fun i p hi hp => ?_
  have hfull : (est (usedF k (pickS k n (mkM k n (ent T)) is)) k k).2 = k := code_fullF is h hl hk fun i j hi hik hj => pick_used hi hik hj
  unfold combF
  have e1 : ∀ j, j < k → gmul (bst (usedF k (pickS k n (mkM k n (ent T)) is)) idF k k i j) (ent (txtK k (pickS k n (mkM k n (ent T)) is)) j p) = sumK k fun t => gmul (gmul (bst (usedF k (pickS k n (mkM k n (ent T)) is)) idF k k i j) (usedF k (pickS k n (mkM k n (ent T)) is) j t)) (ent (mkM k n (ent T)) t p) := fun j hj => by
    rw [pick_txt hl hj hp, ← sumK_mul]
    refine sumK_congr fun t ht => ?_
    rw [pick_used (show j < is.length by omega) hj ht, gmul_assoc]
    congr 2
    simp [List.getD, show j < is.length by omega]
  rw [sumK_congr e1, sumK_swap]
  have e2 : ∀ t, t < k → (sumK k fun j => gmul (gmul (bst (usedF k (pickS k n (mkM k n (ent T)) is)) idF k k i j) (usedF k (pickS k n (mkM k n (ent T)) is) j t)) (ent (mkM k n (ent T)) t p)) = gmul (idF i t) (ent (mkM k n (ent T)) t p) := fun t ht => by
    rw [sumK_mulr, inv_left hfull hi ht]
  rw [sumK_congr e2, sumK_one (k := i) _ hi (fun t ht hne => by simp only [idF]; rw [if_neg (fun e => hne e.symm)]; exact zero_gmul _)]
  simp only [idF, if_true]
  rw [one_gmul, ent_mkM _ _ _ _ _ hi hp]
theorem pick_shardsOk (h : risesB is (k + m)) (hn : n ≤ 40) : shardsOk (pickS k n T is) ((k + m : Nat) : Int) = true := by
  rw [shardsOk_iff]
  intro i s hi
  have hlt : i < is.length := by have := (List.getElem?_eq_some_iff.1 hi).1; simpa using this
  have hs : s = (((is[i] : Nat) : Int), comb k n (codF k is[i]) T) := by
    have e := pickS_getD (k := k) (n := n) (T := T) hlt
    rw [List.getD, hi] at e
    simpa using e
  subst hs
  have h1 := h.1 is[i] (List.getElem_mem hlt)
  have h0 : 0 < is.length := by omega
  refine ⟨⟨?_, by simp; omega⟩, ?_, ?_⟩
  · cases i with
    | zero => simp [lastNo]; omega
    | succ i =>
      have hi' : i < is.length := by omega
      simp only [lastNo]
      rw [pickS_getD hi']
      have := (List.pairwise_iff_getElem.1 h.2) i (i + 1) hi' hlt (by omega)
      simp; omega
  · rw [pickS_getD h0]; simp only [comb_len]
  · simp only [comb_len]; exact hn
theorem pick_lenH (hl : k ≤ is.length) (hk1 : 1 ≤ k) : lenH (pickS k n T is) = n := by
  unfold lenH
  rw [pickS_getD (by omega), comb_len]
/-- k shards of a code or more: decoding tells the data, and the shards are found right -/
theorem any_few (hs : shapeOk k m = true) (h : risesB is (k + m)) (hl : k ≤ is.length) (hT : T.length = k) (hn : ∀ j, j < k → (T.getD j []).length = n) (hn40 : n ≤ 40) :
    decOk (pickS k n T is) k m = true ∧ decR (pickS k n T is) k m = T ∧ chkR (pickS k n T is) k m = true := by
  have hb := shapeOk_b hs
  have hpre : preOk (pickS k n T is) k m = true := by
    unfold preOk
    rw [hs]
    have e : ((k : Int) + (m : Int)) = ((k + m : Nat) : Int) := by omega
    rw [e, pick_shardsOk h hn40]
    simp; omega
  have hu : usedOk k (pickS k n T is) = true := pick_usedOk h hl (by omega)
  have hd : decOk (pickS k n T is) k m = true := by unfold decOk; rw [hpre, Int.toNat_natCast, hu]; rfl
  have hr : decR (pickS k n T is) k m = T := by
    unfold decR
    rw [if_pos hpre, Int.toNat_natCast, pick_lenH hl (by omega)]
    unfold decY
    rw [if_pos hu, pick_decX h hl (by omega) hT hn]
  refine ⟨hd, hr, ?_⟩
  unfold chkR
  rw [hd, hr, Bool.true_and, Int.toNat_natCast, pick_lenH hl (by omega)]
  unfold matchB
  rw [List.all_eq_true]
  intro s hs'
  obtain ⟨i, hi, rfl⟩ := List.mem_map.1 hs'
  simp
end
end G294

/- The laws' someOf. -/
namespace Go.Proofs.YtjgmegfbfjmnfaaDoor
open Go.RowKit G294

/-- whether someOf takes number t for its byte -/
def evenAt (l : List UInt8) (t : Nat) : Bool := (l.getD t 0).toNat % 2 == 0

end Go.Proofs.YtjgmegfbfjmnfaaDoor

/- The laws' comparisons of texts, shards and matrices, and someOf. -/
namespace Go.Proofs.YtjgmegfbfjmnfaaDoor
open Go.RowKit G294

set_option maxRecDepth 100000 in
set_option maxHeartbeats 1000000 in
theorem sameTexts_same (v u : Value) (l : List (List UInt8)) (w : World) (hv : Seen w v (strs l)) (hu : Seen w u (strs l)) :
    Calls Tryd.prog 26 #[v, u] w (RetBool w true) := by
  obtain ⟨A, c, rfl, hlc, hcm, hx⟩ := hv
  obtain ⟨A', c', rfl, hlc', hcm', hx'⟩ := hu
  rw [strs_length] at hlc hx hlc' hx'
  simp only [strs_length]
  unfold maxLen at hcm hcm'
  generalize hnn : l.length = n at *
  have HN := Lib.hid hnn
  clear hnn
  have hbn : ((n : Int) != (n : Int)) = false := by simp
  go_enter Tryd.func26, Tryd.ntmps26
  go_wp2_with fail
  go_loopw [13] (fun i wr => ∃ k : Nat, k ≤ n ∧ i = .int .i64 k ∧ Below w.heap.size w wr)
    (fun i _ => n - (intOf i).toNat)
  case atStart => exact ⟨0, Nat.zero_le _, rfl, Below.refl _ _⟩
  case round =>
    obtain ⟨k, hk, rfl, hb⟩ := hrel
    by_cases hlt : k < n
    · obtain ⟨b, off, rfl, hbl, hcell⟩ := hx (by omega)
      obtain ⟨b', off', rfl, hbl', hcell'⟩ := hx' (by omega)
      have hkl : k < l.length := by rw [HN.out]; exact hlt
      have hcx : wr.cell? ⟨b, off + k, none⟩ = some (.string (str l[k])) := (hb.cell (p := ⟨b, off + k, none⟩) hbl).trans (hcell k _ (strs_get l k hkl))
      have hcy : wr.cell? ⟨b', off' + k, none⟩ = some (.string (str l[k])) := (hb.cell (p := ⟨b', off' + k, none⟩) hbl').trans (hcell' k _ (strs_get l k hkl))
      clear hcell hcell' hx hx'
      have hki : (k : Int) < (n : Int) := by omega
      have hbb := str_same l[k]
      go_wp2_with fail
      go_quiet (fail)
      go_wp2_with fail
      go_roundw
      case rel => exact ⟨k + 1, by omega, by go_num, below_drewN hb _⟩
      case measure => simp [intOf]; omega
    · obtain rfl : k = n := by omega
      have hki : ¬ (k : Int) < (k : Int) := by omega
      go_wp2_with fail
      go_ret
      exact ⟨rfl, TurnIn.of_below hb⟩

end Go.Proofs.YtjgmegfbfjmnfaaDoor

/- The row of a node of a regenerating code. -/
namespace G294
def powB (x : UInt8) (e : Nat) : UInt8 := UInt8.ofNat (gp x.toNat e)
theorem powB_toNat (x : UInt8) (e : Nat) : (powB x e).toNat = gp x.toNat e := by
  unfold powB; rw [UInt8.toNat_ofNat']; exact Nat.mod_eq_of_lt (gp_lt x.toNat_lt e)
theorem gmul_one_left (x : UInt8) : gmul 1 x = x := by
  apply UInt8.toNat_inj.1
  rw [gmul_toNat]
  exact gm_one_left x.toNat_lt
/-- a factor times the first powers of x -/
def pRow (x : UInt8) (a : Nat) (f : UInt8) : List UInt8 := mkRow a fun e => gmul f (powB x e)
def pRows (x : UInt8) (a : Nat) (fs : List UInt8) : List UInt8 := (fs.map (pRow x a)).flatten
/-- the number of a node and its factor -/
def nodX (i : Nat) : UInt8 := powB 3 (i + 1)
def nodF (i a : Nat) : UInt8 := powB (nodX i) a
def shortL (a i : Nat) : List UInt8 := mkRow a (powB (nodX i))
def rowL (a i : Nat) : List UInt8 := shortL a i ++ scaleL (nodF i a) (shortL a i)
@[simp] theorem shortL_length (a i : Nat) : (shortL a i).length = a := by simp [shortL]
@[simp] theorem rowL_length (a i : Nat) : (rowL a i).length = a + a := by simp [rowL, scaleL]
theorem pRow_one (x : UInt8) (a : Nat) : pRow x a 1 = mkRow a (powB x) := mkRow_congr fun j _ => gmul_one_left _
theorem pRow_scale (x : UInt8) (a : Nat) (f : UInt8) : pRow x a f = scaleL f (mkRow a (powB x)) := by simp [pRow, scaleL, mkRow]
theorem pRows_one (a i : Nat) : pRows (nodX i) a [1] = shortL a i := by simp [pRows, pRow_one, shortL]
theorem pRows_two (a i : Nat) : pRows (nodX i) a [1, nodF i a] = rowL a i := by
  have e : pRows (nodX i) a [1, nodF i a] = pRow (nodX i) a 1 ++ pRow (nodX i) a (nodF i a) := by simp [pRows]
  rw [e, pRow_one, pRow_scale]; rfl
theorem pRows_take (x : UInt8) (a : Nat) (fs : List UInt8) (k : Nat) (hk : k < fs.length) : pRows x a (fs.take (k + 1)) = pRows x a (fs.take k) ++ pRow x a fs[k] := by
  rw [List.take_succ_eq_append_getElem hk]; simp only [pRows, List.map_append, List.flatten_append]; simp
theorem pRows_length (x : UInt8) (a : Nat) (fs : List UInt8) : (pRows x a fs).length = fs.length * a := by
  induction fs with
  | nil => simp [pRows]
  | cons f fs ih =>
    have e : pRows x a (f :: fs) = pRow x a f ++ pRows x a fs := by simp [pRows]
    rw [e, List.length_append, ih, List.length_cons, Nat.succ_mul]
    simp [pRow]; omega
theorem mkRow_succ (n : Nat) (f : Nat → UInt8) : mkRow (n + 1) f = mkRow n f ++ [f n] := by simp [mkRow, List.range_succ]
end G294

/- Regenerating codes: which are valid, and their sizes, on both sides; the conversion of a code. -/
namespace G294
open Go Go.RowKit
/-- a code of n nodes, k of which suffice -/
abbrev msrV (n k : Int) : Value := .agg #[.int .i64 n, .int .i64 k]
def msrOk (n k : Int) : Bool := decide (2 ≤ k ∧ k ≤ 4) && decide (2 * k - 1 ≤ n ∧ n ≤ 14)
theorem msrOk_b {n k : Int} (h : msrOk n k = true) : (2 ≤ k ∧ k ≤ 4) ∧ 2 * k - 1 ≤ n ∧ n ≤ 14 := by simpa [msrOk] using h
theorem msrOk_k {n k : Int} (h : msrOk n k = true) : k = 2 ∨ k = 3 ∨ k = 4 := by have := msrOk_b h; omega
def msrA (n k : Int) : Int := if msrOk n k = true then k - 1 else 0
def msrD (n k : Int) : Int := if msrOk n k = true then 2 * (k - 1) else 0
def msrB (n k : Int) : Int := if msrOk n k = true then k * (k - 1) else 0
theorem msrA_yes {n k : Int} (h : msrOk n k = true) : msrA n k = k - 1 := if_pos h
theorem msrD_yes {n k : Int} (h : msrOk n k = true) : msrD n k = 2 * (k - 1) := if_pos h
theorem msrB_yes {n k : Int} (h : msrOk n k = true) : msrB n k = k * (k - 1) := if_pos h
theorem msrA_no {n k : Int} (h : msrOk n k = false) : msrA n k = 0 := if_neg (by rw [h]; simp)
theorem msrD_no {n k : Int} (h : msrOk n k = false) : msrD n k = 0 := if_neg (by rw [h]; simp)
theorem msrB_no {n k : Int} (h : msrOk n k = false) : msrB n k = 0 := if_neg (by rw [h]; simp)
theorem alloc_duo0 (w : World) (x y : Value) (T : TypeId) : (w.alloc (.cells #[x, y] T)).cell? ⟨w.heap.size, 0, none⟩ = some x := by simp
theorem alloc_duo1 (w : World) (x y : Value) (T : TypeId) : (w.alloc (.cells #[x, y] T)).cell? ⟨w.heap.size, 1, none⟩ = some y := by simp
def RetSizes (w : World) (a d b : Int) (ok : Bool) (e : Ending) (w' : World) : Prop := e = .returned (.tuple #[.int .i64 a, .int .i64 d, .int .i64 b, .bool ok]) ∧ TurnIn 0 0 w w'
end G294
namespace Go.Proofs.YtjgmegfbfjmnfaaDoor
open Go.RowKit G294

end Go.Proofs.YtjgmegfbfjmnfaaDoor

/- The message matrix of a regenerating code: two symmetric matrices, each filled from a triangle of bytes. -/
namespace G294
/-- where row p of a triangle of side a begins -/
def off (a : Nat) : Nat → Nat
  | 0 => 0
  | p + 1 => off a p + (a - p)
def tix (a p q : Nat) : Nat := off a p + (q - p)
theorem off_mono (a p : Nat) : ∀ d, off a p ≤ off a (p + d)
  | 0 => Nat.le_refl _
  | d + 1 => Nat.le_trans (off_mono a p d) (Nat.le_add_right _ _)
theorem tix_lt {a p q : Nat} (h1 : p ≤ q) (h2 : q < a) : tix a p q < off a a := by
  have h := off_mono a (p + 1) (a - (p + 1))
  rw [show p + 1 + (a - (p + 1)) = a by omega] at h
  have : off a (p + 1) = off a p + (a - p) := rfl
  unfold tix
  omega
/-- the entry of the symmetric matrix whose triangle lies in l from b on -/
def symF (a : Nat) (l : List UInt8) (b : Nat) : Ents := fun i j => l.getD (b + tix a (min i j) (max i j)) 0
/-- .. after the rows before p, and in row p the columns before q -/
def symP (a : Nat) (l : List UInt8) (b p q : Nat) : Ents := fun i j => if min i j < p ∨ (min i j = p ∧ max i j < q) then symF a l b i j else 0
theorem symP_zero (a : Nat) (l : List UInt8) (b i j : Nat) : symP a l b 0 0 i j = 0 := by unfold symP; rw [if_neg (by omega)]
theorem symP_row {a : Nat} {l : List UInt8} {b p i j : Nat} (hi : i < a) (hj : j < a) : symP a l b p a i j = symP a l b (p + 1) (p + 1) i j := by
  unfold symP
  by_cases h : min i j < p ∨ (min i j = p ∧ max i j < a)
  · rw [if_pos h, if_pos (by omega)]
  · rw [if_neg h, if_neg (by omega)]
theorem symP_all {a : Nat} {l : List UInt8} {b i j : Nat} (hi : i < a) (hj : j < a) : symP a l b a a i j = symF a l b i j := by
  unfold symP; rw [if_pos (by omega)]
theorem symP_step (a : Nat) (l : List UInt8) (b p q : Nat) (hpq : p ≤ q) (i j : Nat) :
    (if i = q ∧ j = p then l.getD (b + tix a p q) 0 else if i = p ∧ j = q then l.getD (b + tix a p q) 0 else symP a l b p q i j) = symP a l b p (q + 1) i j := by
  by_cases h1 : i = q ∧ j = p
  · obtain ⟨rfl, rfl⟩ := h1
    rw [if_pos ⟨rfl, rfl⟩]
    unfold symP
    rw [if_pos (by omega)]
    unfold symF
    rw [show min i j = j by omega, show max i j = i by omega]
  · rw [if_neg h1]
    by_cases h2 : i = p ∧ j = q
    · obtain ⟨rfl, rfl⟩ := h2
      rw [if_pos ⟨rfl, rfl⟩]
      unfold symP
      rw [if_pos (by omega)]
      unfold symF
      rw [show min i j = i by omega, show max i j = j by omega]
    · rw [if_neg h2]
      unfold symP
      by_cases h : min i j < p ∨ (min i j = p ∧ max i j < q)
      · rw [if_pos h, if_pos (by omega)]
      · rw [if_neg h, if_neg (by omega)]
theorem tix_next {a p q : Nat} (h : p ≤ q) : tix a p (q + 1) = tix a p q + 1 := by unfold tix; omega
theorem tix_row {a p : Nat} (h : p < a) : tix a p a = tix a (p + 1) (p + 1) := by
  show off a p + (a - p) = off a p + (a - p) + (p + 1 - (p + 1)); omega
theorem tix_diag (a : Nat) : tix a 0 0 = 0 := rfl
theorem off_three {a : Nat} (h1 : 1 ≤ a) (h2 : a ≤ 3) : 2 * off a a = (a + 1) * a := by
  have : a = 1 ∨ a = 2 ∨ a = 3 := by omega
  rcases this with rfl | rfl | rfl <;> rfl
/-- the message matrix -/
def msgF (a : Nat) (l : List UInt8) : Ents := fun i j => if i < a then symF a l 0 i j else symF a l (off a a) (i - a) j
def msgM (a : Nat) (l : List UInt8) : Mat := mkM (a + a) a (msgF a l)
theorem msgM_eq (a : Nat) (l : List UInt8) : mkM a a (symF a (l.take (off a a)) 0) ++ mkM a a (symF a (l.drop (off a a)) 0) = msgM a l := by
  apply List.ext_getElem
  · simp [msgM]
  · intro i h1 h2
    have h2' : i < a + a := by simpa [msgM] using h2
    rcases Nat.lt_or_ge i a with h | h
    · rw [List.getElem_append_left (by simpa using h)]
      simp only [msgM, mkM, List.getElem_map, List.getElem_range]
      refine mkRow_congr fun j hj => ?_
      have := tix_lt (a := a) (p := min i j) (q := max i j) (by omega) (by omega)
      simp only [msgF, if_pos h, symF, Nat.zero_add]
      simp [List.getD, List.getElem?_take, this]
    · rw [List.getElem_append_right (by simpa using h)]
      simp only [msgM, mkM, List.getElem_map, List.getElem_range, List.length_map, List.length_range]
      refine mkRow_congr fun j hj => ?_
      simp only [msgF, if_neg (Nat.not_lt.2 h), symF, Nat.zero_add]
      simp [List.getD, List.getElem?_drop]
/-- .. the model's way to it: h halves, of the next one the rows before p, and in row p the columns before q -/
def msgP (a : Nat) (l : List UInt8) (h p q : Nat) : Ents := fun i j => if i < h * a then msgF a l i j else if i < h * a + a then symP a l (h * off a a) p q (i - h * a) j else 0
theorem msgP_zero (a : Nat) (l : List UInt8) (i j : Nat) : msgP a l 0 0 0 i j = 0 := by
  unfold msgP; rw [if_neg (by omega)]; split
  · exact symP_zero _ _ _ _ _
  · rfl
theorem msgP_row {a : Nat} {l : List UInt8} {h p i j : Nat} (hj : j < a) : msgP a l h p a i j = msgP a l h (p + 1) (p + 1) i j := by
  unfold msgP
  by_cases h1 : i < h * a
  · rw [if_pos h1, if_pos h1]
  · rw [if_neg h1, if_neg h1]
    by_cases h2 : i < h * a + a
    · rw [if_pos h2, if_pos h2]; exact symP_row (by omega) hj
    · rw [if_neg h2, if_neg h2]
theorem msgP_half {a : Nat} {l : List UInt8} {h i j : Nat} (hh : h = 0 ∨ h = 1) (hj : j < a) : msgP a l h a a i j = msgP a l (h + 1) 0 0 i j := by
  have e : (h + 1) * a = h * a + a := by rw [Nat.succ_mul]
  unfold msgP
  rw [e]
  by_cases h1 : i < h * a
  · rw [if_pos h1, if_pos (by omega)]
  · rw [if_neg h1]
    by_cases h2 : i < h * a + a
    · rw [if_pos h2, if_pos h2, symP_all (by omega) hj]
      rcases hh with rfl | rfl
      · simp only [Nat.zero_mul, Nat.sub_zero] at *
        simp only [msgF]; rw [if_pos (by omega)]
      · simp only [Nat.one_mul] at *
        simp only [msgF]; rw [if_neg (by omega)]
    · rw [if_neg h2, if_neg h2]; split
      · exact (symP_zero _ _ _ _ _).symm
      · rfl
theorem msgP_all {a : Nat} {l : List UInt8} {i j : Nat} (hi : i < a + a) : msgP a l 2 0 0 i j = msgF a l i j := by
  unfold msgP; rw [if_pos (by omega)]
theorem msgP_step (a : Nat) (l : List UInt8) (h p q : Nat) (hpq : p ≤ q) (hq : q < a) (i j : Nat) :
    (if i = h * a + q ∧ j = p then l.getD (h * off a a + tix a p q) 0 else if i = h * a + p ∧ j = q then l.getD (h * off a a + tix a p q) 0 else msgP a l h p q i j) = msgP a l h p (q + 1) i j := by
  have hs := symP_step a l (h * off a a) p q hpq (i - h * a) j
  unfold msgP
  by_cases h1 : i < h * a
  · rw [if_neg (by omega), if_neg (by omega), if_pos h1, if_pos h1]
  · rw [if_neg h1, if_neg h1]
    by_cases h2 : i < h * a + a
    · rw [if_pos h2, if_pos h2, ← hs]
      by_cases h3 : i = h * a + q ∧ j = p
      · rw [if_pos h3, if_pos (by omega)]
      · rw [if_neg h3, if_neg (show ¬ (i - h * a = q ∧ j = p) by omega)]
        by_cases h4 : i = h * a + p ∧ j = q
        · rw [if_pos h4, if_pos (by omega)]
        · rw [if_neg h4, if_neg (show ¬ (i - h * a = p ∧ j = q) by omega)]
    · rw [if_neg h2, if_neg h2, if_neg (by omega), if_neg (by omega)]
end G294
