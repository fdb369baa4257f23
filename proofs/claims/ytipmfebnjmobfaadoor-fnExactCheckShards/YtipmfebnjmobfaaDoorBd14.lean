/- Joined texts: ChkMath, SpecCheck. -/
import Derived.Test.YtipmfebnjmobfaaDoorBd13
set_option linter.unusedSimpArgs false
set_option linter.unusedVariables false
/- CheckShards: its mathematics. -/
namespace G294
open Go Go.RowKit
theorem alloc_pair0' (w : World) (x y : Value) (T : TypeId) : (w.alloc (.cells #[x, y] T)).cell? ⟨w.heap.size, 0, none⟩ = some x := by simp
theorem alloc_pair1' (w : World) (x y : Value) (T : TypeId) : (w.alloc (.cells #[x, y] T)).cell? ⟨w.heap.size, 1, none⟩ = some y := by simp
/-- one round of the comparison: the next to be met, or the end -/
def stp (l : List Sh) (t : Nat) (x : Sh) : Option Nat := if t = l.length then none else if x = l.getD t (0, []) then some (t + 1) else if x.1 = (l.getD t (0, [])).1 then none else some t
def runC (l : List Sh) (pre : List Sh) : Option Nat := pre.foldl (fun o x => o.bind fun t => stp l t x) (some 0)
theorem runC_snoc (l pre : List Sh) (x : Sh) : runC l (pre ++ [x]) = (runC l pre).bind fun t => stp l t x := by simp [runC]
/-- every shard is the one that f makes -/
def matchB (l : List Sh) (f : Nat → List UInt8) : Bool := l.all fun s => decide (s.2 = f s.1.toNat)
theorem matchB_iff (l : List Sh) (f : Nat → List UInt8) : matchB l f = true ↔ ∀ (i : Nat) (s : Sh), l[i]? = some s → s.2 = f s.1.toNat := by
  simp only [matchB, List.all_eq_true, decide_eq_true_eq]
  constructor
  · intro h i s hs; exact h s (List.mem_of_getElem? hs)
  · intro h s hs
    obtain ⟨i, hi⟩ := List.mem_iff_getElem?.1 hs
    exact h i s hi
def chkR (l : List Sh) (k m : Int) : Bool := decOk l k m && matchB l fun j => comb k.toNat (lenH l) (codF k.toNat j) (decR l k m)
theorem chkR_no {l : List Sh} {k m : Int} (h : decOk l k m = false) : chkR l k m = false := by unfold chkR; rw [h]; rfl
theorem chkR_yes {l : List Sh} {k : Nat} {m : Int} (h : decOk l k m = true) : chkR l k m = matchB l fun j => comb k (lenH l) (codF k j) (decR l k m) := by unfold chkR; rw [h]; simp
/-- strictly increasing -/
theorem shards_lt {l : List Sh} {n : Int} (h : shardsOk l n = true) : ∀ (d i : Nat) (s s' : Sh), l[i]? = some s → l[i + d + 1]? = some s' → s.1 < s'.1
  | 0, i, s, s', hs, hs' => by
    have h1 := ((shardsOk_iff l n).1 h (i + 1) s' hs').1.1
    rw [lastNo_succ hs] at h1
    omega
  | d + 1, i, s, s', hs, hs' => by
    have hi : i + d + 1 < l.length := by have := (List.getElem?_eq_some_iff.1 hs').1; omega
    have h1 := shards_lt h d i s l[i + d + 1] hs (List.getElem?_eq_getElem hi)
    have h2 := ((shardsOk_iff l n).1 h (i + (d + 1) + 1) s' hs').1.1
    rw [show i + (d + 1) + 1 = (i + d + 1) + 1 by omega, lastNo_succ (List.getElem?_eq_getElem hi)] at h2
    omega
theorem shards_lt' {l : List Sh} {n : Int} (h : shardsOk l n = true) {i j : Nat} {s s' : Sh} (hij : i < j) (hs : l[i]? = some s) (hs' : l[j]? = some s') : s.1 < s'.1 :=
  shards_lt h (j - i - 1) i s s' hs (by rw [show i + (j - i - 1) + 1 = j by omega]; exact hs')
section
variable {l : List Sh} {n : Int} {f : Nat → List UInt8}
def mk (f : Nat → List UInt8) (j : Nat) : List Sh := (List.range j).map fun (i : Nat) => (((i : Nat) : Int), f i)
theorem mk_succ (f : Nat → List UInt8) (j : Nat) : mk f (j + 1) = mk f j ++ [((j : Int), f j)] := by simp [mk, List.range_succ]
theorem runC_inv (h : shardsOk l n = true) : ∀ (j t : Nat), runC l (mk f j) = some t → t ≤ l.length ∧ (∀ (i : Nat) (s : Sh), i < t → l[i]? = some s → s.2 = f s.1.toNat) ∧ ∀ (i : Nat) (s : Sh), t ≤ i → l[i]? = some s → (j : Int) ≤ s.1
  | 0, t, ht => by
    have : t = 0 := by simpa [runC, mk] using ht.symm
    subst this
    exact ⟨Nat.zero_le _, fun i s hi => by omega, fun i s _ hs => by have := shards_ge h i s hs; omega⟩
  | j + 1, t, ht => by
    rw [mk_succ, runC_snoc] at ht
    cases hr : runC l (mk f j) with
    | none => rw [hr] at ht; cases ht
    | some t0 =>
      rw [hr] at ht
      obtain ⟨a1, a2, a3⟩ := runC_inv h j t0 hr
      simp only [Option.bind_some, stp] at ht
      split at ht
      · cases ht
      · rename_i hne
        have hlt : t0 < l.length := by omega
        have hg : l.getD t0 (0, []) = l[t0] := by simp [List.getD, hlt]
        have hs0 : l[t0]? = some l[t0] := List.getElem?_eq_getElem hlt
        have hge := a3 t0 _ (Nat.le_refl _) hs0
        rw [hg] at ht
        split at ht
        · rename_i hx
          cases ht
          refine ⟨by omega, fun i s hi hs => ?_, fun i s hi hs => ?_⟩
          · by_cases e : i < t0
            · exact a2 i s e hs
            · obtain rfl : i = t0 := by omega
              rw [hs0] at hs
              cases hs
              rw [← hx]; simp
          · have := shards_lt' h (show t0 < i by omega) hs0 hs
            rw [← hx] at this
            simp at this
            omega
        · split at ht
          · cases ht
          · rename_i hx hx1
            cases ht
            refine ⟨a1, a2, fun i s hi hs => ?_⟩
            have h1 : (j : Int) < l[t].1 := by
              rcases Int.lt_or_eq_of_le hge with h | h
              · exact h
              · exact absurd h hx1
            by_cases e : i = t
            · subst e; rw [hs0] at hs; cases hs; omega
            · have := shards_lt' h (show t < i by omega) hs0 hs
              omega
theorem runC_done {r t : Nat} (h : shardsOk l (r : Int) = true) (ht : runC l (mk f r) = some t) : decide (t = l.length) = matchB l f := by
  obtain ⟨a1, a2, a3⟩ := runC_inv h r t ht
  have e : t = l.length := by
    rcases Nat.lt_or_ge t l.length with hlt | hge
    · have h1 := a3 t l[t] (Nat.le_refl _) (List.getElem?_eq_getElem hlt)
      have h2 := ((shardsOk_iff l (r : Int)).1 h t l[t] (List.getElem?_eq_getElem hlt)).1.2
      omega
    · omega
  have h2 : matchB l f = true := (matchB_iff l f).2 fun i s hs => a2 i s (by have := (List.getElem?_eq_some_iff.1 hs).1; omega) hs
  rw [h2]; simpa using e
theorem runC_stop {j t : Nat} (h : shardsOk l n = true) (ht : runC l (mk f j) = some t) (hs : stp l t ((j : Int), f j) = none) : decide (t = l.length) = matchB l f := by
  obtain ⟨a1, a2, a3⟩ := runC_inv h j t ht
  by_cases e : t = l.length
  · have h2 : matchB l f = true := (matchB_iff l f).2 fun i s hs => a2 i s (by have := (List.getElem?_eq_some_iff.1 hs).1; omega) hs
    rw [h2]; simpa using e
  · have hlt : t < l.length := by omega
    have hg : l.getD t (0, []) = l[t] := by simp [List.getD, hlt]
    simp only [stp, if_neg e, hg] at hs
    split at hs
    · cases hs
    · split at hs
      · rename_i hx hx1
        have h2 : matchB l f = false := by
          rw [← Bool.not_eq_true, matchB_iff]
          intro hall
          have := hall t l[t] (List.getElem?_eq_getElem hlt)
          apply hx
          rw [← hx1] at this
          simp at this hx1
          exact Prod.ext hx1 this.symm
        rw [h2]; simpa using e
      · cases hs
end
end G294

/- CheckShards, the model's. -/
namespace G294
open Go Go.RowKit
/-- two bools are returned -/
def RetBools (w : World) (a b : Bool) (e : Ending) (w' : World) : Prop := e = .returned (.tuple #[.bool a, .bool b]) ∧ TurnIn 0 0 w w'
theorem str_ne_iff (a b : List UInt8) : ((str a).toList != (str b).toList) = !decide (a = b) := by
  rw [str_toList, str_toList]
  by_cases h : a = b <;> simp [h]
theorem str_eq_iff (a b : List UInt8) : ((str a).toList == (str b).toList) = decide (a = b) := by
  rw [str_toList, str_toList]
  by_cases h : a = b <;> simp [h]
end G294
namespace Go.Proofs.YtipmfebnjmobfaaDoor
open Go.RowKit Go.Shelf G294

set_option maxRecDepth 100000 in
set_option maxHeartbeats 2000000 in
theorem sCheckShards_own (v : Value) (l : List Sh) (k m : Int) (w : World) (hv : SeenH w v l) :
    Calls Tryd.prog 24 #[v, .int .i64 k, .int .i64 m] w (RetBools w (chkR l k m) (decOk l k m)) := by
  have HV := Lib.hid hv
  obtain ⟨A, cp, rfl, hlc, hcm, hx⟩ := hv
  unfold maxLen at hcm
  by_cases hd : decOk l k m = true
  · have HD := Lib.hid hd
    have hbs := shapeOk_b (decOk_shape hd)
    have h40 := shards_40 (decOk_shards hd)
    obtain ⟨p, rfl⟩ := Int.eq_ofNat_of_zero_le (show 0 ≤ k by omega)
    obtain ⟨q, rfl⟩ := Int.eq_ofNat_of_zero_le (show 0 ≤ m by omega)
    have HNO := Lib.hid (shards_no (decOk_shards hd))
    have HDL := Lib.hid (decR_length hd)
    have HDR := Lib.hid (decR_row hd)
    have HCK := Lib.hid (chkR_yes hd)
    have HX := Lib.hid hx
    clear hd hx
    generalize hL : l.length = L at *
    have HL := Lib.hid hL
    clear hL
    go_enter Tryd.func24, Tryd.ntmps24
    go_wp2_with fail
    refine (sDecodeShards_own _ l p q _ HV.out).mono ?_
    rintro e w1 ⟨v1, rfl, o1, k1⟩
    obtain ⟨A1, n1, c1', rfl⟩ := o1.isSlice
    rw [HD.out]
    have hs1 := k1.size
    have HO1 := Lib.hid o1
    clear o1
    go_wp2_with fail
    refine (l3Matrix_own p q _ (by omega) (by omega) (by omega) (by omega)).mono ?_
    rintro e w2 ⟨v2, vs2, rfl, hM2, k2⟩
    obtain ⟨A2, n2, c2, rfl⟩ := hM2.isSlice
    have hs2 := k2.size
    have HM2 := Lib.hid hM2
    have HO2 := Lib.hid (HO1.out.keep k2 (by omega))
    clear hM2
    go_wp2_with fail
    refine (l3Rows_own (p + q) p (lenH l) (codF p) (decR l p q) _ _ _ HM2.out.seen HO2.out.seen HDL.out (by omega) (by omega) (by omega) HDR.out (by omega)).mono ?_
    rintro e w3 ⟨v3, rfl, o3, k3⟩
    have hs3 := k3.size
    have KF := Lib.hid (turn_trans (turn_trans k1 k2 (by omega)) k3 (by omega))
    obtain ⟨A3, c3, hv3, _, hcm3, hx3⟩ := o3.seen
    rw [strs_length, rowsT_length] at hv3
    obtain ⟨b3, off3, rfl, hb3, hc3⟩ := hx3 (by rw [strs_length, rowsT_length]; omega)
    subst hv3
    unfold maxLen at hcm3
    have HC3 : Hid (∀ t, t < p + q → w3.cell? ⟨b3, off3 + t, none⟩ = some (.string (str (comb p (lenH l) (codF p t) (decR l p q))))) := fun t ht => by
      have htl : t < (rowsT (p + q) p (lenH l) (codF p) (decR l p q)).length := by rw [rowsT_length]; omega
      rw [hc3 t _ (strs_get _ t htl)]
      simp [rowsT, mkM, comb]
    generalize hff : (fun j => comb p (lenH l) (codF p j) (decR l p q)) = f at *
    have HC4 : Hid (∀ t, t < p + q → w3.cell? ⟨b3, off3 + t, none⟩ = some (.string (str (f t)))) := by
      rw [← hff]; exact HC3.out
    clear hx3 hc3 o3 k1 k2 k3 hff HC3 HO1 HO2 HM2 HDL HDR
    generalize hr : p + q = r at *
    have HRR := Lib.hid hr
    clear hr
    go_wp2_with fail
    go_loopw [29] (fun i wr => ∃ j : Nat, j ≤ L ∧ i = .int .i64 j ∧ Hid (∀ (i : Nat) (s : Sh), i < j → l[i]? = some s → s.2 = f s.1.toNat) ∧ Below w3.heap.size w3 wr) (fun i _ => L - (intOf i).toNat)
    case atStart => exact ⟨0, Nat.zero_le _, rfl, (fun i s hi => by omega), Below.refl _ _⟩
    case round =>
      obtain ⟨j, hj, rfl, HM, hb⟩ := hrel
      have hbz := hb.size
      have HBW : Hid (Below w.heap.size w wr) := KF.out.to_below.trans (hb.mono (by have := KF.out.size; omega))
      by_cases hlt : j < L
      · have hji : (j : Int) < (L : Int) := by omega
        obtain ⟨b, off, rfl, hbl, hcell⟩ := HX.out (by omega)
        obtain ⟨⟨no, s⟩, hks⟩ := at_lt HL.out hlt
        have hn2 := HNO.out j _ hks
        simp only at hn2
        obtain ⟨no, rfl⟩ := Int.eq_ofNat_of_zero_le hn2.1
        have hnr : no < r := by have := HRR.out; omega
        have cc1 := (HBW.out.cell (p := ⟨b, off + j * 2, none⟩) hbl).trans (hcell j _ hks).1
        have cc2 := (HBW.out.cell (p := ⟨b, off + j * 2 + 1, none⟩) hbl).trans (hcell j _ hks).2
        simp only at cc1 cc2
        have ca := (hb.cell (p := ⟨b3, off3 + no, none⟩) hb3).trans (HC4.out no hnr)
        have hn0 : (0 : Int) ≤ (no : Int) := by omega
        have hn1 : (no : Int) < (r : Int) := by omega
        have ca2 : (wr.alloc (.cells #[.int .i64 no, .string (str s)] 35)).cell? ⟨b3, off3 + no, none⟩ = some (.string (str (f no))) := cell_turn (turn_alloc _ _) ca (by omega)
        have cs1 := alloc_pair0' wr (.int .i64 no) (.string (str s)) 35
        have cs2 := alloc_pair1' wr (.int .i64 no) (.string (str s)) 35
        have hb2 := hb.alloc hbz (.cells #[.int .i64 no, .string (str s)] 35)
        have HKS := Lib.hid hks
        clear hcell hks hn2
        by_cases he : s = f no
        · have hbb : ((str (f no)).toList != (str s).toList) = false := by rw [str_ne_iff, he]; simp
          have hbe : ((str (f no)).toList == (str s).toList) = true := by rw [str_eq_iff, he]; simp
          have HE := Lib.hid he
          clear he
          go_wp2_with fail
          generalize (wr.alloc (.cells #[.int .i64 no, .string (str s)] 35)) = W1 at *
          go_quiet (fail)
          go_wp2_with fail
          go_roundw
          case rel => exact ⟨j + 1, by omega, by go_num, (fun i x hi hx => by
            by_cases e : i < j
            · exact HM.out i x e hx
            · obtain rfl : i = j := by omega
              have e1 := HKS.out
              rw [hx] at e1
              cases e1
              simpa using HE.out), below_drewN hb2 _⟩
          case measure => simp [intOf]; omega
        · have hbb : ((str (f no)).toList != (str s).toList) = true := by rw [str_ne_iff]; simpa using fun e => he e.symm
          have hbe : ((str (f no)).toList == (str s).toList) = false := by rw [str_eq_iff]; simpa using fun e => he e.symm
          have HF : Hid (chkR l p q = false) := by
            show chkR l p q = false
            rw [HCK.out, ← Bool.not_eq_true, matchB_iff]
            intro hall
            have := hall j _ HKS.out
            simp at this
            exact he this
          clear he
          go_wp2_with fail
          generalize (wr.alloc (.cells #[.int .i64 no, .string (str s)] 35)) = W1 at *
          go_quiet (fail)
          go_wp2_with fail
          go_ret2
          exact ⟨by rw [HF.out, HD.out]; rfl, TurnIn.of_below (KF.out.to_below.trans ((below_drewN hb2 _).mono KF.out.size))⟩
      · obtain rfl : j = L := by omega
        have hji : ¬ (j : Int) < (j : Int) := by omega
        have HF : Hid (chkR l p q = true) := by
          show chkR l p q = true
          rw [HCK.out, matchB_iff]
          exact fun i s hs => HM.out i s (by have := (List.getElem?_eq_some_iff.1 hs).1; have := HL.out; omega) hs
        go_wp2_with fail
        go_ret2
        exact ⟨by rw [HF.out, HD.out]; rfl, TurnIn.of_below HBW.out⟩
  · have hd' : decOk l k m = false := by simpa using hd
    have HD := Lib.hid hd'
    have HF := Lib.hid (chkR_no hd')
    clear hd hd' hx
    go_enter Tryd.func24, Tryd.ntmps24
    go_wp2_with fail
    refine (sDecodeShards_own _ l k m _ HV.out).mono ?_
    rintro e w1 ⟨v1, rfl, o1, k1⟩
    obtain ⟨A1, n1, c1', rfl⟩ := o1.isSlice
    rw [HD.out]
    clear o1
    go_wp2_with fail
    go_ret2
    exact ⟨by rw [HF.out, HD.out]; rfl, k1⟩

end Go.Proofs.YtipmfebnjmobfaaDoor
