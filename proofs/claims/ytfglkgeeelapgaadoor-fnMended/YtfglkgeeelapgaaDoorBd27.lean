/- Joined texts: PartWalks, Mend1, MendMath, Mend2, Mend3, MrgMath. -/
import Derived.Test.YtfglkgeeelapgaaDoorBd13
import Derived.Test.YtfglkgeeelapgaaDoorBd04
import Derived.Test.YtfglkgeeelapgaaDoorBd11
import Derived.Test.YtfglkgeeelapgaaDoorBd05
import Derived.Deep.QuietTactic
import Derived.BigQuiet
import Derived.Test.YtfglkgeeelapgaaDoorBd20
import Derived.Test.YtfglkgeeelapgaaDoorBd16
import Derived.Test.YtfglkgeeelapgaaDoorBd18
import Derived.Test.YtfglkgeeelapgaaDoorBd22
import Derived.Test.YtfglkgeeelapgaaDoorBd21
import Derived.Lib.AppendZeros
import Derived.WalkSpells
import Derived.Deep.RegionHeld3
import Derived.Deep.CutRange
import Derived.Test.YtfglkgeeelapgaaDoorBd26
import Derived.Test.YtfglkgeeelapgaaDoorBd23
set_option linter.unusedSimpArgs false
set_option linter.unusedVariables false
/- PartOf, the program's. -/
namespace Go.Proofs.YtfglkgeeelapgaaDoor
open Go.RowKit G294

set_option maxRecDepth 100000 in
set_option maxHeartbeats 1000000 in
theorem goodChoice_any (v : Value) (l : List Int) (size : Nat) (w : World) (hv : Seen w v (ints l)) (hsz : size ≤ 1000) :
    Calls Tryd.prog 114 #[v, .int .i64 size] w fun e w' => e = .returned (.bool (chosen l size)) ∧ w = w' := by
  obtain ⟨A, c, rfl, hlc, hcm, hx⟩ := hv
  rw [ints_length] at hlc hx
  simp only [ints_length]
  unfold maxLen at hcm
  generalize hnn : l.length = n at *
  have HN := Lib.hid hnn
  have HX := Lib.hid hx
  clear hnn hx
  go_enter Tryd.func114, Tryd.ntmps114
  go_wp2_with fail
  go_loop [5, 10] (fun q i => ∃ (k : Nat) (z : Int), k ≤ n ∧ i = .int .i64 k ∧ q = .int .i64 z ∧ Hid (z = if k = 0 then -1 else l.getD (k - 1) 0) ∧ Hid (∀ i, i < k → okAt l size i)) (fun _ i => n - (intOf i).toNat)
  case atStart => exact ⟨0, -1, Nat.zero_le _, rfl, rfl, rfl, fun i h => by omega⟩
  case round =>
    obtain ⟨k, z, hk, rfl, rfl, HZ, HK⟩ := hrel
    by_cases hlt : k < n
    · have hki : (k : Int) < (n : Int) := by omega
      have hkl : k < l.length := by rw [HN.out]; exact hlt
      obtain ⟨b, off, rfl, hbl, hcell⟩ := HX.out (by omega)
      have hcx := hcell k _ (ints_get l k hkl)
      obtain ⟨x, hxx⟩ : ∃ x, x = l[k] := ⟨_, rfl⟩
      rw [← hxx] at hcx
      have HXX : Hid (l.getD k 0 = x) := by show l.getD k 0 = x; rw [hxx]; simp [List.getD, hkl]
      clear hcell hxx
      by_cases h1 : x ≤ z
      · have hd : decide (x ≤ z) = true := by simpa using h1
        have HF : Hid (chosen l size = false) := by
          show chosen l size = false
          unfold chosen
          rw [someOk_no hkl (fun ho => by
            have hz := HZ.out
            have e := HXX.out
            obtain ⟨o1, o2, o3⟩ := ho
            by_cases hk0 : k = 0
            · rw [if_pos hk0] at hz; omega
            · rw [if_neg hk0] at hz
              have := o3 (by omega)
              omega)]
          rfl
        go_wp2_with fail
        go_ret
        exact ⟨by rw [HF.out]; rfl, rfl⟩
      · have hd : decide (x ≤ z) = false := by simpa using h1
        by_cases h2 : (size : Int) ≤ x
        · have hd2 : decide ((size : Int) ≤ x) = true := by simpa using h2
          have HF : Hid (chosen l size = false) := by
            show chosen l size = false
            unfold chosen
            rw [someOk_no hkl (fun ho => by
              have e := HXX.out
              obtain ⟨o1, o2, o3⟩ := ho
              omega)]
            rfl
          go_wp2_with fail
          go_ret
          exact ⟨by rw [HF.out]; rfl, rfl⟩
        · have hd2 : decide ((size : Int) ≤ x) = false := by simpa using h2
          have HZ2 : Hid (x = if k + 1 = 0 then -1 else l.getD (k + 1 - 1) 0) := by
            show x = _
            rw [if_neg (by omega), Nat.add_sub_cancel, HXX.out]
          have HK2 : Hid (∀ i, i < k + 1 → okAt l size i) := fun i hi => by
            by_cases e : i = k
            · subst e
              have hz := HZ.out
              have e := HXX.out
              refine ⟨?_, by omega, fun hp => ?_⟩
              · by_cases hk0 : i = 0
                · rw [if_pos hk0] at hz; omega
                · rw [if_neg hk0] at hz
                  have := (HK.out (i - 1) (by omega)).1
                  omega
              · rw [if_neg (by omega)] at hz; omega
            · exact HK.out i (by omega)
          go_wp2_with fail
          go_round
          case rel => exact ⟨k + 1, x, by omega, by go_num, rfl, HZ2, HK2⟩
          case measure => simp [intOf]; omega
    · obtain rfl : k = n := by omega
      have hki : ¬ (k : Int) < (k : Int) := by omega
      have HF : Hid (chosen l size = decide (0 < k)) := by
        show chosen l size = _
        unfold chosen
        rw [(someOk_iff l size).2 (fun i hi => HK.out i (by rw [← HN.out]; exact hi)), HN.out]; rfl
      go_wp2_with fail
      go_ret
      exact ⟨by rw [HF.out]; simp, rfl⟩

end Go.Proofs.YtfglkgeeelapgaaDoor

/- lostInverse, the program's. -/
namespace G294
open Go Go.RowKit
/-- the columns of the lost elements in the first rows of the matrix of the parities -/
def lostF (l : List Int) : Ents := fun i j => prmF i (l.getD j 0).toNat
def liF (l : List Int) : Ents := ent (mkM l.length l.length (lostF l))
def liOk (l : List Int) (k : Nat) : Bool := chosen l k && decide ((est (liF l) l.length l.length).2 = l.length)
def liR (l : List Int) (k : Nat) : Mat := if liOk l k = true then mkM l.length l.length (bst (liF l) idF l.length l.length) else []
theorem li_mk (l : List Int) : mkM l.length l.length (liF l) = mkM l.length l.length (lostF l) := mkM_congr fun i j hi hj => ent_mkM _ _ _ i j hi hj
theorem li_inv {l : List Int} (h1 : 1 ≤ l.length) (h2 : l.length ≤ 16) : invOk (mkM l.length l.length (lostF l)) = decide ((est (liF l) l.length l.length).2 = l.length) := by
  have g : goodM (mkM l.length l.length (lostF l)) = true := good_mkM _ _ _ h1 h2 h1 h2
  unfold invOk squareM rankN
  rw [g, wid_mkM _ _ _ (by omega), mkM_length]
  have e : decide (l.length = l.length) = true := by simp
  rw [e]; rfl
theorem li_R {l : List Int} {k : Nat} (h1 : 1 ≤ l.length) (h2 : l.length ≤ 16) (hc : chosen l k = true) : invR (mkM l.length l.length (lostF l)) = liR l k ∧ invOk (mkM l.length l.length (lostF l)) = liOk l k := by
  have e := li_inv h1 h2
  have e2 : liOk l k = invOk (mkM l.length l.length (lostF l)) := by rw [e]; simp [liOk, hc]
  refine ⟨?_, e2.symm⟩
  unfold invR liR invF
  rw [e2, mkM_length]; rfl
theorem li_no {l : List Int} {k : Nat} (h : chosen l k = false) : liOk l k = false ∧ liR l k = [] := by
  have e : liOk l k = false := by simp [liOk, h]
  exact ⟨e, if_neg (by rw [e]; simp)⟩
end G294
namespace Go.Proofs.YtfglkgeeelapgaaDoor
open Go.RowKit G294

set_option maxRecDepth 100000 in
set_option maxHeartbeats 2000000 in
theorem lostAt (r k Bm Bl : Nat) (l : List Int) (vm vl : Value) (w : World) (hm : w.cell? ⟨Bm, 0, none⟩ = some vm) (hl : w.cell? ⟨Bl, 0, none⟩ = some vl) (hBm : Bm < w.heap.size) (hBl : Bl < w.heap.size) (sm : SeenM w vm (mkM r k prmF)) (sl : Seen w vl (ints l)) (hr : l.length = r) (hin : ∀ j, j < r → 0 ≤ l.getD j 0 ∧ l.getD j 0 < k) (hk : k ≤ 16) (hr2 : r ≤ 4) :
    GivesAt Tryd.prog 115 #[.pointer (some ⟨Bm, 0, none⟩), .pointer (some ⟨Bl, 0, none⟩)] r r (lostF l) w := by
  intro W i j hb hi hj
  have c0 := (hb.cell (p := ⟨Bm, 0, none⟩) hBm).trans hm
  have c1 := (hb.cell (p := ⟨Bl, 0, none⟩) hBl).trans hl
  obtain ⟨bb, off, cp, A, c', hvv, hrm, hbb, hrow, hcl, hsr⟩ := (sm.below hb).rowF i hi
  subst hvv
  obtain ⟨A2, c2, hA2, hlc2, hcm2, hx2⟩ := sl.below hb
  rw [ints_length, hr] at hA2 hlc2 hx2
  subst hA2
  obtain ⟨b2, off2, rfl, hb2, hcell2⟩ := hx2 (by omega)
  have hc2 := hcell2 j _ (ints_get l j (by omega))
  have hgl : l[j]'(by omega) = l.getD j 0 := by simp [List.getD, show j < l.length by omega]
  rw [hgl] at hc2
  obtain ⟨z, hz⟩ := Int.eq_ofNat_of_zero_le (hin j hj).1
  have hzk : z < k := by have := (hin j hj).2; omega
  have HV : Hid (lostF l i j = prmF i z) := Lib.hid (by unfold lostF; rw [hz]; rfl)
  rw [hz] at hc2
  obtain ⟨A3, c3, hA3, hlc3, hcm3, hx3⟩ := hsr
  simp only [bys_length, mkRow_length] at hA3 hlc3 hx3
  simp only [Value.slice.injEq] at hA3
  obtain ⟨rfl, _, rfl⟩ := hA3
  obtain ⟨b3, off3, rfl, hb3, hcell3⟩ := hx3 (by omega)
  have hc3 := hcell3 z _ (bys_get _ z (by simpa using hzk))
  rw [mkRow_get] at hc3
  rw [HV.out]
  have hii : (i : Int) < (r : Int) := by omega
  have hjj : (j : Int) < (r : Int) := by omega
  have hzz : (z : Int) < (k : Int) := by omega
  unfold maxLen at hrm hcl hcm2 hcm3
  clear hcell2 hcell3 hx2 hx3 hin hz hgl sm sl hm hl HV hr
  go_enter Tryd.func115, Tryd.ntmps115
  go_wp2_with fail
  go_quiet (fail)
  go_wp2_with fail
  go_ret
  exact ⟨rfl, _, rfl⟩

set_option maxRecDepth 100000 in
set_option maxHeartbeats 4000000 in
theorem lostInverse_own (k : Nat) (l : List Int) (v : Value) (w : World) (hv : Seen w v (ints l)) (hk : 1 ≤ k ∧ k ≤ 16) (hl : 1 ≤ l.length ∧ l.length ≤ 4) (ht : Tab w) (h0 : 2 < w.heap.size) :
    Calls Tryd.prog 77 #[.int .i64 k, v] w (RetMatOk 5 22 w (liR l k) (liOk l k)) := by
  obtain ⟨A, c, hvv⟩ := hv.len
  rw [ints_length] at hvv
  subst hvv
  obtain ⟨r, hr⟩ : ∃ r, r = l.length := ⟨_, rfl⟩
  have HR := Lib.hid hr
  rw [← hr] at hv hl ⊢
  clear hr
  have a1 := turn_alloc w (.cells #[.slice A r c] 47)
  have a2 := turn_alloc (w.alloc (.cells #[.slice A r c] 47)) (.cells #[.slice none 0 0] 39)
  have z2 : ((w.alloc (.cells #[.slice A r c] 47)).alloc (.cells #[.slice none 0 0] 39)).heap.size = w.heap.size + 2 := by simp
  have cL := cell_turn a2 (alloc_cell w (.slice A r c) 47) (alloc_lt _ _)
  have cR := alloc_cell (w.alloc (.cells #[.slice A r c] 47)) (.slice none 0 0) 39
  have fR := alloc_frz (w.alloc (.cells #[.slice A r c] 47)) #[.slice none 0 0] 39 0
  rw [World.size_alloc] at cR fR
  have k2 := turn_trans a1 a2 (by omega)
  have HP : Hid (prmOk (k : Int) (r : Int) = true) := Lib.hid (by simp [prmOk, goodI, par4]; omega)
  have HRR : Hid (prmR (k : Int) (r : Int) = mkM r k prmF) := Lib.hid (by unfold prmR; rw [if_pos HP.out]; simp)
  have HC := Lib.hid (parityMatrix_own (k : Int) (r : Int) _ (ht.below k2.to_below h0) (by omega))
  rw [HP.out, HRR.out] at HC
  have HV := Lib.hid (hv.touch k2)
  have HK2 := Lib.hid k2
  have HTT := Lib.hid ht
  have hz2 : w.heap.size + 2 ≤ ((w.alloc (.cells #[.slice A r c] 47)).alloc (.cells #[.slice none 0 0] 39)).heap.size := by omega
  clear hv ht a1 a2 z2 k2
  by_cases hch : chosen l k = true
  · have HCH := Lib.hid hch
    have hin : ∀ j, j < r → 0 ≤ l.getD j 0 ∧ l.getD j 0 < k := fun j hj => by
      simp only [chosen, Bool.and_eq_true] at hch
      have := (someOk_iff l k).1 hch.1 j (by rw [← HR.out]; exact hj)
      exact ⟨this.1, this.2.1⟩
    have HIN := Lib.hid hin
    have HLR := Lib.hid (li_R (k := k) (by rw [← HR.out]; exact hl.1) (by rw [← HR.out]; omega) hch)
    rw [← HR.out] at HLR
    have eg := enters_of Tryd.func115 (by kernel_rfl) rfl
    clear hch hin
    go_enter Tryd.func77, Tryd.ntmps77
    go_wp2_with fail
    refine HC.out.mono ?_
    rintro e w3 ⟨v3, vs3, rfl, hM, k3⟩
    generalize ((w.alloc (.cells #[.slice A r c] 47)).alloc (.cells #[.slice none 0 0] 39)) = w2 at *
    obtain ⟨A3, n3, c3, rfl⟩ := hM.isSlice
    have a4 := turn_alloc w3 (.cells #[.slice A3 n3 c3] 39)
    have cM := alloc_cell w3 (.slice A3 n3 c3) 39
    have l4 := alloc_lt w3 (.cells #[.slice A3 n3 c3] 39)
    have s3 := k3.size
    have k4 := turn_trans k3 a4 (by omega)
    replace cL := cell_turn k4 cL (by omega)
    replace cR := cell_turn k4 cR (by omega)
    replace fR := frozen_turn k4 fR (by omega)
    have HM4 := Lib.hid (hM.keep a4 (by omega)).seen
    have HV4 := Lib.hid (HV.out.touch k4)
    have k04 := turn_trans HK2.out k4 (by omega)
    have s4 := a4.size
    clear hM k3 a4 HC
    go_wp2_with fail
    generalize hw4 : (w3.alloc (.cells #[.slice A3 n3 c3] 39)) = w4 at *
    clear hw4
    refine (goodChoice_any _ l k _ HV4.out (by omega)).mono ?_
    rintro e w' ⟨rfl, rfl⟩
    rw [HCH.out]
    have HG := Lib.hid (lostAt r k w3.heap.size w.heap.size l _ _ w4 cM cL l4 (by omega) HM4.out HV4.out HR.out.symm HIN.out hk.2 hl.2)
    go_wp2_with fail
    refine (newGridB r r _ _ _ _ eg HG.out (by omega) (by omega)).mono ?_
    rintro e w5 ⟨v5, vs5, rfl, hM5, k5⟩
    obtain ⟨A5, n5, c5, rfl⟩ := hM5.isSlice
    have s5 := k5.size
    replace cR := cell_turn k5 cR (by omega)
    replace fR := frozen_turn k5 fR (by omega)
    have k05 := turn_trans k04 k5 (by omega)
    have HS5 := Lib.hid hM5.seen
    have HI := Lib.hid (inverseOf_own (.slice A5 n5 c5) (mkM r r (lostF l)) w5 HS5.out (HTT.out.below k05.to_below h0) (by omega))
    rw [HLR.out.1, HLR.out.2] at HI
    clear hM5 k5 HG
    go_wp2_with fail
    refine HI.out.mono ?_
    rintro e w6 ⟨v6, vs6, rfl, hM6, k6⟩
    obtain ⟨A6, n6, c6, rfl⟩ := hM6.isSlice
    have s6 := k6.size
    replace cR := cell_turn k6 cR (by omega)
    replace fR := frozen_turn k6 fR (by omega)
    have HF := Lib.hid (ret_store k05.to_below hM6 k6 (w.heap.size + 1) 0 (by omega) (by omega) (.slice A6 n6 c6))
    clear hM6 k6
    go_wp2_with fail
    refine bodyPost_ret (v := .tuple #[.agg #[.slice A6 n6 c6], .bool (liOk l k)]) (by simp [results, Tryd.results77, go_sem, cR]) rfl ?_
    exact ⟨.slice A6 n6 c6, vs6, rfl, HF.out.1, HF.out.2⟩
  · have HCH : Hid (chosen l k = false) := Lib.hid (by simpa using hch)
    have HN := Lib.hid (li_no HCH.out)
    rw [HN.out.1, HN.out.2]
    clear hch
    go_enter Tryd.func77, Tryd.ntmps77
    go_wp2_with fail
    refine HC.out.mono ?_
    rintro e w3 ⟨v3, vs3, rfl, hM, k3⟩
    generalize ((w.alloc (.cells #[.slice A r c] 47)).alloc (.cells #[.slice none 0 0] 39)) = w2 at *
    obtain ⟨A3, n3, c3, rfl⟩ := hM.isSlice
    have a4 := turn_alloc w3 (.cells #[.slice A3 n3 c3] 39)
    have s3 := k3.size
    have k4 := turn_trans k3 a4 (by omega)
    replace cL := cell_turn k4 cL (by omega)
    replace cR := cell_turn k4 cR (by omega)
    replace fR := frozen_turn k4 fR (by omega)
    have HV4 := Lib.hid (HV.out.touch k4)
    have k04 := turn_trans HK2.out k4 (by omega)
    clear hM k3 a4 HC
    go_wp2_with fail
    refine (goodChoice_any _ l k _ HV4.out (by omega)).mono ?_
    rintro e w' ⟨rfl, rfl⟩
    rw [HCH.out]
    go_wp2_with fail
    refine bodyPost_ret (v := .tuple #[.agg #[.slice none 0 0], .bool false]) (by simp [results, Tryd.results77, go_sem, cR]) rfl ?_
    exact ⟨_, [], rfl, OwnM.nil _ _ _ _, TurnIn.of_below (k04.to_below.setCell (Nat.le_succ _) _)⟩

end Go.Proofs.YtfglkgeeelapgaaDoor

/- MendStripe: what is mended. -/
namespace G294
open Go Go.RowKit
def zerosL (n : Nat) : List UInt8 := mkRow n fun _ => 0
@[simp] theorem zerosL_length (n : Nat) : (zerosL n).length = n := by simp [zerosL]
/-- the first k elements of l are places: what stands there is replaced by X -/
def putAll (D : List (List UInt8)) (l : List Int) (X : Nat → List UInt8) : Nat → List (List UInt8)
  | 0 => D
  | k + 1 => (putAll D l X k).set (l.getD k 0).toNat (X k)
@[simp] theorem putAll_length (D : List (List UInt8)) (l : List Int) (X : Nat → List UInt8) (k : Nat) : (putAll D l X k).length = D.length := by
  induction k with
  | zero => rfl
  | succ k ih => simp [putAll, ih]
theorem putAll_lens {D : List (List UInt8)} {l : List Int} {X : Nat → List UInt8} {n k : Nat} (hD : ∀ t ∈ D, t.length = n) (hX : ∀ i, i < k → (X i).length = n) : ∀ t ∈ putAll D l X k, t.length = n := by
  induction k with
  | zero => exact hD
  | succ k ih =>
    intro t ht
    rcases List.mem_or_eq_of_mem_set ht with h | h
    · exact ih (fun i hi => hX i (by omega)) t h
    · rw [h]; exact hX k (by omega)
theorem putAll_get (D : List (List UInt8)) (l : List Int) (X : Nat → List UInt8) (k i : Nat) (h : ∀ j, j < k → (l.getD j 0).toNat ≠ i) : (putAll D l X k)[i]? = D[i]? := by
  induction k with
  | zero => rfl
  | succ k ih =>
    rw [putAll, List.getElem?_set_ne (h k (by omega)), ih fun j hj => h j (by omega)]
theorem putAll_same (D E : List (List UInt8)) (l : List Int) (X : Nat → List UInt8) (k : Nat) (hl : D.length = E.length) (h : ∀ i, (∀ j, j < k → (l.getD j 0).toNat ≠ i) → D[i]? = E[i]?) : putAll D l X k = putAll E l X k := by
  refine List.ext_getElem? fun i => ?_
  induction k generalizing D E with
  | zero => exact h i (fun j hj => by omega)
  | succ k ih =>
    rw [putAll, putAll]
    by_cases e : (l.getD k 0).toNat = i
    · subst e
      rw [List.getElem?_set, List.getElem?_set]
      simp only [putAll_length, hl, if_true]
    · rw [List.getElem?_set_ne e, List.getElem?_set_ne e]
      by_cases h2 : ∀ j, j < k → (l.getD j 0).toNat ≠ i
      · rw [putAll_get _ _ _ _ _ h2, putAll_get _ _ _ _ _ h2]
        refine h i fun j hj => ?_
        rcases Nat.lt_or_ge j k with h3 | h3
        · exact h2 j h3
        · obtain rfl : j = k := by omega
          exact e
      · -- the place was put
        clear h ih
        have key : ∀ (m : Nat), m ≤ k → (∃ j, j < m ∧ (l.getD j 0).toNat = i) → (putAll D l X m)[i]? = (putAll E l X m)[i]? := by
          intro m
          induction m with
          | zero => intro _ ⟨j, hj, _⟩; omega
          | succ m ihm =>
            intro hm ⟨j, hj, hji⟩
            rw [putAll, putAll]
            by_cases e2 : (l.getD m 0).toNat = i
            · subst e2
              rw [List.getElem?_set, List.getElem?_set]
              simp only [putAll_length, hl, if_true]
            · rw [List.getElem?_set_ne e2, List.getElem?_set_ne e2]
              refine ihm (by omega) ⟨j, ?_, hji⟩
              rcases Nat.lt_or_ge j m with h3 | h3
              · exact h3
              · obtain rfl : j = m := by omega
                exact absurd hji e2
        refine key k (Nat.le_refl _) ?_
        rcases Classical.em (∃ j, j < k ∧ (l.getD j 0).toNat = i) with h3 | h3
        · exact h3
        · exact absurd (fun j hj he => h3 ⟨j, hj, he⟩) h2
theorem putAll_blank (D : List (List UInt8)) (l : List Int) (X : Nat → List UInt8) (Y : Nat → List UInt8) (k : Nat) : putAll (putAll D l Y k) l X k = putAll D l X k :=
  putAll_same _ _ _ _ _ (putAll_length _ _ _ _) fun i h => putAll_get _ _ _ _ _ h
/-- the data with the lost elements blank -/
def blankT (D : List (List UInt8)) (l : List Int) (n k : Nat) : List (List UInt8) := putAll D l (fun _ => zerosL n) k
theorem plusL_comm {a b : List UInt8} (h : b.length = a.length) : plusL a 1 b = plusL b 1 a := by
  unfold plusL
  rw [h]
  exact mkRow_congr fun p _ => by rw [gmul_one_left, gmul_one_left, UInt8.xor_comm]
/-- what the lost elements contribute to the first parities -/
def leftT (s : Strp) (l : List Int) (i : Nat) : List UInt8 := plusL (s.2.getD i []) 1 (comb s.1.length (firstLen s) (prmF i) (blankT s.1 l (firstLen s) l.length))
def foundT (s : Strp) (l : List Int) (i : Nat) : List UInt8 := comb l.length (firstLen s) (bst (liF l) idF l.length l.length i) (textsF l.length (leftT s l))
def mndPre (s : Strp) (l : List Int) : Bool := strpOk s && (someOk l s.1.length && decide (l.length ≤ s.2.length))
def mndOk (s : Strp) (l : List Int) : Bool := mndPre s l && (decide (l.length = 0) || liOk l s.1.length)
def mndS (s : Strp) (l : List Int) : Strp := (putAll s.1 l (foundT s l) l.length, s.2)
def mndR (s : Strp) (l : List Int) : Strp := if mndOk s l = true then mndS s l else ([], [])
theorem mndR_no {s : Strp} {l : List Int} (h : mndOk s l = false) : mndR s l = ([], []) := if_neg (by rw [h]; simp)
theorem mndR_yes {s : Strp} {l : List Int} (h : mndOk s l = true) : mndR s l = mndS s l := if_pos h
theorem mndR_len (s : Strp) (l : List Int) : (mndR s l).1.length + (mndR s l).2.length ≤ 20 := by
  unfold mndR; split
  · rename_i h
    simp only [mndOk, mndPre, Bool.and_eq_true] at h
    have := strpOk_b h.1.1
    simp only [mndS, putAll_length]; omega
  · simp
end G294

/- slices.Clone of texts; lostParities, the program's. -/
namespace G294
open Go Go.RowKit
theorem zerosL_length' (n : Nat) : (zerosL n).length = n := zerosL_length n
theorem zeros_bys (n : Nat) : bys (zerosL n) = List.replicate n (.int .u8 0) := by
  refine List.ext_getElem (by simp [bys]) fun i h1 h2 => ?_
  simp [bys, zerosL, mkRow]
theorem chosen_b {l : List Int} {k : Nat} (h : chosen l k = true) : (∀ j, j < l.length → 0 ≤ l.getD j 0 ∧ l.getD j 0 < k) ∧ 1 ≤ l.length := by
  simp only [chosen, Bool.and_eq_true, decide_eq_true_eq] at h
  exact ⟨fun j hj => ⟨((someOk_iff l k).1 h.1 j hj).1, ((someOk_iff l k).1 h.1 j hj).2.1⟩, h.2⟩
theorem blank_ok {s : Strp} (h : strpOk s = true) (l : List Int) (k : Nat) (r : Nat) (hr : 1 ≤ r ∧ r ≤ 4) : mkOk (blankT s.1 l (firstLen s) k) r = true ∧ ((blankT s.1 l (firstLen s) k).getD 0 []).length = firstLen s := by
  have b := strpOk_b h
  have hl : (blankT s.1 l (firstLen s) k).length = s.1.length := putAll_length _ _ _ _
  have hlen : ∀ t ∈ blankT s.1 l (firstLen s) k, t.length = firstLen s := putAll_lens (strpOk_len h).1 (fun _ _ => zerosL_length _)
  have h0 : ((blankT s.1 l (firstLen s) k).getD 0 []).length = firstLen s := hlen _ (getD_mem (by omega))
  refine ⟨?_, h0⟩
  have e1 : textsOk (blankT s.1 l (firstLen s) k) = true := textsOk_all.2 fun t ht => by
    rw [h0, hlen t ht]; exact ⟨rfl, strp_len40 h⟩
  simp only [mkOk, prmOk, e1, hl, goodI, par4]
  simp; omega
end G294
namespace Go.Proofs.YtfglkgeeelapgaaDoor
open Go.RowKit G294

set_option maxRecDepth 100000 in
set_option maxHeartbeats 2000000 in
theorem slicesCloneS_own (v : Value) (L : List (List UInt8)) (w : World) (hv : Seen w v (strs L)) (h1 : 1 ≤ L.length) (h2 : L.length ≤ 1000) : Calls Tryd.prog 117 #[v] w (RetStrs 9 w L) := by
  obtain ⟨b, off, c, rfl, hbl, hlm, hcell⟩ := seen_cells (W := w) hv h1
  have hbA : Below w.heap.size w (w.alloc (.cells #[] 9)) := (Below.refl _ _).alloc (Nat.le_refl _) _
  obtain ⟨cp, w1, hap, ho, k1⟩ := run_appendLit (P := Tryd.prog) (w.alloc (.cells #[] 9)) 23 23 9 _ _ Tryd.underlying23 infoStr rfl ⟨w.heap.size, 0, none⟩ ⟨b, off, none⟩ L.length c (strs L) h1 (strs_length _) (hcell _ hbA) (strs_oneC _) (by omega) (by omega)
  rw [World.size_alloc] at hap ho
  have HO : Hid (OwnStrs 9 w1 w.heap.size w1.heap.size (.slice (some ⟨w.heap.size + 1, 0, none⟩) L.length cp) L) := Lib.hid ⟨own_lower ho (Nat.le_succ _) rfl, Nat.le_refl _, fun g e => (ho.lt g e).2⟩
  have HK := Lib.hid (turn_trans (TurnIn.of_below hbA) k1 (by omega))
  have hq : ∀ W : World, (binOp .eql 23 (.slice (some ⟨b, off, none⟩) L.length c) (.slice none 0 0)).run Tryd.prog W = .ok (.bool false) W := fun W => by
    have h := Lib.run_eql_slice_nil (P := Tryd.prog) W 23 9 (some ⟨b, off, none⟩) L.length c 0 0 Tryd.underlying23
    simpa using h
  clear hcell ho k1 hv
  generalize L.length = n at *
  go_enter Tryd.func117, Tryd.ntmps117
  go_wp2_with (at_builtin; refine Lib.wpList_append_run _ rfl _ _ _ _ rfl _ _ rfl rfl _ _ hap ?_)
  go_wp2_with fail
  go_ret
  exact ⟨_, rfl, HO.out, HK.out⟩

set_option maxRecDepth 100000 in
set_option maxHeartbeats 4000000 in
theorem lostParities_own (s : Strp) (l : List Int) (v u x : Value) (w : World) (hv : Seen w v (strs s.1)) (hu : Seen w u (strs s.2)) (hx : Seen w x (ints l)) (hs : strpOk s = true) (hc : chosen l s.1.length = true) (hr : l.length ≤ s.2.length) (ht : Tab w) (h0 : 2 < w.heap.size) :
    Calls Tryd.prog 78 #[.agg #[v, u], x] w (RetStrs 9 w (textsF l.length (leftT s l))) := by
  obtain ⟨i0, hi0, hzz0, hzz1, hzz2⟩ := info_parts infoByte
  obtain ⟨A, c, hvv⟩ := hv.len
  obtain ⟨B, d, huu⟩ := hu.len
  obtain ⟨X, e, hxx, hlx, hmx, hxc⟩ := hx
  rw [strs_length] at hvv huu
  rw [ints_length] at hxx hlx hxc
  subst hvv huu hxx
  have b1 := strpOk_b hs
  have HIN := Lib.hid (chosen_b hc).1
  have hr1 := (chosen_b hc).2
  have HBK := Lib.hid (fun k => blank_ok hs l k l.length ⟨hr1, by omega⟩)
  have HLEN : Hid (∀ k, ∀ t ∈ blankT s.1 l (firstLen s) k, t.length = firstLen s) := Lib.hid (fun k => putAll_lens (strpOk_len hs).1 (fun _ _ => zerosL_length _))
  have HL2 : Hid (∀ i, i < l.length → (s.2.getD i []).length = firstLen s) := Lib.hid (fun i hi => strp_len2 hs (by omega))
  have h40 := strp_len40 hs
  obtain ⟨b9, off9, rfl, hb9, hcell9⟩ := hxc (by omega)
  have HC9 := Lib.hid hcell9
  have a1 := turn_alloc w (.cells #[.slice A s.1.length c, .slice B s.2.length d] 25)
  have c0 := alloc_duo0 w (.slice A s.1.length c) (.slice B s.2.length d) 25
  have c1 := alloc_duo1 w (.slice A s.1.length c) (.slice B s.2.length d) 25
  have l1 := alloc_lt w (.cells #[.slice A s.1.length c, .slice B s.2.length d] 25)
  have HV := Lib.hid (hv.touch a1)
  have HU := Lib.hid hu
  have HTT := Lib.hid ht
  have HA1 := Lib.hid a1
  have HBL : Hid (∀ k, (blankT s.1 l (firstLen s) k).length = s.1.length) := Lib.hid (fun k => putAll_length _ _ _ _)
  have HS := Lib.hid hs
  have HST : Hid (∀ (k z : Nat), l.getD k 0 = (z : Int) → (blankT s.1 l (firstLen s) k).set z (zerosL (firstLen s)) = blankT s.1 l (firstLen s) (k + 1)) := Lib.hid (fun k z hz => by simp only [blankT, putAll, hz]; rfl)
  have HZ0 : Hid (blankT s.1 l (firstLen s) 0 = s.1) := Lib.hid rfl
  have HFL : Hid (∀ i, i < l.length → leftT s l i = plusL (s.2.getD i []) 1 ((mkS (blankT s.1 l (firstLen s) l.length) l.length).2.getD i [])) := Lib.hid (fun i hi => by
    have hb := (blank_ok hs l l.length l.length ⟨hr1, by omega⟩).2
    have hl9 : (blankT s.1 l (firstLen s) l.length).length = s.1.length := putAll_length _ _ _ _
    have e1 : (mkS (blankT s.1 l (firstLen s) l.length) l.length).2 = textsF l.length fun i => comb s.1.length (firstLen s) (prmF i) (blankT s.1 l (firstLen s) l.length) := by
      rw [textsF_rows]
      show rowsT _ _ _ _ _ = _
      rw [hl9, hb]
    rw [e1, textsF_getD _ _ _ hi]; rfl)
  have HMR : Hid (mkR (blankT s.1 l (firstLen s) l.length) l.length = mkS (blankT s.1 l (firstLen s) l.length) l.length) := Lib.hid (mkR_yes (HBK.out _).1)
  have HM2 : Hid ((mkS (blankT s.1 l (firstLen s) l.length) l.length).2.length = l.length) := Lib.hid (by simp [mkS])
  have HM3 : Hid (∀ i, i < l.length → ((mkS (blankT s.1 l (firstLen s) l.length) l.length).2.getD i []).length = firstLen s) := Lib.hid (fun i hi => by
    have hb := (blank_ok hs l l.length l.length ⟨hr1, by omega⟩).2
    have e1 : (mkS (blankT s.1 l (firstLen s) l.length) l.length).2 = textsF l.length fun i => comb (blankT s.1 l (firstLen s) l.length).length ((blankT s.1 l (firstLen s) l.length).getD 0 []).length (prmF i) (blankT s.1 l (firstLen s) l.length) := by rw [textsF_rows]; rfl
    rw [e1, textsF_getD _ _ _ hi, comb, mkRow_length, hb])
  obtain ⟨K, hK⟩ : ∃ K, K = mkS (blankT s.1 l (firstLen s) l.length) l.length := ⟨_, rfl⟩
  rw [← hK] at HMR HM2 HM3 HFL
  obtain ⟨r, hrr⟩ : ∃ r, r = l.length := ⟨_, rfl⟩
  have HRR := Lib.hid hrr
  rw [← hrr] at HIN hr1 HBK HL2 hlx HMR HM2 HM3 HFL hr ⊢
  obtain ⟨n, hn⟩ : ∃ n, n = s.1.length := ⟨_, rfl⟩
  have HN := Lib.hid hn
  rw [← hn] at c0 c1 l1 HV HA1 HIN HBL b1 ⊢
  obtain ⟨m, hm⟩ : ∃ m, m = s.2.length := ⟨_, rfl⟩
  have HMM := Lib.hid hm
  rw [← hm] at c0 c1 l1 HV HU HA1 hr b1 ⊢
  have hsm : firstLen s ≤ 40 := h40
  generalize hfl : firstLen s = n0 at *
  have eg := enters_of Tryd.func54 (by kernel_rfl) rfl
  have bn : 1 ≤ n ∧ n ≤ 16 := b1.1
  have bm : 1 ≤ m ∧ m ≤ 4 := b1.2.1
  have HCL := Lib.hid (slicesCloneS_own _ s.1 _ HV.out (by rw [← HN.out]; omega) (by rw [← HN.out]; omega))
  unfold maxLen at hmx
  clear hv hu ht hs hc hxc a1 hcell9 b1 hK hrr hn hm hfl
  go_enter Tryd.func78, Tryd.ntmps78
  go_wp2_with fail
  refine HCL.out.mono ?_
  rintro e' w2 ⟨x2, rfl, o2, k2⟩
  obtain ⟨gd, cpd, rfl, hg1, hg2, hcp, hcm, _, _⟩ := o2.shape (by rw [← HN.out]; exact bn.1)
  rw [← HN.out] at o2 hcp ⊢
  have s2 := k2.size
  have hl2 := Nat.lt_of_lt_of_le l1 s2
  replace c0 := cell_turn k2 c0 l1
  replace c1 := cell_turn k2 c1 l1
  have k02 := turn_trans HA1.out k2 (by omega)
  have HO2 : Hid (OwnStrs 9 w2 (w.heap.size + 1) w2.heap.size (.slice (some ⟨gd, 0, none⟩) n cpd) (blankT s.1 l n0 0)) := Lib.hid (by rw [HZ0.out]; exact o2.widerS (by simp) (Nat.le_refl _) (Nat.le_refl _))
  have HK2 := Lib.hid k02
  unfold maxLen at hcm
  have hgd : w.heap.size + 1 ≤ gd := (HO2.out.1.lt gd rfl).1
  clear o2 k2 k02 HCL
  go_wp2_with fail
  go_loopw [15] (fun i wr => ∃ k : Nat, k ≤ r ∧ i = .int .i64 k ∧ w2.heap.size ≤ wr.heap.size ∧ wr.cell? ⟨w.heap.size, 1, none⟩ = some (.slice B m d) ∧ Hid (OwnStrs 9 wr (w.heap.size + 1) w2.heap.size (.slice (some ⟨gd, 0, none⟩) n cpd) (blankT s.1 l n0 k)) ∧ Hid (TurnIn 0 0 w wr)) (fun i _ => r - (intOf i).toNat)
  case atStart => exact ⟨0, Nat.zero_le _, rfl, Nat.le_refl _, c1, HO2, HK2⟩
  case round =>
    obtain ⟨k, hk, rfl, hszr, hc1, HO, HK⟩ := hrel
    clear HO2 HK2 c0 c1
    by_cases hlt : k < r
    · have hki : (k : Int) < (r : Int) := by omega
      have hc9 : wr.cell? ⟨b9, off9 + k, none⟩ = some (.int .i64 (l.getD k 0)) := by
        have h1 := HC9.out k _ (ints_get l k (by rw [← HRR.out]; exact hlt))
        have h2 : l[k]'(by rw [← HRR.out]; exact hlt) = l.getD k 0 := by simp [List.getD, show k < l.length by rw [← HRR.out]; exact hlt]
        rw [h2] at h1
        exact cell_turn HK.out h1 hb9
      obtain ⟨z, hz⟩ := Int.eq_ofNat_of_zero_le (HIN.out k hlt).1
      have hzn : z < n := by have := (HIN.out k hlt).2; omega
      have hzi : (z : Int) < (n : Int) := by omega
      rw [hz] at hc9
      obtain ⟨hcx, hfr⟩ := HO.out.atK (HBL.out k) hzn
      have hlx2 : ((blankT s.1 l n0 k).getD z []).length = n0 := HLEN.out k _ (getD_mem (by rw [HBL.out]; exact hzn))
      have HNX := Lib.hid (HST.out k z hz)
      have hsz := str_size ((blankT s.1 l n0 k).getD z [])
      rw [hlx2] at hsz
      generalize (blankT s.1 l n0 k).getD z [] = xx at *
      clear hz hlx2
      go_wp2_with (at_make; refine wpList_make_full _ rfl _ _ _ rfl wr.heap.size _ i0 _ 1 Tryd.underlying22 hi0 hzz0 hzz1 _ _ _ _ n0 rfl rfl rfl rfl ?d2 ?d3 ?d4 ?_)
      case d2 => rw [hzz2]; omega
      case d3 => unfold maxLen; omega
      case d4 => exact Nat.le_refl _
      intro w3 hown3 hg3
      rw [toList_madeCells_one] at hown3
      have k3 : TurnIn 0 0 wr w3 := TurnIn.of_grown hg3 (by simp)
      have s3 := k3.size
      have hseen : Seen w3 (.slice (some ⟨wr.heap.size, 0, none⟩) n0 n0) (bys (zerosL n0)) := Seen.of_own (by rw [zeros_bys]; exact hown3)
      have hconv := run_string_seen (P := Tryd.prog) 22 5 9 Tryd.underlying22 Tryd.underlying5 Tryd.underlying9 hseen
      replace hcx := cell_turn k3 hcx (by omega)
      replace hfr := frozen_turn k3 hfr (by omega)
      have HO3 : Hid (OwnStrs 9 (w3.setCell ⟨gd, z, none⟩ (.string (str (zerosL n0)))) (w.heap.size + 1) w2.heap.size (.slice (some ⟨gd, 0, none⟩) n cpd) (blankT s.1 l n0 (k + 1))) := Lib.hid ((HO.out.keep k3 (by omega)).store (HBL.out k) HNX.out)
      have hc3 := (cell_set_other w3 (B := gd) (B' := w.heap.size) z 1 (.string (str (zerosL n0))) (by omega)).trans (cell_turn k3 hc1 (by omega))
      have HK3 : Hid (TurnIn 0 0 w (w3.setCell ⟨gd, z, none⟩ (.string (str (zerosL n0))))) := Lib.hid (TurnIn.of_below ((turn_trans HK.out k3 (by omega)).to_below.setCell (p := ⟨gd, z, none⟩) (show w.heap.size ≤ gd by omega) _))
      have hs3 : w2.heap.size ≤ (w3.setCell ⟨gd, z, none⟩ (.string (str (zerosL n0)))).heap.size := by have e : (w3.setCell ⟨gd, z, none⟩ (.string (str (zerosL n0)))).heap.size = w3.heap.size := (by simp); omega
      clear hown3 hg3 hseen k3
      go_wp2_with fail
      go_roundw
      case rel => exact ⟨k + 1, by omega, by go_num, hs3, hc3, HO3, HK3⟩
      case measure => simp [intOf]; omega
    · obtain rfl : r = k := by omega
      have hki : ¬ (r : Int) < (r : Int) := by omega
      have k02 := HK.out
      have HC := Lib.hid (makeStripe_own (.slice (some ⟨gd, 0, none⟩) n cpd) (blankT s.1 l n0 r) (r : Int) wr HO.out.seen (HTT.out.below k02.to_below h0) (by omega))
      rw [HMR.out, (HBK.out r).1] at HC
      go_wp2_with fail
      refine HC.out.mono ?_
      rintro e' w4 ⟨x4, y4, rfl, hO4, k4⟩
      obtain ⟨A4, n4, c4, A5, n5, c5, rfl, rfl⟩ := hO4.isSlice
      have a5 := turn_alloc w4 (.cells #[.slice A4 n4 c4, .slice A5 n5 c5] 25)
      have d1 := alloc_duo1 w4 (.slice A4 n4 c4) (.slice A5 n5 c5) 25
      have s4 := k4.size
      have k5 := turn_trans k4 a5 (by omega)
      have hc5 := cell_turn k5 hc1 (by omega)
      have k05 := turn_trans k02 k5 (by omega)
      have s5 := a5.size
      have HY := Lib.hid (hO4.seen2.touch a5)
      have HU5 := Lib.hid (HU.out.below k05.to_below)
      have HS1 : Hid (∀ W i, Below (w4.alloc (.cells #[.slice A4 n4 c4, .slice A5 n5 c5] 25)).heap.size (w4.alloc (.cells #[.slice A4 n4 c4, .slice A5 n5 c5] 25)) W → i < r → Calls Tryd.prog 54 #[.agg #[.slice B m d, .slice A5 n5 c5], .int .i64 i] W (RetStr W (leftT s l i))) := Lib.hid (fun W i hb hi => by
        rw [HFL.out i hi]
        exact sumText_own _ _ s.2 K.2 i W (HU5.out.below hb) (HY.out.below hb) (by rw [← HMM.out]; omega) (by rw [HM2.out]; exact hi) (by rw [HM3.out i hi, HL2.out i hi]) (by rw [HL2.out i hi]; omega) (HTT.out.below ((TurnIn.of_below hb).base k05.to_below k05.size (by omega)) h0) (by have := hb.size; omega))
      have HT := Lib.hid (textsBy_own r 54 (.agg #[.slice B m d, .slice A5 n5 c5]) (leftT s l) _ eg HS1.out (by omega))
      clear hO4 k4 a5 k5 HC
      go_wp2_with fail
      refine HT.out.mono ?_
      rintro e' w6 ⟨x6, rfl, o6, k6⟩
      go_wp2_with fail
      go_ret
      exact ⟨_, rfl, o6.widerS (by omega) (Nat.le_refl _) (Nat.le_refl _), turn_trans k05 k6 (by omega)⟩

end Go.Proofs.YtfglkgeeelapgaaDoor

/- MendStripe, the program's. -/
namespace G294
open Go Go.RowKit
/-- a matrix and texts in a new box -/
def FBox (w0 : World) (mv : Value) (T : List (List UInt8)) (s : Value) (W : World) : Prop := ∃ B x, s = .pointer (some ⟨B, 0, none⟩) ∧ W.cell? ⟨B, 0, none⟩ = some mv ∧ W.cell? ⟨B, 1, none⟩ = some x ∧ B < W.heap.size ∧ Seen W x (strs T) ∧ TurnIn 0 0 w0 W
theorem fbox_new {w0 X : World} {mv x : Value} {T : List (List UInt8)} {t : TypeId} (k : TurnIn 0 0 w0 X) (o : Seen X x (strs T)) : FBox w0 mv T (.pointer (some ⟨X.heap.size, 0, none⟩)) (X.alloc (.cells #[mv, x] t)) :=
  ⟨_, x, rfl, alloc_duo0 _ _ _ _, alloc_duo1 _ _ _ _, alloc_lt _ _, o.touch (turn_alloc _ _), turn_trans k (turn_alloc _ _) (by omega)⟩
theorem fbox_set {w0 X : World} {B lo : Nat} {mv x p q : Value} {T : List (List UInt8)} {E : TypeId} (b : BoxD B p q X) (hB : w0.heap.size ≤ B) (hl : B < lo) (k : TurnIn 0 0 w0 X) (o : OwnStrs E X lo X.heap.size x T) : FBox w0 mv T (.pointer (some ⟨B, 0, none⟩)) ((X.setCell ⟨B, 0, none⟩ mv).setCell ⟨B, 1, none⟩ x) := by
  obtain ⟨b0, b1, _, _, b4⟩ := b
  have e1 : (X.setCell ⟨B, 0, none⟩ mv).cell? ⟨B, 1, none⟩ = some q := (World.cell?_setCell_other _ _ _ _ (by simp)).trans b1
  exact ⟨B, x, rfl, (World.cell?_setCell_other _ _ _ _ (by simp)).trans (World.cell?_setCell_same _ _ _ b0), World.cell?_setCell_same _ _ _ e1, by simpa using b4, ((o.keep (turn_setCell X B 0 mv) (by omega)).keep (turn_setCell _ B 1 x) (by omega)).seen, TurnIn.of_below ((k.to_below.setCell (p := ⟨B, 0, none⟩) hB _).setCell (p := ⟨B, 1, none⟩) hB _)⟩
theorem mend_nil {s : Strp} {l : List Int} (h : l.length = 0) : mndS s l = s := by
  simp only [mndS, h, putAll]
theorem someOk_nil {l : List Int} {k : Nat} (h : l.length = 0) : someOk l k = true := (someOk_iff l k).2 fun i hi => by omega
theorem li_some {l : List Int} {k : Nat} (h : liOk l k = true) : someOk l k = true ∧ chosen l k = true := by
  simp only [liOk, Bool.and_eq_true] at h
  refine ⟨?_, h.1⟩
  have := h.1
  simp only [chosen, Bool.and_eq_true] at this
  exact this.1
end G294
namespace Go.Proofs.YtfglkgeeelapgaaDoor
open Go.RowKit G294

set_option maxRecDepth 100000 in
set_option maxHeartbeats 8000000 in
theorem mendStripe_own (s : Strp) (l : List Int) (v u x : Value) (w : World) (hv : Seen w v (strs s.1)) (hu : Seen w u (strs s.2)) (hx : Seen w x (ints l)) (ht : Tab w) (h0 : 2 < w.heap.size) :
    Calls Tryd.prog 28 #[.agg #[v, u], x] w (RetTOk 9 w (mndR s l) (mndOk s l)) := by
  have HV0 := Lib.hid hv
  have HU0 := Lib.hid hu
  have HX0 := Lib.hid hx
  obtain ⟨A, c, hvv⟩ := hv.len
  obtain ⟨B, d, huu⟩ := hu.len
  obtain ⟨X, e, hxx⟩ := hx.len
  rw [strs_length] at hvv huu
  rw [ints_length] at hxx
  subst hvv huu hxx
  have a1 := turn_alloc w (.cells #[.slice A s.1.length c, .slice B s.2.length d] 25)
  have a2 := turn_alloc (w.alloc (.cells #[.slice A s.1.length c, .slice B s.2.length d] 25)) (.cells #[.slice none 0 0, .slice none 0 0] 25)
  have z2 : ((w.alloc (.cells #[.slice A s.1.length c, .slice B s.2.length d] 25)).alloc (.cells #[.slice none 0 0, .slice none 0 0] 25)).heap.size = w.heap.size + 2 := by simp
  have c0 := cell_turn a2 (alloc_duo0 w (.slice A s.1.length c) (.slice B s.2.length d) 25) (alloc_lt _ _)
  have c1 := cell_turn a2 (alloc_duo1 w (.slice A s.1.length c) (.slice B s.2.length d) 25) (alloc_lt _ _)
  have r0 := alloc_duo0 (w.alloc (.cells #[.slice A s.1.length c, .slice B s.2.length d] 25)) (.slice none 0 0) (.slice none 0 0) 25
  have r1 := alloc_duo1 (w.alloc (.cells #[.slice A s.1.length c, .slice B s.2.length d] 25)) (.slice none 0 0) (.slice none 0 0) 25
  have f0 := alloc_frz (w.alloc (.cells #[.slice A s.1.length c, .slice B s.2.length d] 25)) #[.slice none 0 0, .slice none 0 0] 25 0
  have f1 := alloc_frz (w.alloc (.cells #[.slice A s.1.length c, .slice B s.2.length d] 25)) #[.slice none 0 0, .slice none 0 0] 25 1
  rw [World.size_alloc] at r0 r1 f0 f1
  have k2 := turn_trans a1 a2 (by omega)
  have HG := Lib.hid (goodStripe_any _ _ s _ (hv.touch k2) (hu.touch k2))
  have HK2 := Lib.hid k2
  have HTT := Lib.hid ht
  have HDEF : Hid (mndOk s l = ((strpOk s && (someOk l s.1.length && decide (l.length ≤ s.2.length))) && (decide (l.length = 0) || liOk l s.1.length))) := Lib.hid rfl
  have HNO : Hid (mndOk s l = false → mndR s l = ([], [])) := Lib.hid mndR_no
  have hsz2 : w.heap.size + 2 ≤ ((w.alloc (.cells #[.slice A s.1.length c, .slice B s.2.length d] 25)).alloc (.cells #[.slice none 0 0, .slice none 0 0] 25)).heap.size := by omega
  clear hv hu hx a1 a2 z2 ht k2
  by_cases h1 : strpOk s = true
  · have H1 := Lib.hid h1
    have b1 := strpOk_b h1
    rw [H1.out] at HG
    by_cases h2 : l.length ≤ s.2.length
    · have HBIG : Hid ((∀ y ∈ s.1, y.length ≤ 1000000) ∧ ∀ y ∈ s.2, y.length ≤ 1000000) := Lib.hid (by
        have h4 : (s.1.getD 0 []).length ≤ 40 := (strpOk_len h1).2.2
        exact ⟨fun y hy => by have := (strpOk_len h1).1 y hy; omega, fun y hy => by have := (strpOk_len h1).2.1 y hy; omega⟩)
      have hgt : ¬ (s.2.length : Int) < (l.length : Int) := by omega
      have hgt2 : decide (s.2.length < l.length) = false := decide_eq_false (by omega)
      have hgt3 : decide ((s.2.length : Int) < (l.length : Int)) = false := decide_eq_false (by omega)
      have h40 := strp_len40 h1
      obtain ⟨n, hn⟩ : ∃ n, n = s.1.length := ⟨_, rfl⟩
      obtain ⟨m, hm⟩ : ∃ m, m = s.2.length := ⟨_, rfl⟩
      obtain ⟨r, hr⟩ : ∃ r, r = l.length := ⟨_, rfl⟩
      have HN := Lib.hid hn
      have HM := Lib.hid hm
      have HR := Lib.hid hr
      have bn : 1 ≤ n ∧ n ≤ 16 := by omega
      have bm : 1 ≤ m ∧ m ≤ 4 := by omega
      have hrm : r ≤ m := by omega
      rw [← hn] at c0 c1 r0 r1 f0 f1 hsz2 HG HK2 HV0 ⊢
      rw [← hm] at c0 c1 r0 r1 f0 f1 hsz2 HG HK2 HU0 hgt hgt2 hgt3 ⊢
      rw [← hr] at HX0 hgt hgt2 hgt3 ⊢
      clear h1 b1 h2 hn hm hr
      go_enter Tryd.func28, Tryd.ntmps28
      go_wp2_with fail
      refine HG.out.mono ?_
      rintro e' w3 ⟨rfl, k3⟩
      generalize ((w.alloc (.cells #[.slice A n c, .slice B m d] 25)).alloc (.cells #[.slice none 0 0, .slice none 0 0] 25)) = w2 at *
      have s3 := k3.size
      replace c0 := cell_turn k3 c0 (by omega)
      replace c1 := cell_turn k3 c1 (by omega)
      replace r0 := cell_turn k3 r0 (by omega)
      replace r1 := cell_turn k3 r1 (by omega)
      replace f0 := frozen_turn k3 f0 (by omega)
      replace f1 := frozen_turn k3 f1 (by omega)
      have k03 := turn_trans HK2.out k3 (by omega)
      have hz3 : w.heap.size + 2 ≤ w3.heap.size := by omega
      have HV3 := Lib.hid (HV0.out.touch k03)
      have HU3 := Lib.hid (HU0.out.touch k03)
      have HC : Hid (∀ W, Below w3.heap.size w3 W → Calls Tryd.prog 46 #[.slice A n c] W (RetStrs 9 W s.1)) := Lib.hid (fun W hb => copiesOf_own _ s.1 W (HV3.out.below hb) (by rw [← HN.out]; omega) HBIG.out.1)
      have HD : Hid (∀ W, Below w3.heap.size w3 W → Calls Tryd.prog 46 #[.slice B m d] W (RetStrs 9 W s.2)) := Lib.hid (fun W hb => copiesOf_own _ s.2 W (HU3.out.below hb) (by rw [← HM.out]; omega) HBIG.out.2)
      have hS0 : Below w3.heap.size w3 w3.drew ∧ w3.drew.cell? ⟨w.heap.size, 0, none⟩ = some (.slice A n c) ∧ w3.drew.cell? ⟨w.heap.size, 1, none⟩ = some (.slice B m d) := ⟨(Below.refl _ _).drew, c0, c1⟩
      have HSX : Hid (∀ W, Below w3.heap.size w3 W → (Below w3.heap.size w3 W ∧ W.cell? ⟨w.heap.size, 0, none⟩ = some (.slice A n c) ∧ W.cell? ⟨w.heap.size, 1, none⟩ = some (.slice B m d))) := Lib.hid (fun W hb => ⟨hb, (hb.cell (p := ⟨w.heap.size, 0, none⟩) (show w.heap.size < w3.heap.size by omega)).trans c0, (hb.cell (p := ⟨w.heap.size, 1, none⟩) (show w.heap.size < w3.heap.size by omega)).trans c1⟩)
      clear HG
      go_wp2_with fail
      go_cut [6] from 24 to 30 (fun s6 wx => NewBox 9 w3 s.1 s.2 s6 wx)
      case first =>
        go_region_held3 (fun W => Below w3.heap.size w3 W ∧ W.cell? ⟨w.heap.size, 0, none⟩ = some (.slice A n c) ∧ W.cell? ⟨w.heap.size, 1, none⟩ = some (.slice B m d))
          (first | exact hS0 | exact HSX.out _ ((Below.refl _ _).alloc (Nat.le_refl _) _) | exact HSX.out _ ((Below.refl _ _).alloc (Nat.le_refl _) _).drew | exact HSX.out _ hb6 | exact HSX.out _ (hb6.alloc hb6.size _) | exact HSX.out _ hb7 | exact HSX.out _ (hb7.alloc hb7.size _) | exact HSX.out _ ((hb7.setCell (p := ⟨w3.heap.size, 0, none⟩) (Nat.le_refl _) _).setCell (p := ⟨w3.heap.size, 1, none⟩) (Nat.le_refl _) _) | exact HSX.out _ ((hb7.setCell (p := ⟨w6.heap.size, 0, none⟩) s6 _).setCell (p := ⟨w6.heap.size, 1, none⟩) s6 _))
          (first
            | (go_at_call 46; (with_reducible refine (HC.out _ (And.left (by assumption))).mono ?_); rintro e' w6 ⟨u6, rfl, o6, k6⟩; obtain ⟨A6, n6, c6, rfl⟩ := o6.isSlice; have hb6 : Below w3.heap.size w3 w6 := k6.base (And.left (by assumption)) (Below.size (And.left (by assumption))) (by omega); have s6 := hb6.size; (first | (have fb := boxD_made k6; have hbe := alloc_lt w3 (.cells #[.slice none 0 0, .slice none 0 0] 25); obtain ⟨b0, b1, b2, b3, b4⟩ := fb) | (have fb := boxD_made (undrew k6); have hbe := alloc_lt w3 (.cells #[.slice none 0 0, .slice none 0 0] 25); obtain ⟨b0, b1, b2, b3, b4⟩ := fb) | skip))
            | (go_at_call 46; (with_reducible refine (HD.out _ (And.left (by assumption))).mono ?_); rintro e' w7 ⟨u7, rfl, o7, k7⟩; obtain ⟨A7, n7, c7, rfl⟩ := o7.isSlice; have k67 : TurnIn 0 0 w6 w7 := (by first | exact k7 | exact turn_trans (turn_alloc _ _) k7 (by omega)); have s67 := k67.size; have hb7 : Below w3.heap.size w3 w7 := k67.base hb6 s6 (by omega); (first | (have hbo := b4; have fb := boxD_kept ⟨b0, b1, b2, b3, b4⟩ k7; obtain ⟨b0, b1, b2, b3, b4⟩ := fb) | (have hbo := alloc_lt w6 (.cells #[.slice none 0 0, .slice none 0 0] 25); have fb := boxD_made k7; obtain ⟨b0, b1, b2, b3, b4⟩ := fb) | skip)))
        all_goals
          have hO : OwnT 9 w7 w3.heap.size w7.heap.size (.slice A6 n6 c6) (.slice A7 n7 c7) (s.1, s.2) := ⟨w6.heap.size, s6, s67, (o6.keep k67 (by omega)).widerS (by first | exact Nat.le_refl _ | exact Nat.le_of_lt hbe) (Nat.le_refl _) (by omega), o7.widerS (by first | exact Nat.le_refl _ | exact Nat.le_of_lt (alloc_lt _ _)) (Nat.le_refl _) (Nat.le_refl _)⟩
          go_wp2_with fail
          go_meet
          first
            | exact newbox_new (TurnIn.of_below hb7) hO
            | exact newbox_set ⟨b0, b1, b2, b3, b4⟩ (fun g e => by have e1 := (o6.1.lt g e).1; have e2 := o6.2.2 g e; first | omega | (replace e1 : (w3.alloc (.cells #[.slice none 0 0, .slice none 0 0] 25)).heap.size ≤ g := e1; omega)) (fun g e => by have e1 := (o7.1.lt g e).1; omega) (by omega) (TurnIn.of_below hb7) hO
      case rest =>
        obtain ⟨B6, x6, y6, rfl, p0, p1, hne, hO, hB6, hB6', k6⟩ := hcut
        generalize hwc : wc = w6 at *
        clear hwc HSX hS0 HC HD
        obtain ⟨mid, hl1, hl2, oD, oP⟩ := hO
        obtain ⟨gd, cpd, rfl, hg1, hg2, hcp, hcm, _, _⟩ := oD.shape (by rw [← HN.out]; exact bn.1)
        rw [← HN.out] at oD p0 hcp
        obtain ⟨AP, np, cpp, rfl⟩ := oP.isSlice
        have hng : gd ≠ B6 := hne gd rfl
        have s6 := k6.size
        replace c0 := cell_turn k6 c0 (by omega)
        replace c1 := cell_turn k6 c1 (by omega)
        replace r0 := cell_turn k6 r0 (by omega)
        replace r1 := cell_turn k6 r1 (by omega)
        replace f0 := frozen_turn k6 f0 (by omega)
        replace f1 := frozen_turn k6 f1 (by omega)
        have k06 := turn_trans k03 k6 (by omega)
        have HOD := Lib.hid oD
        have HOP := Lib.hid oP
        unfold maxLen at hcm
        clear oD oP hne k6 HV3 HU3
        by_cases hr0 : r = 0
        · subst hr0
          have HOK : Hid (mndOk s l = true) := Lib.hid (by rw [HDEF.out, H1.out, someOk_nil HR.out.symm, ← HR.out]; simp)
          have HRR : Hid (mndR s l = (s.1, s.2)) := Lib.hid (by rw [mndR_yes HOK.out, mend_nil HR.out.symm])
          have HF := Lib.hid (duo_store (R := w.heap.size + 1) (s := (s.1, s.2)) ⟨mid, hl1, hl2, HOD.out, HOP.out⟩ k06.to_below (by omega) (by omega) (by omega))
          go_wp2_with fail
          refine bodyPost_ret (v := .tuple #[.agg #[.slice (some ⟨gd, 0, none⟩) n cpd, .slice AP np cpp], .bool true]) (by simp [results, Tryd.results28, go_sem, r0, r1, f0, f1]) rfl ?_
          exact ⟨_, _, by rw [HOK.out], by rw [HRR.out]; exact HF.out.1, HF.out.2⟩
        · have hr1 : 1 ≤ r := by omega
          have hre : ((r : Int) == 0) = false := by simp; omega
          have hT6 := HTT.out.below k06.to_below h0
          have HLI := Lib.hid (lostInverse_own n l _ w6 (HX0.out.touch k06) bn (by rw [← HR.out]; omega) hT6 (by omega))
          have HT6 := Lib.hid hT6
          clear hT6
          by_cases hli : liOk l n = true
          · have HLO := Lib.hid hli
            obtain ⟨hsm, hch⟩ := li_some hli
            have HOK : Hid (mndOk s l = true) := Lib.hid (by rw [HDEF.out, H1.out, ← HN.out, hsm, hli, ← HR.out, ← HM.out]; simp [hrm])
            have HRR : Hid (mndR s l = (putAll s.1 l (foundT s l) r, s.2)) := Lib.hid (by rw [mndR_yes HOK.out, HR.out]; rfl)
            have HLR : Hid (liR l n = mkM r r (bst (liF l) idF r r)) := Lib.hid (by unfold liR; rw [if_pos hli, ← HR.out])
            have HIN : Hid (∀ j, j < r → 0 ≤ l.getD j 0 ∧ l.getD j 0 < n) := Lib.hid (fun j hj => (chosen_b hch).1 j (by rw [← HR.out]; exact hj))
            have HCH : Hid (chosen l s.1.length = true) := Lib.hid (by rw [← HN.out]; exact hch)
            rw [HLO.out, HLR.out] at HLI
            clear hli hsm hch
            go_wp2_with fail
            refine HLI.out.mono ?_
            rintro e' w7 ⟨v7, vs7, rfl, hM7, k7⟩
            obtain ⟨A7, n7, c7, rfl⟩ := hM7.isSlice
            have a8 := turn_alloc w7 (.cells #[.slice A7 n7 c7] 39)
            have cM := alloc_cell w7 (.slice A7 n7 c7) 39
            have l8 := alloc_lt w7 (.cells #[.slice A7 n7 c7] 39)
            have s7 := k7.size
            have k8 := turn_trans k7 a8 (by omega)
            have s8 := k8.size
            replace c0 := cell_turn k8 c0 (by omega)
            replace c1 := cell_turn k8 c1 (by omega)
            replace r0 := cell_turn k8 r0 (by omega)
            replace r1 := cell_turn k8 r1 (by omega)
            replace f0 := frozen_turn k8 f0 (by omega)
            replace f1 := frozen_turn k8 f1 (by omega)
            replace p0 := cell_turn k8 p0 (by omega)
            replace p1 := cell_turn k8 p1 (by omega)
            have k08 := turn_trans k06 k8 (by omega)
            have HM8 := Lib.hid (hM7.keep a8 (by omega)).seen
            have HOD8 := Lib.hid (HOD.out.keep k8 (by omega))
            have HOP8 := Lib.hid (HOP.out.keep k8 (by omega))
            have HT8 := Lib.hid (HTT.out.below k08.to_below h0)
            clear hM7 k7 a8 HLI HOD HOP HT6
            go_wp2_with fail
            generalize hw8 : (w7.alloc (.cells #[.slice A7 n7 c7] 39)) = w8 at *
            clear hw8
            have HLP : Hid (∀ W, Below w8.heap.size w8 W → Calls Tryd.prog 78 #[.agg #[.slice A n c, .slice B m d], .slice X r e] W (RetStrs 9 W (textsF r (leftT s l)))) := Lib.hid (fun W hb => by
              have hbw : Below w.heap.size w W := (TurnIn.of_below hb).base k08.to_below k08.size (by omega)
              have h := lostParities_own s l _ _ _ W (HV0.out.below hbw) (HU0.out.below hbw) (HX0.out.below hbw) H1.out HCH.out (by rw [← HR.out, ← HM.out]; exact hrm) (HTT.out.below hbw h0) (by have := hbw.size; omega)
              rw [← HR.out] at h
              exact h)
            have hS0 : Below w8.heap.size w8 w8.drew ∧ w8.drew.cell? ⟨w7.heap.size, 0, none⟩ = some (.slice A7 n7 c7) ∧ w8.drew.cell? ⟨w.heap.size, 0, none⟩ = some (.slice A n c) ∧ w8.drew.cell? ⟨w.heap.size, 1, none⟩ = some (.slice B m d) := ⟨(Below.refl _ _).drew, cM, c0, c1⟩
            have HSX : Hid (∀ W, Below w8.heap.size w8 W → (Below w8.heap.size w8 W ∧ W.cell? ⟨w7.heap.size, 0, none⟩ = some (.slice A7 n7 c7) ∧ W.cell? ⟨w.heap.size, 0, none⟩ = some (.slice A n c) ∧ W.cell? ⟨w.heap.size, 1, none⟩ = some (.slice B m d))) := Lib.hid (fun W hb => ⟨hb, (hb.cell (p := ⟨w7.heap.size, 0, none⟩) l8).trans cM, (hb.cell (p := ⟨w.heap.size, 0, none⟩) (show w.heap.size < w8.heap.size by omega)).trans c0, (hb.cell (p := ⟨w.heap.size, 1, none⟩) (show w.heap.size < w8.heap.size by omega)).trans c1⟩)
            go_cut [9] from 46 to 50 (fun s9 wx => FBox w8 (.slice A7 n7 c7) (textsF r (leftT s l)) s9 wx)
            case first =>
              go_region_held3 (fun W => Below w8.heap.size w8 W ∧ W.cell? ⟨w7.heap.size, 0, none⟩ = some (.slice A7 n7 c7) ∧ W.cell? ⟨w.heap.size, 0, none⟩ = some (.slice A n c) ∧ W.cell? ⟨w.heap.size, 1, none⟩ = some (.slice B m d))
                (first | exact hS0 | exact HSX.out _ ((Below.refl _ _).alloc (Nat.le_refl _) _) | exact HSX.out _ ((Below.refl _ _).alloc (Nat.le_refl _) _).drew | exact HSX.out _ hb9 | exact HSX.out _ (hb9.alloc hb9.size _) | exact HSX.out _ ((hb9.setCell (p := ⟨w8.heap.size, 0, none⟩) (Nat.le_refl _) _).setCell (p := ⟨w8.heap.size, 1, none⟩) (Nat.le_refl _) _))
                ((go_at_call 78; refine (HLP.out _ (And.left (by assumption))).mono ?_; rintro e' w9 ⟨u9, rfl, o9, k9⟩; obtain ⟨A9, n9, c9, rfl⟩ := o9.isSlice; have hb9 : Below w8.heap.size w8 w9 := k9.base (And.left (by assumption)) (Below.size (And.left (by assumption))) (by omega); (first | (have fb := boxD_made k9; obtain ⟨b0, b1, b2, b3, b4⟩ := fb) | (have fb := boxD_made (undrew k9); obtain ⟨b0, b1, b2, b3, b4⟩ := fb) | skip)))
              all_goals
                go_wp2_with fail
                go_meet
                first
                  | exact fbox_new (TurnIn.of_below hb9) o9.seen
                  | exact fbox_set ⟨b0, b1, b2, b3, b4⟩ (Nat.le_refl _) (alloc_lt w8 (.cells #[.slice none 0 0, .slice none 0 0] 80)) (TurnIn.of_below hb9) o9
            case rest =>
              obtain ⟨B9, x9, rfl, q0, q1, hB9, hs9, k9⟩ := hcut
              generalize hwc : wc = w9 at *
              obtain ⟨A9, c9', hvv9⟩ := hs9.len
              rw [strs_length, textsF_length] at hvv9
              subst hvv9
              have s9 := k9.size
              replace r0 := cell_turn k9 r0 (by omega)
              replace r1 := cell_turn k9 r1 (by omega)
              replace f0 := frozen_turn k9 f0 (by omega)
              replace f1 := frozen_turn k9 f1 (by omega)
              replace p0 := cell_turn k9 p0 (by omega)
              replace p1 := cell_turn k9 p1 (by omega)
              have k09 := turn_trans k08 k9 (by omega)
              have HM9 := Lib.hid (HM8.out.touch k9)
              have HS9 := Lib.hid hs9
              have HOD9 := Lib.hid (HOD8.out.keep k9 (by omega))
              have HOP9 := Lib.hid (HOP8.out.keep k9 (by omega))
              have eg := enters_of Tryd.func64 (by kernel_rfl) rfl
              obtain ⟨n0, hn0⟩ : ∃ n0, n0 = firstLen s := ⟨_, rfl⟩
              have HN0 := Lib.hid hn0
              have hn40 : n0 ≤ 40 := by omega
              have HLL : Hid (∀ j, j < r → ((textsF r (leftT s l)).getD j []).length = n0) := Lib.hid (fun j hj => by
                rw [textsF_getD _ _ _ hj, leftT, plusL_length, strp_len2 H1.out (by rw [← HM.out]; omega), HN0.out])
              have HFT : Hid (∀ i, foundT s l i = comb r n0 (bst (liF l) idF r r i) (textsF r (leftT s l))) := Lib.hid (fun i => by rw [HN0.out, HR.out]; rfl)
              have HTA : Hid (TextAt Tryd.prog 64 (.agg #[.slice A7 n7 c7, .slice A9 r c9']) r (foundT s l) w9) := Lib.hid (fun W i hb hi => by
                rw [HFT.out]
                have hbw : Below w.heap.size w W := (TurnIn.of_below hb).base k09.to_below k09.size (by omega)
                exact productText_own r r n0 (bst (liF l) idF r r) (textsF r (leftT s l)) _ _ i W (HM9.out.below hb) (HS9.out.below hb) hi (textsF_length _ _) hr1 (by omega) HLL.out (by omega) (HTT.out.below hbw h0) (by have := hbw.size; omega))
              have HTB := Lib.hid (textsBy_own r 64 (.agg #[.slice A7 n7 c7, .slice A9 r c9']) (foundT s l) w9 eg HTA.out (by omega))
              clear hwc HSX hS0 HLP hs9 k9 cM c0 c1 HM8 HOD8 HOP8 hn0
              go_wp2_with fail
              refine HTB.out.mono ?_
              rintro e' w10 ⟨x10, rfl, o10, k10⟩
              obtain ⟨gx, cx, rfl, hgx1, hgx2, hcx1, hcx2, hcellx, _⟩ := o10.shape (by rw [textsF_length]; exact hr1)
              rw [textsF_length] at hcx1 hcellx
              have HCX : Hid (∀ k, k < r → w10.cell? ⟨gx, k, none⟩ = some (.string (str (foundT s l k)))) := Lib.hid (fun k hk => by rw [hcellx k hk, textsF_getD _ _ _ hk])
              have hlr : (textsF r (foundT s l)).length = r := textsF_length _ _
              rw [hlr]
              have s10 := k10.size
              replace r0 := cell_turn k10 r0 (by omega)
              replace r1 := cell_turn k10 r1 (by omega)
              replace f0 := frozen_turn k10 f0 (by omega)
              replace f1 := frozen_turn k10 f1 (by omega)
              replace p0 := cell_turn k10 p0 (by omega)
              replace p1 := cell_turn k10 p1 (by omega)
              have k010 := turn_trans k09 k10 (by omega)
              have hSB : SBox 9 w w10 B6 w3.heap.size mid w6.heap.size (.slice (some ⟨gd, 0, none⟩) n cpd) (.slice AP np cpp) (putAll s.1 l (foundT s l) 0) s.2 → True := fun _ => trivial
              have HODX := Lib.hid (HOD9.out.keep k10 (by omega))
              have HOPX := Lib.hid (HOP9.out.keep k10 (by omega))
              have HB10 := Lib.hid k010.to_below
              obtain ⟨bl, offl, el, hxl, hbll, hlml, hcelll⟩ : ∃ b off c', Value.slice X r e = .slice (some ⟨b, off, none⟩) r c' ∧ b < w.heap.size ∧ r ≤ c' ∧ ∀ j y, (ints l)[j]? = some y → w.cell? ⟨b, off + j, none⟩ = some y := by
                obtain ⟨X', e'', hxx, h1, h2, h3⟩ := HX0.out
                rw [ints_length, ← HR.out] at hxx h1 h3
                obtain ⟨b, off, rfl, hb, hc⟩ := h3 (by omega)
                exact ⟨b, off, e'', hxx, hb, h1, hc⟩
              obtain ⟨rfl, rfl⟩ : X = some ⟨bl, offl, none⟩ ∧ e = el := by simpa using hxl
              have HCL := Lib.hid hcelll
              unfold maxLen at hcx2
              have hgd3 : w3.heap.size ≤ gd := hg1
              have HPL : Hid (∀ k, (putAll s.1 l (foundT s l) k).length = n) := Lib.hid (fun k => by rw [putAll_length, HN.out])
              have HPS : Hid (∀ (k z : Nat), l.getD k 0 = (z : Int) → (putAll s.1 l (foundT s l) k).set z (foundT s l k) = putAll s.1 l (foundT s l) (k + 1)) := Lib.hid (fun k z hz => by simp only [putAll, hz]; rfl)
              clear hcellx hcelll hxl hSB HOD9 HOP9 HTB o10 k10 k010 q0 q1 hlr
              go_wp2_with fail
              go_loopw [57] (fun i wr => ∃ k : Nat, k ≤ r ∧ i = .int .i64 k ∧ w10.heap.size ≤ wr.heap.size ∧ wr.cell? ⟨B6, 0, none⟩ = some (.slice (some ⟨gd, 0, none⟩) n cpd) ∧ wr.cell? ⟨B6, 1, none⟩ = some (.slice AP np cpp) ∧ Hid (KeptR wr (w.heap.size + 1)) ∧ Hid (OwnStrs 9 wr w3.heap.size mid (.slice (some ⟨gd, 0, none⟩) n cpd) (putAll s.1 l (foundT s l) k)) ∧ Hid (OwnStrs 9 wr mid w6.heap.size (.slice AP np cpp) s.2) ∧ Hid (Below w.heap.size w wr) ∧ Hid (∀ k, k < r → wr.cell? ⟨gx, k, none⟩ = some (.string (str (foundT s l k))))) (fun i _ => r - (intOf i).toNat)
              case atStart => exact ⟨0, Nat.zero_le _, rfl, Nat.le_refl _, p0, p1, Lib.hid ⟨r0, r1, f0, f1⟩, HODX, HOPX, HB10, HCX⟩
              case round =>
                obtain ⟨k, hk, rfl, hszr, hp0, hp1, HKR, HDR, HPR, HBR, HCR⟩ := hrel
                clear p0 p1 r0 r1 f0 f1 HODX HOPX HB10 HCX
                by_cases hlt : k < r
                · have hki : (k : Int) < (r : Int) := by omega
                  have hct := HCR.out k hlt
                  have hcl : wr.cell? ⟨bl, offl + k, none⟩ = some (.int .i64 (l.getD k 0)) := by
                    have h1 := HCL.out k _ (ints_get l k (by rw [← HR.out]; exact hlt))
                    have h2 : l[k]'(by rw [← HR.out]; exact hlt) = l.getD k 0 := by simp [List.getD, show k < l.length by rw [← HR.out]; exact hlt]
                    rw [h2] at h1
                    exact (HBR.out.cell (p := ⟨bl, offl + k, none⟩) hbll).trans h1
                  obtain ⟨z, hz⟩ := Int.eq_ofNat_of_zero_le (HIN.out k hlt).1
                  have hzn : z < n := by have := (HIN.out k hlt).2; omega
                  have hzi : (z : Int) < (n : Int) := by omega
                  rw [hz] at hcl
                  obtain ⟨hco, hfr⟩ := HDR.out.atK (HPL.out k) hzn
                  have HNX := Lib.hid (HPS.out k z hz)
                  generalize foundT s l k = ft at *
                  have hneL : gd ≠ bl := by omega
                  have kst := turn_setCell wr gd z (.string (str ft))
                  have HD3 : Hid (OwnStrs 9 (wr.setCell ⟨gd, z, none⟩ (.string (str ft))) w3.heap.size mid (.slice (some ⟨gd, 0, none⟩) n cpd) (putAll s.1 l (foundT s l) (k + 1))) := Lib.hid (HDR.out.store (HPL.out k) HNX.out)
                  have HP3 := Lib.hid (HPR.out.keep kst (by omega))
                  have HB3 := Lib.hid (HBR.out.setCell (p := ⟨gd, z, none⟩) (show w.heap.size ≤ gd by omega) (.string (str ft)))
                  have HK3 := Lib.hid (HKR.out.set (g := gd) (o := z) (z := .string (str ft)) (by omega))
                  have HC3 : Hid (∀ k, k < r → (wr.setCell ⟨gd, z, none⟩ (.string (str ft))).cell? ⟨gx, k, none⟩ = some (.string (str (foundT s l k)))) := Lib.hid (fun k hk => (cell_set_other wr _ _ _ (by omega)).trans (HCR.out k hk))
                  have e0 := (cell_set_other wr (B := gd) (B' := B6) z 0 (.string (str ft)) hng).trans hp0
                  have e1 := (cell_set_other wr (B := gd) (B' := B6) z 1 (.string (str ft)) hng).trans hp1
                  have hs3 : w10.heap.size ≤ (wr.setCell ⟨gd, z, none⟩ (.string (str ft))).heap.size := by have e : (wr.setCell ⟨gd, z, none⟩ (.string (str ft))).heap.size = wr.heap.size := (by simp); omega
                  clear hz kst
                  go_wp2_with fail
                  go_region_held3 (fun W => W.cell? ⟨B6, 0, none⟩ = some (.slice (some ⟨gd, 0, none⟩) n cpd) ∧ W.cell? ⟨bl, offl + k, none⟩ = some (.int .i64 z))
                    (first | exact ⟨hp0, hcl⟩ | exact ⟨e0, (cell_set_other _ _ _ _ hneL).trans hcl⟩)
                    (fail)
                  all_goals
                    go_wp2_with fail
                    go_roundw
                    case rel => exact ⟨k + 1, by omega, by go_num, hs3, e0, e1, Lib.hid ⟨HK3.out.r0, HK3.out.r1, HK3.out.f0, HK3.out.f1⟩, HD3, HP3, Lib.hid HB3.out.drew, HC3⟩
                    case measure => simp [intOf]; omega
                · obtain rfl : r = k := by omega
                  have hki : ¬ (r : Int) < (r : Int) := by omega
                  obtain ⟨t0, t1, g0, g1⟩ := HKR.out
                  have HF := Lib.hid (duo_store (R := w.heap.size + 1) (s := (putAll s.1 l (foundT s l) r, s.2)) ⟨mid, hl1, hl2, HDR.out, HPR.out⟩ HBR.out (by omega) (by omega) (by omega))
                  go_wp2_with fail
                  refine bodyPost_ret (v := .tuple #[.agg #[.slice (some ⟨gd, 0, none⟩) n cpd, .slice AP np cpp], .bool true]) (by simp [results, Tryd.results28, go_sem, t0, t1, g0, g1]) rfl ?_
                  exact ⟨_, _, by rw [HOK.out], by rw [HRR.out]; exact HF.out.1, HF.out.2⟩
          · have HLO : Hid (liOk l n = false) := Lib.hid (by simpa using hli)
            have HOK : Hid (mndOk s l = false) := Lib.hid (by rw [HDEF.out, ← HN.out, HLO.out, ← HR.out]; simp [hr0])
            have HRR := Lib.hid (mndR_no HOK.out)
            rw [HLO.out] at HLI
            clear hli
            go_wp2_with fail
            refine HLI.out.mono ?_
            rintro e' w7 ⟨v7, vs7, rfl, hM7, k7⟩
            obtain ⟨A7, n7, c7, rfl⟩ := hM7.isSlice
            have a8 := turn_alloc w7 (.cells #[.slice A7 n7 c7] 39)
            have s7 := k7.size
            have k8 := turn_trans k7 a8 (by omega)
            have s8 := k8.size
            replace r0 := cell_turn k8 r0 (by omega)
            replace r1 := cell_turn k8 r1 (by omega)
            replace f0 := frozen_turn k8 f0 (by omega)
            replace f1 := frozen_turn k8 f1 (by omega)
            have HF := Lib.hid (duo_store (R := w.heap.size + 1) (OwnT.nil 9 (w7.alloc (.cells #[.slice A7 n7 c7] 39)) (w.heap.size + 2) (by omega)) (turn_trans k06 k8 (by omega)).to_below (by omega) (by omega) (by omega))
            clear hM7 k7 a8 HLI
            go_wp2_with fail
            refine bodyPost_ret (v := .tuple #[.agg #[.slice none 0 0, .slice none 0 0], .bool false]) (by simp [results, Tryd.results28, go_sem, r0, r1, f0, f1]) rfl ?_
            exact ⟨_, _, by rw [HOK.out], by rw [HRR.out]; exact HF.out.1, HF.out.2⟩
    · have HO : Hid (mndOk s l = false) := Lib.hid (by rw [HDEF.out]; simp [h2])
      have hgt : (s.2.length : Int) < (l.length : Int) := by omega
      rw [HO.out, HNO.out HO.out]
      clear h1 b1 h2 HDEF HNO
      go_enter Tryd.func28, Tryd.ntmps28
      go_wp2_with fail
      refine HG.out.mono ?_
      rintro e' w3 ⟨rfl, k3⟩
      have s3 := k3.size
      replace c0 := cell_turn k3 c0 (by omega)
      replace c1 := cell_turn k3 c1 (by omega)
      replace r0 := cell_turn k3 r0 (by omega)
      replace r1 := cell_turn k3 r1 (by omega)
      replace f0 := frozen_turn k3 f0 (by omega)
      replace f1 := frozen_turn k3 f1 (by omega)
      have HF := Lib.hid (duo_store (R := w.heap.size + 1) (OwnT.nil 9 w3 (w.heap.size + 2) (by omega)) (turn_trans HK2.out k3 (by omega)).to_below (by omega) (by omega) (by omega))
      go_wp2_with fail
      refine bodyPost_ret (v := .tuple #[.agg #[.slice none 0 0, .slice none 0 0], .bool false]) (by simp [results, Tryd.results28, go_sem, r0, r1, f0, f1]) rfl ?_
      exact ⟨_, _, rfl, HF.out.1, HF.out.2⟩
  · have H1 : Hid (strpOk s = false) := Lib.hid (by simpa using h1)
    have HO : Hid (mndOk s l = false) := Lib.hid (by rw [HDEF.out, H1.out]; simp)
    rw [H1.out] at HG
    rw [HO.out, HNO.out HO.out]
    clear h1 HDEF HNO
    go_enter Tryd.func28, Tryd.ntmps28
    go_wp2_with fail
    refine HG.out.mono ?_
    rintro e' w3 ⟨rfl, k3⟩
    have s3 := k3.size
    replace c0 := cell_turn k3 c0 (by omega)
    replace c1 := cell_turn k3 c1 (by omega)
    replace r0 := cell_turn k3 r0 (by omega)
    replace r1 := cell_turn k3 r1 (by omega)
    replace f0 := frozen_turn k3 f0 (by omega)
    replace f1 := frozen_turn k3 f1 (by omega)
    have HF := Lib.hid (duo_store (R := w.heap.size + 1) (OwnT.nil 9 w3 (w.heap.size + 2) (by omega)) (turn_trans HK2.out k3 (by omega)).to_below (by omega) (by omega) (by omega))
    go_wp2_with fail
    refine bodyPost_ret (v := .tuple #[.agg #[.slice none 0 0, .slice none 0 0], .bool false]) (by simp [results, Tryd.results28, go_sem, r0, r1, f0, f1]) rfl ?_
    exact ⟨_, _, rfl, HF.out.1, HF.out.2⟩

end Go.Proofs.YtfglkgeeelapgaaDoor

/- MergeStripes: what is merged. -/
namespace G294
open Go Go.RowKit
def lenB (L : List (List UInt8)) : Prop := 1 ≤ L.length ∧ L.length ≤ 1000
def mrgOk (a b : Strp) : Bool := strpOk a && (strpOk b && (decide (a.2.length = b.2.length) && (decide (firstLen a = firstLen b) && decide (a.1.length + b.1.length ≤ 16))))
def mrgP (a b : Strp) (i : Nat) : List UInt8 := plusL (a.2.getD i []) (prmF i a.1.length) (b.2.getD i [])
def mrgS (a b : Strp) : Strp := (a.1 ++ b.1, textsF a.2.length (mrgP a b))
def mrgR (a b : Strp) : Strp := if mrgOk a b = true then mrgS a b else ([], [])
theorem mrgR_no {a b : Strp} (h : mrgOk a b = false) : mrgR a b = ([], []) := if_neg (by rw [h]; simp)
theorem mrgR_yes {a b : Strp} (h : mrgOk a b = true) : mrgR a b = mrgS a b := if_pos h
theorem mrgOk_b {a b : Strp} (h : mrgOk a b = true) : strpOk a = true ∧ strpOk b = true ∧ a.2.length = b.2.length ∧ firstLen a = firstLen b ∧ a.1.length + b.1.length ≤ 16 := by
  simpa [mrgOk] using h
theorem mrgR_len (a b : Strp) : (mrgR a b).1.length + (mrgR a b).2.length ≤ 20 := by
  unfold mrgR; split
  · rename_i h
    obtain ⟨h1, h2, h3, h4, h5⟩ := mrgOk_b h
    have := strpOk_b h1
    simp only [mrgS, List.length_append, textsF_length]; omega
  · simp
theorem par4_nat {n : Nat} : par4 (n : Int) = decide (1 ≤ n ∧ n ≤ 4) := by
  simp only [par4]; exact decide_eq_decide.2 (by omega)
theorem head_len {A B : List (List UInt8)} (h : 1 ≤ A.length) : (A ++ B).getD 0 [] = A.getD 0 [] := getD_head_append h
/-- the data of two valid stripes beside parities of the first's length -/
theorem mrg_ok {a b : Strp} (ha : strpOk a = true) (hb : strpOk b = true) {P : List (List UInt8)} (hP : ∀ t ∈ P, t.length = firstLen a) (hn : P.length = a.2.length) :
    strpOk (a.1 ++ b.1, P) = (decide (firstLen a = firstLen b) && decide (a.1.length + b.1.length ≤ 16)) := by
  have h1 := strpOk_b ha
  have h2 := strpOk_b hb
  have l1 := strpOk_len ha
  have l2 := strpOk_len hb
  by_cases h3 : a.1.length + b.1.length ≤ 16
  · have e1 : goodI ((a.1 ++ b.1).length : Int) = true := by rw [goodI_nat]; simp only [List.length_append]; simp; omega
    have e2 : par4 (P.length : Int) = true := by rw [par4_nat, hn]; simp; omega
    by_cases h4 : firstLen a = firstLen b
    · have e3 : textsOk ((a.1 ++ b.1) ++ P) = true := by
        rw [textsOk_all]
        intro t ht
        rw [List.append_assoc, head_len h1.1.1]
        have h40 : (a.1.getD 0 []).length ≤ 40 := l1.2.2
        rcases List.mem_append.1 ht with ht | ht
        · rcases List.mem_append.1 ht with ht | ht
          · have := l1.1 t ht; omega
          · have := l2.1 t ht
            have h4' : (a.1.getD 0 []).length = (b.1.getD 0 []).length := h4
            omega
        · have := hP t ht
          have h4' : firstLen a = (a.1.getD 0 []).length := rfl
          omega
      simp only [strpOk, e1, e2, e3, h4, h3]; rfl
    · have e3 : textsOk ((a.1 ++ b.1) ++ P) = false := by
        have hm : b.1.getD 0 [] ∈ b.1 := getD_mem (by omega)
        cases hh : textsOk ((a.1 ++ b.1) ++ P) with
        | false => rfl
        | true =>
          have := (textsOk_all.1 hh) (b.1.getD 0 []) (List.mem_append_left _ (List.mem_append_right _ hm))
          rw [List.append_assoc, head_len h1.1.1] at this
          exact absurd this.1.symm h4
      show (goodI ((a.1 ++ b.1).length : Int) && (par4 (P.length : Int) && textsOk ((a.1 ++ b.1) ++ P))) = _
      rw [e3]; simp [h4]
  · have e1 : goodI ((a.1 ++ b.1).length : Int) = false := by rw [goodI_nat]; simp only [List.length_append]; simp; omega
    show (goodI ((a.1 ++ b.1).length : Int) && (par4 (P.length : Int) && textsOk ((a.1 ++ b.1) ++ P))) = _
    rw [e1]; simp [h3]
theorem mrg_impl {a b : Strp} (ha : strpOk a = true) (hb : strpOk b = true) : strpOk (a.1 ++ b.1, a.2) = (decide (firstLen a = firstLen b) && decide (a.1.length + b.1.length ≤ 16)) :=
  mrg_ok ha hb (strpOk_len ha).2.1 rfl
theorem mrg_spec {a b : Strp} (ha : strpOk a = true) (hb : strpOk b = true) (h4 : firstLen a = firstLen b) : strpOk (mrgS a b) = decide (a.1.length + b.1.length ≤ 16) := by
  have h := mrg_ok ha hb (P := textsF a.2.length (mrgP a b)) (fun t ht => by
    simp only [textsF, List.mem_map, List.mem_range] at ht
    obtain ⟨i, hi, rfl⟩ := ht
    rw [mrgP, plusL_length]; exact strp_len2 ha hi) (by simp)
  rw [show mrgS a b = (a.1 ++ b.1, textsF a.2.length (mrgP a b)) from rfl, h, h4]; simp
end G294
