/- Joined texts: TextsEq, Strp3, Strp4, BytIn, Strp5, AddMath, AddM2. -/
import Derived.Deep.QuietTactic
import Derived.BigQuiet
import Derived.Test.YtjgmegfbfjmnfaaDoorBd02
import Derived.IntWalk
import Derived.Test.YtjgmegfbfjmnfaaDoorBd15
import Derived.Lib.ConvBytes
import Derived.Test.YtjgmegfbfjmnfaaDoorBd01
import Derived.Deep.AppendSrc
import Derived.StillTailTactics
set_option linter.unusedSimpArgs false
set_option linter.unusedVariables false
/- Lists of texts compared: slices.Equal and the model's l6Same. -/
namespace G294
open Go Go.RowKit
theorem str_other {x y : List UInt8} (h : x ≠ y) : ((str x).toList == (str y).toList) = false := by
  rw [str_toList, str_toList]; simpa using h
theorem take_same {α : Type} {L M : List α} {k : Nat} (h : L.take k = M.take k) (h1 : k < L.length) (h2 : k < M.length) (e : L[k] = M[k]) : L.take (k + 1) = M.take (k + 1) := by
  rw [List.take_succ_eq_append_getElem h1, List.take_succ_eq_append_getElem h2, h, e]
end G294
namespace Go.Proofs.YtjgmegfbfjmnfaaDoor
open Go.RowKit G294

set_option maxRecDepth 100000 in
set_option maxHeartbeats 1000000 in
theorem slicesEqualS_any (v u : Value) (L M : List (List UInt8)) (w : World) (hv : Seen w v (strs L)) (hu : Seen w u (strs M)) (hlen : M.length = L.length) :
    Calls Tryd.prog 45 #[v, u] w (RetBool w (decide (L = M))) := by
  obtain ⟨A, c, rfl, hlc, hcm, hx⟩ := hv
  obtain ⟨A', c', rfl, hlc', hcm', hx'⟩ := hu
  rw [strs_length] at hlc hx hlc' hx'
  simp only [strs_length]
  rw [hlen] at hlc' hx' ⊢
  unfold maxLen at hcm hcm'
  generalize hnn : L.length = n at *
  have HN := Lib.hid hnn
  have HM := Lib.hid hlen
  clear hnn hlen
  have hbn : ((n : Int) != (n : Int)) = false := by simp
  go_enter Tryd.func45, Tryd.ntmps45
  go_wp2_with fail
  go_loopw [13] (fun i wr => ∃ k : Nat, k ≤ n ∧ i = .int .i64 k ∧ Below w.heap.size w wr ∧ Hid (L.take k = M.take k))
    (fun i _ => n - (intOf i).toNat)
  case atStart => exact ⟨0, Nat.zero_le _, rfl, Below.refl _ _, Lib.hid rfl⟩
  case round =>
    obtain ⟨k, hk, rfl, hb, HE⟩ := hrel
    by_cases hlt : k < n
    · obtain ⟨b, off, rfl, hbl, hcell⟩ := hx (by omega)
      obtain ⟨b', off', rfl, hbl', hcell'⟩ := hx' (by omega)
      have hkl : k < L.length := by rw [HN.out]; exact hlt
      have hkm : k < M.length := by rw [HM.out]; exact hlt
      have hcx : wr.cell? ⟨b, off + k, none⟩ = some (.string (str L[k])) := (hb.cell (p := ⟨b, off + k, none⟩) hbl).trans (hcell k _ (strs_get L k hkl))
      have hcy : wr.cell? ⟨b', off' + k, none⟩ = some (.string (str M[k])) := (hb.cell (p := ⟨b', off' + k, none⟩) hbl').trans (hcell' k _ (strs_get M k hkm))
      clear hcell hcell' hx hx'
      have hki : (k : Int) < (n : Int) := by omega
      by_cases he : L[k] = M[k]
      · have HE2 := Lib.hid (take_same HE.out hkl hkm he)
        rw [← he] at hcy
        have hbb := str_same L[k]
        clear he
        go_wp2_with fail
        go_quiet (fail)
        go_wp2_with fail
        go_roundw
        case rel => exact ⟨k + 1, by omega, by go_num, below_drewN hb _, HE2⟩
        case measure => simp [intOf]; omega
      · have hbb := str_other he
        have HNE : Hid (decide (L = M) = false) := by
          show decide (L = M) = false
          simp only [decide_eq_false_iff_not]
          intro e; subst e; exact he rfl
        clear he
        go_wp2_with fail
        go_quiet (fail)
        go_wp2_with fail
        go_ret
        exact ⟨by rw [HNE.out]; rfl, TurnIn.of_below (below_drewN hb _)⟩
    · obtain rfl : k = n := by omega
      have hki : ¬ (k : Int) < (k : Int) := by omega
      have HEQ : Hid (decide (L = M) = true) := by
        show decide (L = M) = true
        have e := HE.out
        rw [List.take_of_length_le (by rw [HN.out]; exact Nat.le_refl _), List.take_of_length_le (by rw [HM.out]; exact Nat.le_refl _)] at e
        simpa using e
      go_wp2_with fail
      go_ret
      exact ⟨by rw [HEQ.out]; rfl, TurnIn.of_below hb⟩

set_option maxRecDepth 100000 in
set_option maxHeartbeats 1000000 in
theorem l6Same_any (v u : Value) (L M : List (List UInt8)) (w : World) (hv : Seen w v (strs L)) (hu : Seen w u (strs M)) (hlen : M.length = L.length) :
    Calls Tryd.prog 46 #[v, u] w (RetBool w (decide (L = M))) := by
  obtain ⟨A, c, rfl, hlc, hcm, hx⟩ := hv
  obtain ⟨A', c', rfl, hlc', hcm', hx'⟩ := hu
  rw [strs_length] at hlc hx hlc' hx'
  simp only [strs_length]
  rw [hlen] at hlc' hx' ⊢
  unfold maxLen at hcm hcm'
  generalize hnn : L.length = n at *
  have HN := Lib.hid hnn
  have HM := Lib.hid hlen
  clear hnn hlen
  have hbn : ((n : Int) != (n : Int)) = false := by simp
  go_enter Tryd.func46, Tryd.ntmps46
  go_wp2_with fail
  go_loopw [13] (fun i wr => ∃ k : Nat, k ≤ n ∧ i = .int .i64 k ∧ Below w.heap.size w wr ∧ Hid (L.take k = M.take k))
    (fun i _ => n - (intOf i).toNat)
  case atStart => exact ⟨0, Nat.zero_le _, rfl, Below.refl _ _, Lib.hid rfl⟩
  case round =>
    obtain ⟨k, hk, rfl, hb, HE⟩ := hrel
    by_cases hlt : k < n
    · obtain ⟨b, off, rfl, hbl, hcell⟩ := hx (by omega)
      obtain ⟨b', off', rfl, hbl', hcell'⟩ := hx' (by omega)
      have hkl : k < L.length := by rw [HN.out]; exact hlt
      have hkm : k < M.length := by rw [HM.out]; exact hlt
      have hcx : wr.cell? ⟨b, off + k, none⟩ = some (.string (str L[k])) := (hb.cell (p := ⟨b, off + k, none⟩) hbl).trans (hcell k _ (strs_get L k hkl))
      have hcy : wr.cell? ⟨b', off' + k, none⟩ = some (.string (str M[k])) := (hb.cell (p := ⟨b', off' + k, none⟩) hbl').trans (hcell' k _ (strs_get M k hkm))
      clear hcell hcell' hx hx'
      have hki : (k : Int) < (n : Int) := by omega
      by_cases he : L[k] = M[k]
      · have HE2 := Lib.hid (take_same HE.out hkl hkm he)
        rw [← he] at hcy
        have hbb := str_same L[k]
        clear he
        go_wp2_with fail
        go_quiet (fail)
        go_wp2_with fail
        go_roundw
        case rel => exact ⟨k + 1, by omega, by go_num, below_drewN hb _, HE2⟩
        case measure => simp [intOf]; omega
      · have hbb := str_other he
        have HNE : Hid (decide (L = M) = false) := by
          show decide (L = M) = false
          simp only [decide_eq_false_iff_not]
          intro e; subst e; exact he rfl
        clear he
        go_wp2_with fail
        go_quiet (fail)
        go_wp2_with fail
        go_ret
        exact ⟨by rw [HNE.out]; rfl, TurnIn.of_below (below_drewN hb _)⟩
    · obtain rfl : k = n := by omega
      have hki : ¬ (k : Int) < (k : Int) := by omega
      have HEQ : Hid (decide (L = M) = true) := by
        show decide (L = M) = true
        have e := HE.out
        rw [List.take_of_length_le (by rw [HN.out]; exact Nat.le_refl _), List.take_of_length_le (by rw [HM.out]; exact Nat.le_refl _)] at e
        simpa using e
      go_wp2_with fail
      go_ret
      exact ⟨by rw [HEQ.out]; rfl, TurnIn.of_below hb⟩

end Go.Proofs.YtjgmegfbfjmnfaaDoor

/- MakeStripe and IsRight, the program's. -/
namespace G294
open Go Go.RowKit
/-- the two cells of a result are stored -/
theorem duo_store {E : TypeId} {w W : World} {v u : Value} {s : Strp} {lo hi R : Nat} (h : OwnT E W lo hi v u s) (hb : Below w.heap.size w W) (h1 : w.heap.size ≤ R) (h2 : R < lo) (h3 : w.heap.size ≤ lo) :
    OwnT E ((W.setCell ⟨R, 0, none⟩ v).setCell ⟨R, 1, none⟩ u) w.heap.size ((W.setCell ⟨R, 0, none⟩ v).setCell ⟨R, 1, none⟩ u).heap.size v u s ∧ TurnIn 0 0 w ((W.setCell ⟨R, 0, none⟩ v).setCell ⟨R, 1, none⟩ u) := by
  have k0 := turn_setCell W R 0 v
  have k1 := turn_setCell (W.setCell ⟨R, 0, none⟩ v) R 1 u
  have s0 := k0.size
  have s1 := k1.size
  have hh : hi ≤ W.heap.size := by obtain ⟨_, _, _, _, o⟩ := h; exact o.2.1
  exact ⟨((h.keep k0 (by omega)).keep k1 (by omega)).wider h3 (by omega) (by omega), TurnIn.of_below ((hb.setCell (p := ⟨R, 0, none⟩) h1 _).setCell (p := ⟨R, 1, none⟩) h1 _)⟩
end G294
namespace Go.Proofs.YtjgmegfbfjmnfaaDoor
open Go.RowKit G294

set_option maxRecDepth 100000 in
set_option maxHeartbeats 4000000 in
theorem makeStripe_own (v : Value) (l : List (List UInt8)) (m : Int) (w : World) (hv : Seen w v (strs l)) (ht : Tab w) (h0 : 0 < w.heap.size) : Calls Tryd.prog 14 #[v, .int .i64 m] w (RetTOk 9 w (mkR l m) (mkOk l m)) := by
  obtain ⟨A, c, hvv⟩ := hv.len
  rw [strs_length] at hvv
  subst hvv
  have a1 := turn_alloc w (.cells #[.slice none 0 0, .slice none 0 0] 25)
  have z1 := World.size_alloc w (.cells #[.slice none 0 0, .slice none 0 0] 25)
  have r0 := alloc_duo0 w (.slice none 0 0) (.slice none 0 0) 25
  have r1 := alloc_duo1 w (.slice none 0 0) (.slice none 0 0) 25
  have f0 := alloc_frz w #[.slice none 0 0, .slice none 0 0] 25 0
  have f1 := alloc_frz w #[.slice none 0 0, .slice none 0 0] 25 1
  have HV := Lib.hid (hv.touch a1)
  have HT := Lib.hid (ht.below a1.to_below h0)
  have HDEF : Hid (mkOk l m = (prmOk l.length m && textsOk l)) := Lib.hid rfl
  have HNO : Hid (mkOk l m = false → mkR l m = ([], [])) := Lib.hid mkR_no
  have hz1 : w.heap.size + 1 ≤ (w.alloc (.cells #[.slice none 0 0, .slice none 0 0] 25)).heap.size := by omega
  have HA1 := Lib.hid a1
  have HTT := Lib.hid ht
  clear hv z1 ht
  by_cases hp : prmOk l.length m = true
  · have HP := Lib.hid hp
    have b1 : 1 ≤ l.length ∧ l.length ≤ 16 := by
      simp only [prmOk, Bool.and_eq_true] at hp
      have := goodI_b hp.1; omega
    have b2 : 1 ≤ m ∧ m ≤ 4 := by
      simp only [prmOk, Bool.and_eq_true] at hp
      exact par4_b hp.2
    obtain ⟨r, rfl⟩ := Int.eq_ofNat_of_zero_le (show 0 ≤ m by omega)
    have HR : Hid (prmR l.length r = mkM r l.length prmF) := Lib.hid (by unfold prmR; rw [if_pos hp]; simp)
    have HC := Lib.hid (parityMatrix_own (l.length : Int) (r : Int) _ HT.out (by omega))
    rw [HR.out, HP.out] at HC
    by_cases htx : textsOk l = true
    · have HX := Lib.hid htx
      have HO : Hid (mkOk l r = true) := Lib.hid (by rw [HDEF.out, hp, htx]; rfl)
      have HM : Hid (mkR l r = (l, textsF r fun i => comb l.length (l.getD 0 []).length (prmF i) l)) := Lib.hid (by rw [mkR_yes HO.out, textsF_rows]; rfl)
      have HLEN := Lib.hid (texts_same htx)
      have h40 := textsOk_first htx
      have HBIG : Hid (∀ t ∈ l, t.length ≤ 1000000) := Lib.hid (fun t ht => by have := (textsOk_all.1 htx t ht).2; omega)
      have eg := enters_of Tryd.func52 (by kernel_rfl) rfl
      rw [HO.out, HM.out]
      generalize (l.getD 0 []).length = n at *
      clear hp htx
      go_enter Tryd.func14, Tryd.ntmps14
      go_wp2_with fail
      refine HC.out.mono ?_
      rintro e w2 ⟨v2, vs2, rfl, hM, k2⟩
      obtain ⟨A2, n2, c2, rfl⟩ := hM.isSlice
      have a3 := turn_alloc w2 (.cells #[.slice A2 n2 c2] 39)
      have cB := alloc_cell w2 (.slice A2 n2 c2) 39
      have l3 := alloc_lt w2 (.cells #[.slice A2 n2 c2] 39)
      have s2 := k2.size
      have k3 := turn_trans k2 a3 (by omega)
      replace r0 := cell_turn k3 r0 (by omega)
      replace r1 := cell_turn k3 r1 (by omega)
      replace f0 := frozen_turn k3 f0 (by omega)
      replace f1 := frozen_turn k3 f1 (by omega)
      have HM3 := Lib.hid (hM.keep a3 (by omega)).seen
      have HV3 := Lib.hid (HV.out.touch k3)
      have HK3 := Lib.hid (turn_trans HA1.out k3 (by omega))
      have s3 := a3.size
      clear hM k2 a3 k3 HC
      go_wp2_with fail
      refine (equallyLong_any _ _ _ HV3.out).mono ?_
      rintro e w' ⟨rfl, rfl⟩
      rw [HX.out]
      go_wp2_with fail
      generalize hw3 : (w2.alloc (.cells #[.slice A2 n2 c2] 39)) = w3 at *
      clear hw3
      have HC1 := Lib.hid (copiesOf_own _ l w3.drew HV3.out (by omega) HBIG.out)
      go_region_held3 (fun W => W.cell? ⟨w2.heap.size, 0, none⟩ = some (.slice A2 n2 c2))
        (first | exact cB | exact cB4 | exact cB5 | exact (cell_set_other _ _ _ _ (by omega)).trans ((cell_set_other _ _ _ _ (by omega)).trans cB5))
        (first
          | (go_at_call 35; refine HC1.out.mono ?_; rintro e w4 ⟨u4, rfl, o4, k4'⟩; obtain ⟨A4, n4, c4, rfl⟩ := o4.isSlice; have k4 := undrew k4'; have s4 := k4.size; have cB4 := cell_turn k4 cB l3; replace r0 := cell_turn k4 r0 (by omega); replace r1 := cell_turn k4 r1 (by omega); replace f0 := frozen_turn k4 f0 (by omega); replace f1 := frozen_turn k4 f1 (by omega); have hb4 := (turn_trans HK3.out k4 (by omega)).to_below; have HM4 := Lib.hid (HM3.out.touch k4); have HV4 := Lib.hid (HV3.out.touch k4))
          | (go_at_call 37; refine (textsBy_own r _ (.agg #[.slice A2 n2 c2, .slice A l.length c]) (fun i => comb l.length n (prmF i) l) w4 eg (fun W i hb hi => productText_own r l.length n prmF l _ _ i W (HM4.out.below hb) (HV4.out.below hb) hi rfl (by omega) (by omega) HLEN.out (by omega) ((HTT.out.below hb4 h0).below hb (by omega)) (by have := hb.size; omega)) (by omega)).mono ?_; rintro e w5 ⟨u5, rfl, o5, k5⟩; obtain ⟨A5, n5, c5, rfl⟩ := o5.isSlice; have s5 := k5.size; have cB5 := cell_turn k5 cB4 (by omega); replace r0 := cell_turn k5 r0 (by omega); replace r1 := cell_turn k5 r1 (by omega); replace f0 := frozen_turn k5 f0 (by omega); replace f1 := frozen_turn k5 f1 (by omega)))
      all_goals
        have k45 := turn_trans k4 k5 (by omega)
        have hO : OwnT 9 w5 w3.heap.size w5.heap.size (.slice A4 n4 c4) (.slice A5 n5 c5) (l, textsF r fun i => comb l.length n (prmF i) l) := ⟨w4.heap.size, by omega, by omega, o4.keep k5 (by omega), o5⟩
        have HF := Lib.hid (duo_store (R := w.heap.size) hO (turn_trans HK3.out k45 (by omega)).to_below (Nat.le_refl _) (by omega) (by omega))
        clear o4 o5 hO k4 k5 k45 k4'
        go_wp2_with fail
        refine bodyPost_ret (v := .tuple #[.agg #[.slice A4 n4 c4, .slice A5 n5 c5], .bool true]) (by simp [results, Tryd.results14, go_sem, r0, r1, f0, f1]) rfl ?_
        exact ⟨_, _, rfl, HF.out.1, HF.out.2⟩
    · have HX : Hid (textsOk l = false) := Lib.hid (by simpa using htx)
      have HO : Hid (mkOk l r = false) := Lib.hid (by rw [HDEF.out, HX.out]; simp)
      rw [HO.out, HNO.out HO.out]
      clear hp htx
      go_enter Tryd.func14, Tryd.ntmps14
      go_wp2_with fail
      refine HC.out.mono ?_
      rintro e w2 ⟨v2, vs2, rfl, hM, k2⟩
      obtain ⟨A2, n2, c2, rfl⟩ := hM.isSlice
      have a3 := turn_alloc w2 (.cells #[.slice A2 n2 c2] 39)
      have s2 := k2.size
      have k3 := turn_trans k2 a3 (by omega)
      replace r0 := cell_turn k3 r0 (by omega)
      replace r1 := cell_turn k3 r1 (by omega)
      replace f0 := frozen_turn k3 f0 (by omega)
      replace f1 := frozen_turn k3 f1 (by omega)
      have HV3 := Lib.hid (HV.out.touch k3)
      have HK3 := Lib.hid (turn_trans HA1.out k3 (by omega))
      have s3 := a3.size
      have HF := Lib.hid (duo_store (R := w.heap.size) (OwnT.nil 9 (w2.alloc (.cells #[.slice A2 n2 c2] 39)) (w.heap.size + 1) (by omega)) HK3.out.to_below (Nat.le_refl _) (by omega) (by omega))
      clear hM k2 a3 k3 HC
      go_wp2_with fail
      refine (equallyLong_any _ _ _ HV3.out).mono ?_
      rintro e w' ⟨rfl, rfl⟩
      rw [HX.out]
      go_wp2_with fail
      refine bodyPost_ret (v := .tuple #[.agg #[.slice none 0 0, .slice none 0 0], .bool false]) (by simp [results, Tryd.results14, go_sem, r0, r1, f0, f1]) rfl ?_
      exact ⟨_, _, rfl, HF.out.1, HF.out.2⟩
  · have HP : Hid (prmOk l.length m = false) := Lib.hid (by simpa using hp)
    have HO : Hid (mkOk l m = false) := Lib.hid (by rw [HDEF.out, HP.out]; simp)
    have HC := Lib.hid (parityMatrix_own (l.length : Int) m _ HT.out (by omega))
    rw [HP.out] at HC
    rw [HO.out, HNO.out HO.out]
    clear hp
    go_enter Tryd.func14, Tryd.ntmps14
    go_wp2_with fail
    refine HC.out.mono ?_
    rintro e w2 ⟨v2, vs2, rfl, hM, k2⟩
    obtain ⟨A2, n2, c2, rfl⟩ := hM.isSlice
    have a3 := turn_alloc w2 (.cells #[.slice A2 n2 c2] 39)
    have s2 := k2.size
    have k3 := turn_trans k2 a3 (by omega)
    replace r0 := cell_turn k3 r0 (by omega)
    replace r1 := cell_turn k3 r1 (by omega)
    replace f0 := frozen_turn k3 f0 (by omega)
    replace f1 := frozen_turn k3 f1 (by omega)
    have HK3 := Lib.hid (turn_trans HA1.out k3 (by omega))
    have s3 := a3.size
    have HF := Lib.hid (duo_store (R := w.heap.size) (OwnT.nil 9 (w2.alloc (.cells #[.slice A2 n2 c2] 39)) (w.heap.size + 1) (by omega)) HK3.out.to_below (Nat.le_refl _) (by omega) (by omega))
    clear hM k2 a3 k3 HC
    go_wp2_with fail
    refine bodyPost_ret (v := .tuple #[.agg #[.slice none 0 0, .slice none 0 0], .bool false]) (by simp [results, Tryd.results14, go_sem, r0, r1, f0, f1]) rfl ?_
    exact ⟨_, _, rfl, HF.out.1, HF.out.2⟩

set_option maxRecDepth 100000 in
set_option maxHeartbeats 2000000 in
theorem isRight_any (v u : Value) (s : Strp) (w : World) (hv : Seen w v (strs s.1)) (hu : Seen w u (strs s.2)) (ht : Tab w) (h0 : 0 < w.heap.size) :
    Calls Tryd.prog 10 #[.agg #[v, u]] w fun e w' => e = .returned (.tuple #[.bool (rightR s), .bool (strpOk s)]) ∧ TurnIn 0 0 w w' := by
  obtain ⟨A, c, hvv⟩ := hv.len
  obtain ⟨B, d, huu⟩ := hu.len
  rw [strs_length] at hvv huu
  subst hvv huu
  have a1 := turn_alloc w (.cells #[.slice A s.1.length c, .slice B s.2.length d] 25)
  have z1 := World.size_alloc w (.cells #[.slice A s.1.length c, .slice B s.2.length d] 25)
  have c0 := alloc_duo0 w (.slice A s.1.length c) (.slice B s.2.length d) 25
  have c1 := alloc_duo1 w (.slice A s.1.length c) (.slice B s.2.length d) 25
  have HV := Lib.hid (hv.touch a1)
  have HU := Lib.hid (hu.touch a1)
  have HT := Lib.hid (ht.below a1.to_below h0)
  have HA := Lib.hid a1
  have HG := Lib.hid (goodStripe_any _ _ s _ HV.out HU.out)
  have hz : w.heap.size + 1 ≤ (w.alloc (.cells #[.slice A s.1.length c, .slice B s.2.length d] 25)).heap.size := by omega
  clear hv hu ht z1 a1
  by_cases h : strpOk s = true
  · have HO := Lib.hid h
    have HR : Hid (rightR s = decide (s.2 = (mkS s.1 s.2.length).2)) := Lib.hid (by rw [rightR_yes h]; congr 1; exact propext ⟨Eq.symm, Eq.symm⟩)
    have HMO := Lib.hid (strp_make h)
    have HMR := Lib.hid (mkR_yes (strp_make h))
    have HLE : Hid ((mkS s.1 s.2.length).2.length = s.2.length) := Lib.hid (by simp [mkS])
    rw [HO.out] at HG ⊢
    clear h
    go_enter Tryd.func10, Tryd.ntmps10
    go_wp2_with fail
    refine HG.out.mono ?_
    rintro e w2 ⟨rfl, k2⟩
    have s2 := k2.size
    replace c0 := cell_turn k2 c0 (by omega)
    replace c1 := cell_turn k2 c1 (by omega)
    have HC := Lib.hid (makeStripe_own _ s.1 (s.2.length : Int) w2 (HV.out.touch k2) (HT.out.below k2.to_below (by omega)) (by omega))
    rw [HMO.out, HMR.out] at HC
    have HU2 := Lib.hid (HU.out.touch k2)
    have HK2 := Lib.hid (turn_trans HA.out k2 (by omega))
    clear k2 HG
    go_wp2_with fail
    refine HC.out.mono ?_
    rintro e w3 ⟨x, y, rfl, hO, k3⟩
    obtain ⟨A3, n3, e3, A4, n4, e4, rfl, rfl⟩ := hO.isSlice
    have s3 := k3.size
    have a4 := turn_alloc w3 (.cells #[.slice A3 n3 e3, .slice A4 n4 e4] 25)
    have k4 := turn_trans k3 a4 (by omega)
    have d1 := alloc_duo1 w3 (.slice A3 n3 e3) (.slice A4 n4 e4) 25
    replace c1 := cell_turn k4 c1 (by omega)
    have HY := Lib.hid (hO.seen2.touch a4)
    have HU4 := Lib.hid (HU2.out.touch k4)
    have HK4 := Lib.hid (turn_trans HK2.out k4 (by omega))
    clear hO k3 a4 k4 HC c0
    go_wp2_with fail
    refine (slicesEqualS_any _ _ s.2 _ _ HU4.out HY.out HLE.out).mono ?_
    rintro e w5 ⟨rfl, k5⟩
    go_wp2_with fail
    refine bodyPost_ret (v := .tuple #[.bool (decide (s.2 = (mkS s.1 s.2.length).2)), .bool true]) (by simp [results, Tryd.results10, go_sem]) rfl ?_
    exact ⟨by rw [HR.out], turn_trans HK4.out k5 (by omega)⟩
  · have HO : Hid (strpOk s = false) := Lib.hid (by simpa using h)
    have HR : Hid (rightR s = false) := Lib.hid (rightR_no HO.out)
    rw [HO.out] at HG ⊢
    clear h
    go_enter Tryd.func10, Tryd.ntmps10
    go_wp2_with fail
    refine HG.out.mono ?_
    rintro e w2 ⟨rfl, k2⟩
    go_wp2_with fail
    refine bodyPost_ret (v := .tuple #[.bool false, .bool false]) (by simp [results, Tryd.results10, go_sem]) rfl ?_
    exact ⟨by rw [HR.out], turn_trans HA.out k2 (by omega)⟩

end Go.Proofs.YtjgmegfbfjmnfaaDoor

/- MakeStripe and IsRight, the model's. -/
namespace G294
open Go Go.RowKit
theorem mkS_rows (l : List (List UInt8)) (m : Nat) : (mkS l m).2 = rowsT m l.length (l.getD 0 []).length prmF l := rfl
end G294
namespace Go.Proofs.YtjgmegfbfjmnfaaDoor
open Go.RowKit G294

set_option maxRecDepth 100000 in
set_option maxHeartbeats 4000000 in
theorem sMakeStripe_own (v : Value) (l : List (List UInt8)) (m : Int) (w : World) (hv : Seen w v (strs l)) : Calls Tryd.prog 81 #[v, .int .i64 m] w (RetTOk 9 w (mkR l m) (mkOk l m)) := by
  have HV0 := Lib.hid hv
  obtain ⟨A, c, hvv⟩ := hv.len
  rw [strs_length] at hvv
  subst hvv
  have a1 := turn_alloc w (.cells #[.slice none 0 0, .slice none 0 0] 25)
  have z1 := World.size_alloc w (.cells #[.slice none 0 0, .slice none 0 0] 25)
  have r0 := alloc_duo0 w (.slice none 0 0) (.slice none 0 0) 25
  have r1 := alloc_duo1 w (.slice none 0 0) (.slice none 0 0) 25
  have f0 := alloc_frz w #[.slice none 0 0, .slice none 0 0] 25 0
  have f1 := alloc_frz w #[.slice none 0 0, .slice none 0 0] 25 1
  have HV := Lib.hid (hv.touch a1)
  have HDEF : Hid (mkOk l m = ((goodI l.length && par4 m) && textsOk l)) := Lib.hid rfl
  have HNO : Hid (mkOk l m = false → mkR l m = ([], [])) := Lib.hid mkR_no
  have hz1 : w.heap.size + 1 ≤ (w.alloc (.cells #[.slice none 0 0, .slice none 0 0] 25)).heap.size := by omega
  have HF := Lib.hid (OwnT.nil 9 (w.alloc (.cells #[.slice none 0 0, .slice none 0 0] 25)) w.heap.size (by omega))
  have HA1 := Lib.hid a1
  clear hv z1 a1
  by_cases h1 : goodI l.length = true
  · have H1 := Lib.hid h1
    have b1 := goodI_b h1
    by_cases h2 : par4 m = true
    · have H2 := Lib.hid h2
      have b2 := par4_b h2
      by_cases htx : textsOk l = true
      · have HX := Lib.hid htx
        obtain ⟨r, rfl⟩ := Int.eq_ofNat_of_zero_le (show 0 ≤ m by omega)
        have HO : Hid (mkOk l r = true) := Lib.hid (by rw [HDEF.out, h1, h2, htx]; rfl)
        have HM : Hid (mkR l r = (l, rowsT r l.length (l.getD 0 []).length prmF l)) := Lib.hid (by rw [mkR_yes HO.out]; rfl)
        have HLEN := Lib.hid (texts_same htx)
        have h40 := textsOk_first htx
        rw [HO.out, HM.out]
        obtain ⟨b, off, c', hvv, hbl, hlm, hcell⟩ := seen_cells (W := w) HV0.out (by omega)
        obtain ⟨rfl, rfl⟩ : A = some ⟨b, off, none⟩ ∧ c = c' := by simpa using hvv
        have HC0 := Lib.hid hcell
        have HL0 : Hid ((strs l).length = l.length) := Lib.hid (strs_length _)
        have hll : 1 ≤ l.length ∧ l.length ≤ 16 := by omega
        have hrr : 1 ≤ r ∧ r ≤ 4 := by omega
        generalize (l.getD 0 []).length = n at *
        clear h1 h2 htx hvv hcell b1 b2
        have a2 := turn_alloc (w.alloc (.cells #[.slice none 0 0, .slice none 0 0] 25)) (.cells #[] 9)
        have z2 := World.size_alloc (w.alloc (.cells #[.slice none 0 0, .slice none 0 0] 25)) (.cells #[] 9)
        have hown0 : ((w.alloc (.cells #[.slice none 0 0, .slice none 0 0] 25)).alloc (.cells #[] 9)).ownsRow (w.alloc (.cells #[.slice none 0 0, .slice none 0 0] 25)).heap.size 9 1 (.slice (some ⟨(w.alloc (.cells #[.slice none 0 0, .slice none 0 0] 25)).heap.size, 0, none⟩) 0 0) 0 [] := World.ownsRow_lit _ #[] 0 (Nat.le_refl _) (by unfold maxLen; omega) rfl
        have HYA := Lib.hid (HC0.out _ (turn_trans HA1.out a2 (by omega)).to_below)
        have hsz2 : (w.alloc (.cells #[.slice none 0 0, .slice none 0 0] 25)).heap.size ≤ ((w.alloc (.cells #[.slice none 0 0, .slice none 0 0] 25)).alloc (.cells #[] 9)).heap.size := by omega
        have hz1b : (w.alloc (.cells #[.slice none 0 0, .slice none 0 0] 25)).heap.size = w.heap.size + 1 := World.size_alloc _ _
        rw [hz1b] at hown0 hsz2
        have HOW := Lib.hid hown0
        have HSZ := Lib.hid hsz2
        have HA2 := Lib.hid a2
        clear hown0 hsz2 hz1b z2 a2
        go_enter Tryd.func81, Tryd.ntmps81
        go_wp2_with fail
        refine (l1In_side _ _).mono ?_
        rintro e w' ⟨rfl, rfl⟩
        rw [H1.out]
        go_wp2_with fail
        refine (l1In_four _ _).mono ?_
        rintro e w' ⟨rfl, rfl⟩
        rw [H2.out]
        go_wp2_with fail
        refine (l3Texts_any _ _ _ HV.out).mono ?_
        rintro e w' ⟨rfl, rfl⟩
        rw [HX.out]
        go_wp2_with (at_builtin; refine wpList_appendN rfl _ _ _ rfl (w.heap.size + 1) 9 _ _ Tryd.underlying23 infoStr rfl _ 0 [] rfl HOW.out ⟨b, off, none⟩ l.length c (strs l) rfl HL0.out HYA.out (strs_oneC _) ?c1 ?c2 ?c3 ?_)
        case c1 => omega
        case c2 => omega
        case c3 => exact HSZ.out
        intro v2 w2 ho2 hg2 hv2
        have k2 : TurnIn 0 0 (w.alloc (.cells #[.slice none 0 0, .slice none 0 0] 25)) w2 := turn_trans' HA2.out hg2 (fun g e => by simp [Value.ownBlock] at e; rw [World.size_alloc]; omega)
        have s2 := k2.size
        obtain ⟨A2, n2, c2, rfl⟩ := own_isSlice ho2
        have hO2 : OwnStrs 9 w2 (w.heap.size + 1) w2.heap.size (.slice A2 n2 c2) l := ⟨by simpa using ho2, Nat.le_refl _, fun g e => (ho2.lt g e).2⟩
        have HO2 := Lib.hid hO2
        replace r0 := cell_turn k2 r0 (by omega)
        replace r1 := cell_turn k2 r1 (by omega)
        replace f0 := frozen_turn k2 f0 (by omega)
        replace f1 := frozen_turn k2 f1 (by omega)
        have HV2 := Lib.hid (HV.out.touch k2)
        have HK2 := Lib.hid (turn_trans HA1.out k2 (by omega))
        have hz2 : w.heap.size + 1 ≤ w2.heap.size := by omega
        clear ho2 hg2 hv2 hO2 k2 s2
        go_wp2_with fail
        refine (l6Matrix_own r l.length _ hrr.1 hll.1 (by omega) hll.2).mono ?_
        rintro e w3 ⟨v3, vs3, rfl, hM, k3⟩
        obtain ⟨A3, n3, c3, rfl⟩ := hM.isSlice
        have s3 := k3.size
        replace r0 := cell_turn k3 r0 (by omega)
        replace r1 := cell_turn k3 r1 (by omega)
        replace f0 := frozen_turn k3 f0 (by omega)
        replace f1 := frozen_turn k3 f1 (by omega)
        have HM3 := Lib.hid hM.seen
        have HV3 := Lib.hid (HV2.out.touch k3)
        have HK3 := Lib.hid k3
        clear hM k3
        go_wp2_with fail
        refine (l3Rows_own r l.length n prmF l _ _ _ HM3.out HV3.out rfl hll.1 (by omega) (by omega) HLEN.out (by omega)).mono ?_
        rintro e w4 ⟨v4, rfl, o4, k4⟩
        obtain ⟨A4, n4, c4, rfl⟩ := o4.isSlice
        have s4 := k4.size
        replace r0 := cell_turn k4 r0 (by omega)
        replace r1 := cell_turn k4 r1 (by omega)
        replace f0 := frozen_turn k4 f0 (by omega)
        replace f1 := frozen_turn k4 f1 (by omega)
        have k34 := turn_trans HK3.out k4 (by omega)
        have hO : OwnT 9 w4 (w.heap.size + 1) w4.heap.size (.slice A2 n2 c2) (.slice A4 n4 c4) (l, rowsT r l.length n prmF l) := ⟨w2.heap.size, hz2, by omega, HO2.out.keep k34 (by omega), o4.widerS s3 (Nat.le_refl _) (Nat.le_refl _)⟩
        have HFF := Lib.hid (duo_store (R := w.heap.size) hO (turn_trans HK2.out k34 (by omega)).to_below (Nat.le_refl _) (by omega) (by omega))
        clear o4 hO k4 k34
        go_wp2_with fail
        refine bodyPost_ret (v := .tuple #[.agg #[.slice A2 n2 c2, .slice A4 n4 c4], .bool true]) (by simp [results, Tryd.results81, go_sem, r0, r1, f0, f1]) rfl ?_
        exact ⟨_, _, rfl, HFF.out.1, HFF.out.2⟩
      · have HX : Hid (textsOk l = false) := Lib.hid (by simpa using htx)
        have HO : Hid (mkOk l m = false) := Lib.hid (by rw [HDEF.out, HX.out]; simp)
        rw [HO.out, HNO.out HO.out]
        clear h1 h2 htx
        go_enter Tryd.func81, Tryd.ntmps81
        go_wp2_with fail
        refine (l1In_side _ _).mono ?_
        rintro e w' ⟨rfl, rfl⟩
        rw [H1.out]
        go_wp2_with fail
        refine (l1In_four _ _).mono ?_
        rintro e w' ⟨rfl, rfl⟩
        rw [H2.out]
        go_wp2_with fail
        refine (l3Texts_any _ _ _ HV.out).mono ?_
        rintro e w' ⟨rfl, rfl⟩
        rw [HX.out]
        go_wp2_with fail
        refine bodyPost_ret (v := .tuple #[.agg #[.slice none 0 0, .slice none 0 0], .bool false]) (by simp [results, Tryd.results81, go_sem, r0, r1, f0, f1]) rfl ?_
        exact ⟨_, _, rfl, HF.out, HA1.out⟩
    · have H2 : Hid (par4 m = false) := Lib.hid (by simpa using h2)
      have HO : Hid (mkOk l m = false) := Lib.hid (by rw [HDEF.out, H2.out]; simp)
      rw [HO.out, HNO.out HO.out]
      clear h1 h2
      go_enter Tryd.func81, Tryd.ntmps81
      go_wp2_with fail
      refine (l1In_side _ _).mono ?_
      rintro e w' ⟨rfl, rfl⟩
      rw [H1.out]
      go_wp2_with fail
      refine (l1In_four _ _).mono ?_
      rintro e w' ⟨rfl, rfl⟩
      rw [H2.out]
      go_wp2_with fail
      refine bodyPost_ret (v := .tuple #[.agg #[.slice none 0 0, .slice none 0 0], .bool false]) (by simp [results, Tryd.results81, go_sem, r0, r1, f0, f1]) rfl ?_
      exact ⟨_, _, rfl, HF.out, HA1.out⟩
  · have H1 : Hid (goodI l.length = false) := Lib.hid (by simpa using h1)
    have HO : Hid (mkOk l m = false) := Lib.hid (by rw [HDEF.out, H1.out]; simp)
    rw [HO.out, HNO.out HO.out]
    clear h1
    go_enter Tryd.func81, Tryd.ntmps81
    go_wp2_with fail
    refine (l1In_side _ _).mono ?_
    rintro e w' ⟨rfl, rfl⟩
    rw [H1.out]
    go_wp2_with fail
    refine bodyPost_ret (v := .tuple #[.agg #[.slice none 0 0, .slice none 0 0], .bool false]) (by simp [results, Tryd.results81, go_sem, r0, r1, f0, f1]) rfl ?_
    exact ⟨_, _, rfl, HF.out, HA1.out⟩

set_option maxRecDepth 100000 in
set_option maxHeartbeats 4000000 in
theorem sIsRight_any (v u : Value) (s : Strp) (w : World) (hv : Seen w v (strs s.1)) (hu : Seen w u (strs s.2)) :
    Calls Tryd.prog 11 #[.agg #[v, u]] w fun e w' => e = .returned (.tuple #[.bool (rightR s), .bool (strpOk s)]) ∧ TurnIn 0 0 w w' := by
  obtain ⟨A, c, hvv⟩ := hv.len
  obtain ⟨B, d, huu⟩ := hu.len
  rw [strs_length] at hvv huu
  subst hvv huu
  have a1 := turn_alloc w (.cells #[.slice A s.1.length c, .slice B s.2.length d] 25)
  have l1 := alloc_lt w (.cells #[.slice A s.1.length c, .slice B s.2.length d] 25)
  have c0 := alloc_duo0 w (.slice A s.1.length c) (.slice B s.2.length d) 25
  have c1 := alloc_duo1 w (.slice A s.1.length c) (.slice B s.2.length d) 25
  have HV := Lib.hid (hv.touch a1)
  have HU := Lib.hid (hu.touch a1)
  have HA := Lib.hid a1
  have HG := Lib.hid (sGoodStripe_any _ _ s _ HV.out HU.out)
  clear hv hu a1
  by_cases h : strpOk s = true
  · have HO := Lib.hid h
    have HR : Hid (rightR s = decide (rowsT s.2.length s.1.length (s.1.getD 0 []).length prmF s.1 = s.2)) := Lib.hid (by rw [rightR_yes h]; rfl)
    have HLEN := Lib.hid (texts_same (strpOk_first h))
    have h40 := (strpOk_len h).2.2
    obtain ⟨b1, b2, _⟩ := strpOk_b h
    have HLE : Hid (s.2.length = (rowsT s.2.length s.1.length (s.1.getD 0 []).length prmF s.1).length) := Lib.hid (by simp)
    rw [HO.out] at HG ⊢
    rw [HR.out]
    generalize (s.1.getD 0 []).length = n at *
    clear h HR
    go_enter Tryd.func11, Tryd.ntmps11
    go_wp2_with fail
    refine HG.out.mono ?_
    rintro e w2 ⟨rfl, k2⟩
    have s2 := k2.size
    replace c0 := cell_turn k2 c0 l1
    replace c1 := cell_turn k2 c1 l1
    have HV2 := Lib.hid (HV.out.touch k2)
    have HU2 := Lib.hid (HU.out.touch k2)
    have HK2 := Lib.hid (turn_trans HA.out k2 (by omega))
    have l2 := Nat.lt_of_lt_of_le l1 s2
    clear k2 HG s2 l1
    have hS0 : Below w2.heap.size w2 w2.drew ∧ w2.drew.cell? ⟨w.heap.size, 0, none⟩ = some (.slice A s.1.length c) ∧ w2.drew.cell? ⟨w.heap.size, 1, none⟩ = some (.slice B s.2.length d) := ⟨(Below.refl _ _).drew, c0, c1⟩
    have HS : Hid (∀ W, Below w2.heap.size w2 W → DuoAt w2 w.heap.size (.slice A s.1.length c) (.slice B s.2.length d) W) := Lib.hid (fun W hb => duo_below c0 c1 l2 hb)
    go_wp2_with fail
    go_region_held3 (fun W => Below w2.heap.size w2 W ∧ W.cell? ⟨w.heap.size, 0, none⟩ = some (.slice A s.1.length c) ∧ W.cell? ⟨w.heap.size, 1, none⟩ = some (.slice B s.2.length d))
      (first | exact hS0 | exact hS3 | exact hS4 | exact hS5)
      (first
        | (go_at_call 48; refine (l6Matrix_own s.2.length s.1.length _ b2.1 b1.1 (by omega) b1.2).mono ?_; rintro e w3 ⟨v3, vs3, rfl, hM, k3'⟩; have k3 := undrew k3'; obtain ⟨A3, n3, c3, rfl⟩ := hM.isSlice; have hS3 := HS.out _ k3.to_below; have HM3 := Lib.hid hM.seen)
        | (go_at_call 47; refine (l3Rows_own s.2.length s.1.length n prmF s.1 _ _ _ HM3.out (HV2.out.below hS3.1) rfl b1.1 (by omega) (by omega) HLEN.out (by omega)).mono ?_; rintro e w4 ⟨v4, rfl, o4, k4⟩; obtain ⟨A4, n4, c4, rfl⟩ := o4.isSlice; have hS4 := HS.out _ (turn_trans k3 k4 (by omega)).to_below; have HO4 := Lib.hid o4.seen)
        | (go_at_call 46; refine (l6Same_any _ _ _ s.2 _ HO4.out (HU2.out.below hS4.1) HLE.out).mono ?_; rintro e w5 ⟨rfl, k5⟩; have hS5 := HS.out _ (k5.base hS4.1 hS4.1.size (by omega))))
    all_goals
      go_wp2_with fail
      refine bodyPost_ret (v := .tuple #[.bool (decide (rowsT s.2.length s.1.length n prmF s.1 = s.2)), .bool true]) (by simp [results, Tryd.results11, go_sem]) rfl ?_
      exact ⟨rfl, turn_trans HK2.out (TurnIn.of_below hS5.1) (by omega)⟩
  · have HO : Hid (strpOk s = false) := Lib.hid (by simpa using h)
    have HR : Hid (rightR s = false) := Lib.hid (rightR_no HO.out)
    rw [HO.out] at HG ⊢
    rw [HR.out]
    clear h
    go_enter Tryd.func11, Tryd.ntmps11
    go_wp2_with fail
    refine HG.out.mono ?_
    rintro e w2 ⟨rfl, k2⟩
    go_wp2_with fail
    refine bodyPost_ret (v := .tuple #[.bool false, .bool false]) (by simp [results, Tryd.results11, go_sem]) rfl ?_
    exact ⟨rfl, turn_trans HA.out k2 (by omega)⟩

end Go.Proofs.YtjgmegfbfjmnfaaDoor

/- A string's bytes in a new block, each of which may be written. -/
namespace G294
open Go Go.RowKit
/-- bytes in a block, each of which may be written -/
structure BytesIn (W : World) (B : Nat) (l : List UInt8) : Prop where
  lt : B < W.heap.size
  cell : ∀ j, j < l.length → W.cell? ⟨B, j, none⟩ = some (.int .u8 ((l.getD j 0).toNat : Int))
  free : ∀ j, j < l.length → W.frozen? ⟨B, j, none⟩ = false
theorem BytesIn.store {W : World} {B q : Nat} {l l' : List UInt8} {x : UInt8} (h : BytesIn W B l) (hq : q < l.length) (e : l.set q x = l') : BytesIn (W.setCell ⟨B, q, none⟩ (.int .u8 (x.toNat : Int))) B l' := by
  subst e
  refine ⟨by simpa using h.lt, fun j hj => ?_, fun j hj => by simpa using h.free j (by simpa using hj)⟩
  rw [List.length_set] at hj
  by_cases e : j = q
  · subst e
    have := World.cell?_setCell_same W ⟨B, j, none⟩ (.int .u8 (x.toNat : Int)) (h.cell j hj)
    rw [this]; simp [List.getD, hj]
  · rw [World.cell?_setCell_other _ _ _ _ (by simp <;> exact fun h => e h.symm), h.cell j hj]
    simp [List.getD, List.getElem?_set, show ¬ q = j from fun h => e h.symm]
theorem BytesIn.drew {W : World} {B : Nat} {l : List UInt8} (h : BytesIn W B l) : BytesIn W.drew B l := ⟨h.lt, h.cell, h.free⟩
theorem BytesIn.seen {W : World} {B cp : Nat} {l : List UInt8} (h : BytesIn W B l) (h1 : l.length ≤ cp) (h2 : cp ≤ maxLen) : Seen W (.slice (some ⟨B, 0, none⟩) l.length cp) (bys l) := by
  refine ⟨some ⟨B, 0, none⟩, cp, by rw [bys_length], by rw [bys_length]; exact h1, h2, fun _ => ⟨B, 0, rfl, h.lt, fun i u hu => ?_⟩⟩
  have hi : i < l.length := by
    rcases Nat.lt_or_ge i l.length with h | h
    · exact h
    · rw [List.getElem?_eq_none (by simpa using h)] at hu; cases hu
  rw [bys_get l i hi] at hu
  cases hu
  rw [Nat.zero_add, h.cell i hi]; simp [List.getD, hi]
theorem bytes_of_str {P : Program} (w : World) (src dst e : TypeId) (l : List UInt8) (hs : P.underlying src = some .string) (hd : P.underlying dst = some (.slice e)) (he : P.underlying e = some (.int .u8)) (hl : l.length ≤ maxLen) :
    ∃ cp w1, (convert src dst (.string (str l))).run P w = .ok (.slice (some ⟨w.heap.size, 0, none⟩) l.length cp) w1 ∧ l.length ≤ cp ∧ cp ≤ maxLen ∧ BytesIn w1 w.heap.size l ∧ Below w.heap.size w w1 := by
  have h := Lib.run_convert_string_bytes (P := P) w src dst e (str l) hs hd he
  rw [str_size] at h
  refine ⟨_, _, h, grownCap_ge _ _ _ _, grownCap_le_maxLen _ _ _ _ hl, ⟨by rw [Lib.bytesWorld_size]; omega, fun j hj => ?_, fun j hj => ?_⟩, ⟨rfl, rfl, rfl, by rw [Lib.bytesWorld_size]; omega, fun k hk => Lib.bytesWorld_at_old _ _ _ _ hk⟩⟩
  · have := Lib.bytesWorld_cell w e (str l) j (by rw [str_size]; exact hj)
    rw [this]; rfl
  · simp only [World.frozen?, Lib.bytesWorld_at_new]
    have : j < (Lib.bytesCells w e (str l)).size := by
      have e1 : (Lib.bytesCells w e (str l)).size = (str l).data.size + (grownCap w (str l).size 0 e - (str l).size) := by simp [Lib.bytesCells]
      have e2 : (str l).data.size = l.length := by show l.toArray.size = _; simp
      omega
    simp; omega
end G294

/- The model's l6Plus and l6Own. -/
namespace G294
open Go Go.RowKit
/-- append([]T{}, x...) of a row that is not empty: a new row -/
theorem run_appendLit {P : Program} (w : World) (t ty e : TypeId) (z : Value) (bytes : Nat) (ht : P.underlying t = some (.slice e)) (hinfo : (P.info? e).map (fun i => (i.zero, i.size, i.bytes)) = some (some z, 1, bytes)) (hzs : z.cells.size = 1)
    (base : Addr) (A : Addr) (m c : Nat) (ys : List Value) (h1m : 1 ≤ m) (hl : ys.length = m) (hc : ∀ j y, ys[j]? = some y → w.cell? (A.add j) = some y) (h1 : ∀ y, y ∈ ys → y.oneCell' = true) (hn : m ≤ 1000000) (hby : bytes ≤ 1000) :
    ∃ cp w', (Builtin.append_ #[t, t] ty #[.slice (some base) 0 0, .slice (some A) m c]).run P w = .ok (.slice (some ⟨w.heap.size, 0, none⟩) m cp) w' ∧ w'.ownsRow w.heap.size e 1 (.slice (some ⟨w.heap.size, 0, none⟩) m cp) m ys ∧ TurnIn 0 0 w w' := by
  obtain ⟨i, hi, hz, hsz, hbs⟩ := info_parts hinfo
  have hge := grownCap_ge w m 0 e
  have hcm : grownCap w m 0 e ≤ maxLen := grownCap_le_maxLen w m 0 e (by unfold maxLen; omega)
  have hb : m * bytes ≤ 1000000 * 1000 := Nat.mul_le_mul hn hby
  have h := run_append_grow_src (P := P) w t t ty e i z ht hi hz (some base) 0 0 [] (by simp [Builtin.firstCells, loadCells, loadCellsFrom]) (.slice (some A) m c) m ys (by rw [hsz]; exact Src.ofSlice w ht A m c ys (by omega) hc h1) (by omega) (by omega) (by rw [Nat.zero_add, nextslicecap_zero (by omega), hbs]; omega)
  rw [Nat.zero_add] at h
  refine ⟨_, _, h, ⟨by omega, .inr ⟨w.heap.size, _, _, rfl, Nat.le_refl _, heap_alloc_new w.drew _, hge, hcm, ?_, ?_⟩⟩, TurnIn.of_below ((Below.refl _ _).drew.alloc (Nat.le_refl _) _)⟩
  · simp only [List.nil_append, Array.size_append, List.size_toArray, size_zeroCells, hzs, hl]; omega
  · simp only [List.nil_append, Array.toList_append, Nat.mul_one]
    rw [← hl]; exact List.take_left
theorem step_appendLit {P : Program} {w : World} {ops : Array Oper} {o : Oper} {a : Act} {K : Act → World → Prop} {Q : Exit → Act → World → Prop} {E : Prop} (hw : Region.wanted o (yielded ops a.tmps) = true) (s x : Operand) (t : TypeId)
    (ho : o.op = .call { callee := .builtin .append, args := #[s, x], argTypes := #[t, t] })
    (e : TypeId) (z : Value) (bytes : Nat) (ht : P.underlying t = some (.slice e)) (hinfo : (P.info? e).map (fun i => (i.zero, i.size, i.bytes)) = some (some z, 1, bytes)) (hzs : z.cells.size = 1)
    (base : Addr) (hs : a.eval s = .slice (some base) 0 0)
    (A : Addr) (m c : Nat) (ys : List Value) (hx : a.eval x = .slice (some A) m c) (h1m : 1 ≤ m) (hl : ys.length = m) (hc : ∀ j y, ys[j]? = some y → w.cell? (A.add j) = some y) (h1 : ∀ y, y ∈ ys → y.oneCell' = true)
    (hn : m ≤ 1000000) (hby : bytes ≤ 1000)
    (h : ∀ g cp w', Hid (g = w.heap.size) → w'.ownsRow g e 1 (.slice (some ⟨g, 0, none⟩) m cp) m ys → TurnIn 0 0 w w' → K (a.put o.dst (.slice (some ⟨g, 0, none⟩) m cp)) w') :
    if Region.wanted o (yielded ops a.tmps) = true then Oper.wp P o a w K Q else E := by
  rw [if_pos hw]
  obtain ⟨cp, w', hrun, r1, r2⟩ := run_appendLit (P := P) w t o.type e z bytes ht hinfo hzs base A m c ys h1m hl hc h1 hn hby
  unfold Oper.wp execOp
  simp only [ho, resolve, invoke, builtin, Sem.run_bind, Sem.run_pure, Result.andThen_ok, List.map_toArray, List.map_cons, List.map_nil, hs, hx, hrun]
  exact h _ cp w' (Lib.hid rfl) r1 r2
theorem own_lower {w : World} {e : TypeId} {v : Value} {lo lo' n : Nat} {l : List (List UInt8)} (h : w.ownsRow lo e 1 v n (strs l)) (hl : lo' ≤ lo) (hn : n = l.length) : w.ownsRow lo' e 1 v l.length (strs l) := by
  subst hn
  refine ⟨h.1, ?_⟩
  rcases h.2 with hh | ⟨g, cap, cur, rfl, hbg, rest⟩
  · exact .inl hh
  · exact .inr ⟨g, cap, cur, rfl, Nat.le_trans hl hbg, rest⟩
theorem plus_step (a b : List UInt8) (f : UInt8) (q : Nat) : (mkRow a.length fun p => if p < q then a.getD p 0 ^^^ gmul f (b.getD p 0) else a.getD p 0).set q (a.getD q 0 ^^^ gmul f (b.getD q 0)) = mkRow a.length fun p => if p < q + 1 then a.getD p 0 ^^^ gmul f (b.getD p 0) else a.getD p 0 := by
  rw [mkRow_set]
  apply mkRow_congr
  intro p hp
  by_cases e : p = q
  · subst e; simp
  · rw [if_neg e]
    by_cases h2 : p < q
    · rw [if_pos h2, if_pos (by omega)]
    · rw [if_neg h2, if_neg (by omega)]
theorem mkRow_self (a : List UInt8) : mkRow a.length (fun p => a.getD p 0) = a := by
  refine List.ext_getElem (by simp) fun i h1 h2 => ?_
  simp [mkRow, List.getD, h2]
end G294
namespace Go.Proofs.YtjgmegfbfjmnfaaDoor
open Go.RowKit G294

set_option maxRecDepth 100000 in
set_option maxHeartbeats 2000000 in
theorem l6Plus_own (a b : List UInt8) (f : UInt8) (w : World) (hl : b.length = a.length) (hn : a.length ≤ 1000) : Calls Tryd.prog 40 #[.string (str a), .int .u8 (f.toNat : Int), .string (str b)] w (RetStr w (plusL a f b)) := by
  obtain ⟨cp, w1, hcv, hc1, hc2, hO, hb1⟩ := bytes_of_str (P := Tryd.prog) w 9 22 5 a Tryd.underlying9 Tryd.underlying22 Tryd.underlying5 (by unfold maxLen; omega)
  have HM := Lib.hid hc2
  have hs2 := str_size b
  rw [hl] at hs2
  have HP : Hid (plusL a f b = mkRow a.length fun p => a.getD p 0 ^^^ gmul f (b.getD p 0)) := Lib.hid rfl
  have HST := Lib.hid (plus_step a b f)
  have HXY : Hid (∀ q, a.getD q 0 ^^^ gmul f (b.getD q 0) = a.getD q 0 ^^^ gmul f (b.getD q 0)) := Lib.hid (fun _ => rfl)
  have hO0 : BytesIn w1 w.heap.size (mkRow a.length fun p => if p < 0 then a.getD p 0 ^^^ gmul f (b.getD p 0) else a.getD p 0) := by
    have e0 : (mkRow a.length fun p => if p < 0 then a.getD p 0 ^^^ gmul f (b.getD p 0) else a.getD p 0) = a := (mkRow_congr fun p _ => if_neg (Nat.not_lt_zero p)).trans (mkRow_self a)
    rw [e0]; exact hO
  have HO0 := Lib.hid hO0
  have HB1 := Lib.hid hb1
  rw [HP.out]
  clear hl hO hO0 HP hb1
  unfold maxLen at hc2
  generalize hG : a.length = n at *
  have hsb : (str b).size = n := hs2
  clear hG hs2
  go_enter Tryd.func40, Tryd.ntmps40
  go_wp2_with fail
  go_loopw [13] (fun i wr => ∃ q : Nat, q ≤ n ∧ i = .int .i64 q ∧ Hid (BytesIn wr w.heap.size (mkRow n fun p => if p < q then a.getD p 0 ^^^ gmul f (b.getD p 0) else a.getD p 0)) ∧ Hid (Below w.heap.size w wr))
    (fun i _ => n - (intOf i).toNat)
  case atStart => exact ⟨0, Nat.zero_le _, rfl, HO0, HB1⟩
  case round =>
    obtain ⟨q, hq, rfl, HO, HB⟩ := hrel
    clear HO0 HB1
    by_cases hlq : q < n
    · have hqi : (q : Int) < (n : Int) := by omega
      have hcs := HO.out.cell q (by simpa using hlq)
      have hfr := HO.out.free q (by simpa using hlq)
      rw [mkRow_getD _ _ _ hlq, if_neg (by omega)] at hcs
      have hsg := str_get b q (by omega)
      have hst := HST.out q
      generalize a.getD q 0 = x at *
      generalize b.getD q 0 = y at *
      have HC := Lib.hid (stilly (l1Times_u8 f y wr.drew))
      have hxor : bits BinOp.xor IntKind.u8 (x.toNat : Int) ((gmul f y).toNat : Int) = ((x ^^^ gmul f y).toNat : Int) := xor_u8 _ _
      have HO3 := Lib.hid ((HO.out.store (q := q) (x := x ^^^ gmul f y) (by simpa using hlq) hst).drew)
      have HB3 := Lib.hid ((HB.out.setCell (p := ⟨w.heap.size, q, none⟩) (Nat.le_refl _) (.int .u8 ((x ^^^ gmul f y).toNat : Int))).drew)
      clear hst HST
      generalize x ^^^ gmul f y = r at *
      go_wp2_with fail
      refine wp_region_still_tail 11 (by kernel_rfl) (by kernel_rfl) ?_
      simp only [List.take_succ_cons, List.take_zero, List.drop_succ_cons, List.drop_zero]
      repeat (first | still_step | still_call (HC.out))
      refine wpStill_nil ?_
      go_wp2_with fail
      go_roundw
      case rel => exact ⟨q + 1, by omega, by go_num, HO3, HB3⟩
      case measure => simp [intOf]; omega
    · obtain rfl : q = n := by omega
      have hqi : ¬ (q : Int) < (q : Int) := by omega
      have HE : Hid ((mkRow q fun p => if p < q then a.getD p 0 ^^^ gmul f (b.getD p 0) else a.getD p 0) = mkRow q fun p => a.getD p 0 ^^^ gmul f (b.getD p 0)) := Lib.hid (mkRow_congr fun p hp => if_pos hp)
      rw [HE.out] at HO
      have hseen := HO.out.seen (cp := cp) (by simpa using hc1) HM.out
      rw [mkRow_length] at hseen
      have hconv := run_string_seen (P := Tryd.prog) 22 5 9 Tryd.underlying22 Tryd.underlying5 Tryd.underlying9 hseen
      clear hseen
      go_wp2_with fail
      go_ret
      exact ⟨rfl, TurnIn.of_below HB.out⟩

set_option maxRecDepth 100000 in
set_option maxHeartbeats 4000000 in
theorem l6Own_own (v u : Value) (s : Strp) (w : World) (hv : Seen w v (strs s.1)) (hu : Seen w u (strs s.2)) (h1 : 1 ≤ s.1.length ∧ s.1.length ≤ 1000) (h2 : 1 ≤ s.2.length ∧ s.2.length ≤ 1000) : Calls Tryd.prog 44 #[.agg #[v, u]] w (RetT 9 w s) := by
  obtain ⟨b, off, c, rfl, hbl, hlm, hcell⟩ := seen_cells (W := w) hv (by omega)
  obtain ⟨b', off', d, rfl, hbl', hlm', hcell'⟩ := seen_cells (W := w) hu (by omega)
  have HC0 := Lib.hid hcell
  have HC1 := Lib.hid hcell'
  have HL0 : Hid ((strs s.1).length = s.1.length) := Lib.hid (strs_length _)
  have HL1 : Hid ((strs s.2).length = s.2.length) := Lib.hid (strs_length _)
  obtain ⟨n, hn⟩ : ∃ n, n = s.1.length := ⟨_, rfl⟩
  obtain ⟨m, hm⟩ : ∃ m, m = s.2.length := ⟨_, rfl⟩
  have HN := Lib.hid hn
  have HM := Lib.hid hm
  rw [← hn] at HL0 h1 hlm ⊢
  rw [← hm] at HL1 h2 hlm' ⊢
  clear hv hu hcell hcell' hn hm
  have a1 := turn_alloc w (.cells #[.slice (some ⟨b, off, none⟩) n c, .slice (some ⟨b', off', none⟩) m d] 25)
  have a2 := turn_alloc (w.alloc (.cells #[.slice (some ⟨b, off, none⟩) n c, .slice (some ⟨b', off', none⟩) m d] 25)) (.cells #[.slice none 0 0, .slice none 0 0] 25)
  have z2 : ((w.alloc (.cells #[.slice (some ⟨b, off, none⟩) n c, .slice (some ⟨b', off', none⟩) m d] 25)).alloc (.cells #[.slice none 0 0, .slice none 0 0] 25)).heap.size = w.heap.size + 2 := by simp
  have c0 := cell_turn a2 (alloc_duo0 w (.slice (some ⟨b, off, none⟩) n c) (.slice (some ⟨b', off', none⟩) m d) 25) (alloc_lt _ _)
  have c1 := cell_turn a2 (alloc_duo1 w (.slice (some ⟨b, off, none⟩) n c) (.slice (some ⟨b', off', none⟩) m d) 25) (alloc_lt _ _)
  have r0 := alloc_duo0 (w.alloc (.cells #[.slice (some ⟨b, off, none⟩) n c, .slice (some ⟨b', off', none⟩) m d] 25)) (.slice none 0 0) (.slice none 0 0) 25
  have r1 := alloc_duo1 (w.alloc (.cells #[.slice (some ⟨b, off, none⟩) n c, .slice (some ⟨b', off', none⟩) m d] 25)) (.slice none 0 0) (.slice none 0 0) 25
  have f0 := alloc_frz (w.alloc (.cells #[.slice (some ⟨b, off, none⟩) n c, .slice (some ⟨b', off', none⟩) m d] 25)) #[.slice none 0 0, .slice none 0 0] 25 0
  have f1 := alloc_frz (w.alloc (.cells #[.slice (some ⟨b, off, none⟩) n c, .slice (some ⟨b', off', none⟩) m d] 25)) #[.slice none 0 0, .slice none 0 0] 25 1
  rw [World.size_alloc] at r0 r1 f0 f1
  have k2 := turn_trans a1 a2 (by omega)
  go_enter Tryd.func44, Tryd.ntmps44
  go_wp2_with fail
  generalize ((w.alloc (.cells #[.slice (some ⟨b, off, none⟩) n c, .slice (some ⟨b', off', none⟩) m d] 25)).alloc (.cells #[.slice none 0 0, .slice none 0 0] 25)) = w2 at *
  have hz2 : w.heap.size + 2 ≤ w2.heap.size := by omega
  clear z2 a1 a2
  have HW : Hid (∀ W, Below w2.heap.size w2 W → Below w.heap.size w W) := Lib.hid (fun W h => (TurnIn.of_below h).base k2.to_below k2.size (by omega))
  have HS : Hid (∀ W, Below w2.heap.size w2 W → DuoAt w2 w.heap.size (.slice (some ⟨b, off, none⟩) n c) (.slice (some ⟨b', off', none⟩) m d) W) := Lib.hid (fun W h => duo_below c0 c1 (by omega) h)
  have hS0 : w2.drew.cell? ⟨w.heap.size, 0, none⟩ = some (.slice (some ⟨b, off, none⟩) n c) ∧ w2.drew.cell? ⟨w.heap.size, 1, none⟩ = some (.slice (some ⟨b', off', none⟩) m d) := ⟨c0, c1⟩
  have hbA : Below w2.heap.size w2 (w2.alloc (.cells #[] 9)).drew := ((Below.refl _ _).alloc (Nat.le_refl _) _).drew
  have hbB : Below w2.heap.size w2 ((w2.alloc (.cells #[] 9)).alloc (.cells #[] 9)).drew := (((Below.refl _ _).alloc (Nat.le_refl _) _).alloc (by simp) _).drew
  have HSA := Lib.hid (HS.out _ hbA)
  have HSB := Lib.hid (HS.out _ hbB)
  have HYA := Lib.hid (HC0.out _ (HW.out _ hbA))
  have HYB := Lib.hid (HC0.out _ (HW.out _ hbB))
  go_region_held3 (fun W => W.cell? ⟨w.heap.size, 0, none⟩ = some (.slice (some ⟨b, off, none⟩) n c) ∧ W.cell? ⟨w.heap.size, 1, none⟩ = some (.slice (some ⟨b', off', none⟩) m d))
    (first | exact hS0 | exact HSA.out.2 | exact HSB.out.2 | exact hS3.2 | exact HS3L.out.2 | exact hS4.2 | exact ⟨(cell_set_other _ _ _ _ (by omega)).trans ((cell_set_other _ _ _ _ (by omega)).trans hS4.2.1), (cell_set_other _ _ _ _ (by omega)).trans ((cell_set_other _ _ _ _ (by omega)).trans hS4.2.2)⟩)
    (first
      | (refine step_appendLit (by rfl) _ _ _ (by rfl) 9 _ _ Tryd.underlying23 infoStr rfl _ (by rfl) ⟨b, off, none⟩ n c (strs s.1) (by rfl) h1.1 HL0.out (by first | exact HYA.out | exact HYB.out) (strs_oneC _) (by omega) (by omega) ?_; intro g1 cp1 w3 HG1 ho1 k3; have hb3 : Below w2.heap.size w2 w3 := (by first | exact k3.base hbA hbA.size (by omega) | exact k3.base hbB hbB.size (by omega)); have hS3 := HS.out _ hb3; have HS3L := Lib.hid (HS.out _ (hb3.alloc hb3.size (.cells #[] 9))); have HYC := Lib.hid (HC1.out _ (HW.out _ hb3)); have HYD := Lib.hid (HC1.out _ (HW.out _ (hb3.alloc hb3.size (.cells #[] 9)))); have s3 := hb3.size)
      | (refine step_appendLit (by rfl) _ _ _ (by rfl) 9 _ _ Tryd.underlying23 infoStr rfl _ (by rfl) ⟨b', off', none⟩ m d (strs s.2) (by rfl) h2.1 HL1.out (by first | exact HYC.out | exact HYD.out) (strs_oneC _) (by omega) (by omega) ?_; intro g2 cp2 w4 HG2 ho2 k4; have k34 : TurnIn 0 0 w3 w4 := (by first | exact k4 | exact turn_trans (turn_alloc _ _) k4 (by omega)); have hb4 : Below w2.heap.size w2 w4 := k34.base hb3 s3 (by omega); have hS4 := HS.out _ hb4; have q0 := cell_turn (TurnIn.of_below hb4) r0 (by omega); have q1 := cell_turn (TurnIn.of_below hb4) r1 (by omega); have g0 := frozen_turn (TurnIn.of_below hb4) f0 (by omega); have g1' := frozen_turn (TurnIn.of_below hb4) f1 (by omega)))
  all_goals
    have s4 := k34.size
    have e1 : w.heap.size + 2 ≤ g1 := by
      have := HG1.out
      first | omega | (simp at this; omega)
    have e2 : w3.heap.size ≤ g2 := by
      have := HG2.out
      first | omega | (simp at this; omega)
    have hO : OwnT 9 w4 (w.heap.size + 2) w4.heap.size (.slice (some ⟨g1, 0, none⟩) n cp1) (.slice (some ⟨g2, 0, none⟩) m cp2) s := ⟨w3.heap.size, by omega, by omega, OwnStrs.keep (hi := w3.heap.size) ⟨own_lower ho1 e1 HN.out, Nat.le_refl _, fun g e => (ho1.lt g e).2⟩ k34 (by omega), ⟨own_lower ho2 e2 HM.out, Nat.le_refl _, fun g e => (ho2.lt g e).2⟩⟩
    have HF := Lib.hid (duo_store (R := w.heap.size + 1) hO (HW.out _ hb4) (by omega) (by omega) (by omega))
    clear hO ho1 ho2 k3 k4 k34
    go_wp2_with fail
    refine bodyPost_ret (v := .agg #[.slice (some ⟨g1, 0, none⟩) n cp1, .slice (some ⟨g2, 0, none⟩) m cp2]) (by simp [results, Tryd.results44, go_sem, q0, q1, g0, g1']) rfl ?_
    exact ⟨_, _, rfl, HF.out.1, HF.out.2⟩

end Go.Proofs.YtjgmegfbfjmnfaaDoor

/- AddStripes: what is added; a stripe in a box whose texts are replaced one by one. -/
namespace G294
open Go Go.RowKit
def firstLen (s : Strp) : Nat := (s.1.getD 0 []).length
def sadOk (a b : Strp) : Bool := strpOk a && (strpOk b && (decide (a.1.length = b.1.length) && (decide (a.2.length = b.2.length) && decide (firstLen a = firstLen b))))
def sadT (L M : List (List UInt8)) : List (List UInt8) := textsF L.length fun i => plusL (L.getD i []) 1 (M.getD i [])
def sadS (a b : Strp) : Strp := (sadT a.1 b.1, sadT a.2 b.2)
def sadR (a b : Strp) : Strp := if sadOk a b = true then sadS a b else ([], [])
theorem sadR_no {a b : Strp} (h : sadOk a b = false) : sadR a b = ([], []) := if_neg (by rw [h]; simp)
theorem sadR_yes {a b : Strp} (h : sadOk a b = true) : sadR a b = sadS a b := if_pos h
@[simp] theorem sadT_length (L M : List (List UInt8)) : (sadT L M).length = L.length := by simp [sadT]
theorem sadR_len (a b : Strp) : (sadR a b).1.length + (sadR a b).2.length ≤ 20 := by
  unfold sadR; split
  · rename_i h
    simp only [sadOk, Bool.and_eq_true] at h
    have := strpOk_b h.1
    simp only [sadS, sadT_length]; omega
  · simp
theorem sadOk_b {a b : Strp} (h : sadOk a b = true) : strpOk a = true ∧ strpOk b = true ∧ a.1.length = b.1.length ∧ a.2.length = b.2.length ∧ firstLen a = firstLen b := by
  simpa [sadOk] using h
theorem strp_len1 {s : Strp} (h : strpOk s = true) {i : Nat} (hi : i < s.1.length) : (s.1.getD i []).length = firstLen s := (strpOk_len h).1 _ (getD_mem hi)
theorem strp_len2 {s : Strp} (h : strpOk s = true) {i : Nat} (hi : i < s.2.length) : (s.2.getD i []).length = firstLen s := (strpOk_len h).2.1 _ (getD_mem hi)
theorem strp_len40 {s : Strp} (h : strpOk s = true) : firstLen s ≤ 40 := (strpOk_len h).2.2
/-- the first k texts are replaced -/
def halfT (L : List (List UInt8)) (F : Nat → List UInt8) (k : Nat) : List (List UInt8) := textsF L.length fun i => if i < k then F i else L.getD i []
@[simp] theorem halfT_length (L : List (List UInt8)) (F : Nat → List UInt8) (k : Nat) : (halfT L F k).length = L.length := by simp [halfT]
theorem halfT_zero (L : List (List UInt8)) (F : Nat → List UInt8) : halfT L F 0 = L := by
  unfold halfT
  have : (fun i => if i < 0 then F i else L.getD i []) = fun i => L.getD i [] := by funext i; simp
  rw [this, textsF_self]
theorem halfT_all (L : List (List UInt8)) (F : Nat → List UInt8) : halfT L F L.length = textsF L.length F := textsF_congr fun i hi => if_pos hi
theorem halfT_get (L : List (List UInt8)) (F : Nat → List UInt8) (k : Nat) (hk : k < L.length) : (halfT L F k).getD k [] = L.getD k [] := by rw [halfT, textsF_getD _ _ _ hk, if_neg (by omega)]
theorem textsF_set (n : Nat) (F : Nat → List UInt8) (k : Nat) (x : List UInt8) : (textsF n F).set k x = textsF n fun i => if i = k then x else F i := by
  refine List.ext_getElem (by simp) fun i h1 h2 => ?_
  simp only [textsF, List.getElem_set, List.getElem_map, List.getElem_range]
  by_cases e : k = i
  · subst e; simp
  · rw [if_neg e, if_neg (fun h => e h.symm)]
theorem halfT_next (L : List (List UInt8)) (F : Nat → List UInt8) (k : Nat) : (halfT L F k).set k (F k) = halfT L F (k + 1) := by
  unfold halfT
  rw [textsF_set]
  refine textsF_congr fun i hi => ?_
  by_cases e : i = k
  · subst e; simp
  · rw [if_neg e]
    by_cases h : i < k
    · rw [if_pos h, if_pos (by omega)]
    · rw [if_neg h, if_neg (by omega)]
theorem OwnStrs.store {E : TypeId} {w : World} {lo hi g n cap q : Nat} {l l' : List (List UInt8)} {x : List UInt8} (h : OwnStrs E w lo hi (.slice (some ⟨g, 0, none⟩) n cap) l) (hn : l.length = n) (e : l.set q x = l') :
    OwnStrs E (w.setCell ⟨g, q, none⟩ (.string (str x))) lo hi (.slice (some ⟨g, 0, none⟩) n cap) l' := by
  have h1 := h.1
  rw [hn] at h1
  have hst := h1.stored q (.string (str x))
  refine ⟨?_, by simpa using h.2.1, h.2.2⟩
  have e2 : strs l' = (strs l).set q (.string (str x)) := by rw [← e]; simp [strs, List.map_set]
  have e3 : l'.length = n := by rw [← e]; simpa using hn
  rw [e2, e3]
  exact hst.1
theorem OwnStrs.shape {E : TypeId} {w : World} {lo hi : Nat} {v : Value} {l : List (List UInt8)} (h : OwnStrs E w lo hi v l) (h1 : 1 ≤ l.length) : ∃ g cap, v = .slice (some ⟨g, 0, none⟩) l.length cap ∧ lo ≤ g ∧ g < hi ∧ l.length ≤ cap ∧ cap ≤ maxLen ∧
    (∀ k, k < l.length → w.cell? ⟨g, k, none⟩ = some (.string (str (l.getD k [])))) ∧ ∀ k, w.frozen? ⟨g, k, none⟩ = false := by
  obtain ⟨ho, ht, hg⟩ := h
  rcases ho.2 with ⟨rfl, hn⟩ | ⟨g, cap, cur, rfl, hbg, hgg, hnc, hcm, hcs, htk⟩
  · omega
  · refine ⟨g, cap, rfl, hbg, hg g rfl, hnc, hcm, fun k hk => ?_, fun k => ho.frozenAt k⟩
    rw [ho.cellAt k (by omega), strs_get l k hk]
    simp [List.getD, hk]
/-- a stripe of the call's own in a box, beside cells of older boxes -/
structure SBox (E : TypeId) (w W : World) (B lo mid hi : Nat) (va vp : Value) (D P : List (List UInt8)) : Prop where
  data : OwnStrs E W lo mid va D
  par : OwnStrs E W mid hi vp P
  c0 : W.cell? ⟨B, 0, none⟩ = some va
  c1 : W.cell? ⟨B, 1, none⟩ = some vp
  hB : B < lo
  hlm : lo ≤ mid
  hmh : mid ≤ hi
  old : Below w.heap.size w W
section
variable {E : TypeId} {w W W' : World} {B lo mid hi : Nat} {va vp : Value} {D P : List (List UInt8)}
theorem SBox.top (h : SBox E w W B lo mid hi va vp D P) : hi ≤ W.heap.size := h.par.2.1
theorem SBox.turn (h : SBox E w W B lo mid hi va vp D P) (t : TurnIn 0 0 W W') (hw : w.heap.size ≤ W.heap.size) : SBox E w W' B lo mid hi va vp D P := by
  have h1 := h.hB; have h2 := h.hlm; have h3 := h.hmh; have h4 := h.top
  exact ⟨h.data.keep t (by omega), h.par.keep t (by omega), cell_turn t h.c0 (by omega), cell_turn t h.c1 (by omega), h1, h2, h3, t.base h.old hw (by omega)⟩
theorem SBox.storeD {g n cap q : Nat} {l' : List (List UInt8)} {x : List UInt8} (h : SBox E w W B lo mid hi (.slice (some ⟨g, 0, none⟩) n cap) vp D P) (hn : D.length = n) (e : D.set q x = l') (hw : w.heap.size ≤ lo) :
    SBox E w (W.setCell ⟨g, q, none⟩ (.string (str x))) B lo mid hi (.slice (some ⟨g, 0, none⟩) n cap) vp l' P := by
  have h1 := h.hB
  have g1 := (h.data.1.lt g rfl).1
  have g2 := h.data.2.2 g rfl
  have k := turn_setCell W g q (.string (str x))
  exact ⟨h.data.store hn e, h.par.keep k (by omega), (cell_set_other W _ _ _ (by omega)).trans h.c0, (cell_set_other W _ _ _ (by omega)).trans h.c1, h1, h.hlm, h.hmh, h.old.setCell (show w.heap.size ≤ g by omega) _⟩
theorem SBox.storeP {g n cap q : Nat} {l' : List (List UInt8)} {x : List UInt8} (h : SBox E w W B lo mid hi va (.slice (some ⟨g, 0, none⟩) n cap) D P) (hn : P.length = n) (e : P.set q x = l') (hw : w.heap.size ≤ lo) :
    SBox E w (W.setCell ⟨g, q, none⟩ (.string (str x))) B lo mid hi va (.slice (some ⟨g, 0, none⟩) n cap) D l' := by
  have h1 := h.hB
  have h2 := h.hlm
  have g1 := (h.par.1.lt g rfl).1
  have g2 := h.par.2.2 g rfl
  have k := turn_setCell W g q (.string (str x))
  exact ⟨h.data.keep k (by omega), h.par.store hn e, (cell_set_other W _ _ _ (by omega)).trans h.c0, (cell_set_other W _ _ _ (by omega)).trans h.c1, h1, h2, h.hmh, h.old.setCell (show w.heap.size ≤ g by omega) _⟩
theorem SBox.own (h : SBox E w W B lo mid hi va vp D P) : OwnT E W lo hi va vp (D, P) := ⟨mid, h.hlm, h.hmh, h.data, h.par⟩
end
/-- cells that stay: two of a box, and of a result's box with leave to write -/
structure Kept (W : World) (C R : Nat) (x y p q : Value) : Prop where
  x0 : W.cell? ⟨C, 0, none⟩ = some x
  x1 : W.cell? ⟨C, 1, none⟩ = some y
  r0 : W.cell? ⟨R, 0, none⟩ = some p
  r1 : W.cell? ⟨R, 1, none⟩ = some q
  f0 : W.frozen? ⟨R, 0, none⟩ = false
  f1 : W.frozen? ⟨R, 1, none⟩ = false
theorem Kept.turn {W W' : World} {C R : Nat} {x y p q : Value} (h : Kept W C R x y p q) (t : TurnIn 0 0 W W') (hC : C < W.heap.size) (hR : R < W.heap.size) : Kept W' C R x y p q :=
  ⟨cell_turn t h.x0 hC, cell_turn t h.x1 hC, cell_turn t h.r0 hR, cell_turn t h.r1 hR, frozen_turn t h.f0 hR, frozen_turn t h.f1 hR⟩
theorem Kept.set {W : World} {C R g o : Nat} {x y p q z : Value} (h : Kept W C R x y p q) (h1 : g ≠ C) (h2 : g ≠ R) : Kept (W.setCell ⟨g, o, none⟩ z) C R x y p q :=
  ⟨(cell_set_other W _ _ _ h1).trans h.x0, (cell_set_other W _ _ _ h1).trans h.x1, (cell_set_other W _ _ _ h2).trans h.r0, (cell_set_other W _ _ _ h2).trans h.r1, (frozen_set_other W _ _ _ h2).trans h.f0, (frozen_set_other W _ _ _ h2).trans h.f1⟩
end G294

/- A stripe in a box, begun; cells that stay. -/
namespace G294
open Go Go.RowKit
theorem OwnStrs.atK {E : TypeId} {w : World} {lo hi g n cap : Nat} {l : List (List UInt8)} (h : OwnStrs E w lo hi (.slice (some ⟨g, 0, none⟩) n cap) l) (hn : l.length = n) {k : Nat} (hk : k < n) : w.cell? ⟨g, k, none⟩ = some (.string (str (l.getD k []))) ∧ w.frozen? ⟨g, k, none⟩ = false := by
  have h1 := h.1
  rw [hn] at h1
  refine ⟨?_, h1.frozenAt k⟩
  rw [h1.cellAt k (by omega), strs_get l k (by omega)]
  simp [List.getD, show k < l.length by omega]
theorem SBox.start {E : TypeId} {w W : World} {B lo mid hi : Nat} {va vp x y : Value} {D P : List (List UInt8)} (hD : OwnStrs E W lo mid va D) (hP : OwnStrs E W mid hi vp P) (x0 : W.cell? ⟨B, 0, none⟩ = some x) (x1 : W.cell? ⟨B, 1, none⟩ = some y) (hB : B < lo) (h1 : lo ≤ mid) (h2 : mid ≤ hi) (hb : Below w.heap.size w W) (hw : w.heap.size ≤ B) :
    SBox E w ((W.setCell ⟨B, 0, none⟩ va).setCell ⟨B, 1, none⟩ vp) B lo mid hi va vp D P := by
  have k0 := turn_setCell W B 0 va
  have k1 := turn_setCell (W.setCell ⟨B, 0, none⟩ va) B 1 vp
  have e1 : (W.setCell ⟨B, 0, none⟩ va).cell? ⟨B, 1, none⟩ = some y := (World.cell?_setCell_other _ _ _ _ (by simp)).trans x1
  exact ⟨(hD.keep k0 (by omega)).keep k1 (by omega), (hP.keep k0 (by omega)).keep k1 (by omega), (World.cell?_setCell_other _ _ _ _ (by simp)).trans (World.cell?_setCell_same _ _ _ x0), World.cell?_setCell_same _ _ _ e1, hB, h1, h2, (hb.setCell (p := ⟨B, 0, none⟩) hw _).setCell (p := ⟨B, 1, none⟩) hw _⟩
theorem three_frz (w : World) (cs : Array Value) (o2 o3 : Obj) (T : TypeId) (o : Nat) : (((w.alloc (.cells cs T)).alloc o2).alloc o3).frozen? ⟨w.heap.size, o, none⟩ = false :=
  frozen_turn (turn_alloc _ o3) (frozen_turn (turn_alloc _ o2) (alloc_frz w cs T o) (alloc_lt _ _)) (Nat.lt_of_lt_of_le (alloc_lt _ _) (turn_alloc _ o2).size)
theorem grew_frz {w : World} {B o : Nat} {x : Bool} (h : w.frozen? ⟨B, o, none⟩ = x) (hB : B < w.heap.size) (p : Grew w) : p.at_.frozen? ⟨B, o, none⟩ = x := (p.old.frozen (p := ⟨B, o, none⟩) hB).trans h
end G294
