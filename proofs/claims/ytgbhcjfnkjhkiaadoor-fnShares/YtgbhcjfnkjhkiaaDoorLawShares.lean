/- The walk of FnShares. -/
import Derived.Test.YtgbhcjfnkjhkiaaDoorRows
import Derived.Test.YtgbhcjfnkjhkiaaDoorOpenArgs
import Derived.Test.YtgbhcjfnkjhkiaaDoorCur9
import Derived.Test.YtgbhcjfnkjhkiaaDoorAddShr
import Derived.Test.YtgbhcjfnkjhkiaaDoorRefShr
import Derived.Test.YtgbhcjfnkjhkiaaDoorIsShr
import Derived.Test.YtgbhcjfnkjhkiaaDoorShaLaw
import Derived.Test.YtgbhcjfnkjhkiaaDoorTabOf
import Derived.Test.YtgbhcjfnkjhkiaaDoorFrame
set_option linter.unusedSimpArgs false
set_option linter.unusedVariables false
namespace G294
theorem int_ads {a b : List Sr} (h : adsOk a b = true) (h0 : 0 < a.length) : intOk a = true ∧ intOk b = true ∧ intOk (adsR a b) = true ∧ intR (adsR a b) 0 = intR a 0 ^^^ intR b 0 := by
  obtain ⟨h1, h2⟩ := ads_lag h 0
  rw [adsR_yes h]
  have h' := h
  simp only [adsOk, sameX, Bool.and_eq_true, decide_eq_true_eq] at h'
  have ia := intOk_yes h'.1.1 (show a.length ≠ 0 by omega)
  have ib := intOk_yes h'.1.2 (show b.length ≠ 0 by omega)
  have is := intOk_yes h1 (show (adsL a b).length ≠ 0 by rw [adsL_length]; omega)
  exact ⟨ia, ib, is, by rw [intR_yes ia, intR_yes ib, intR_yes is, h2]⟩
theorem int_ref {l : List Sr} {r : List UInt8} (h : refOk l r = true) (h0 : r.length < l.length) : intOk l = true ∧ intOk (refR l r) = true ∧ intR (refR l r) 0 = intR l 0 := by
  obtain ⟨h1, h2⟩ := ref_lag h h0
  rw [refR_yes h]
  have h' := h
  simp only [refOk, Bool.and_eq_true, decide_eq_true_eq] at h'
  have ia := intOk_yes h'.1 (show l.length ≠ 0 by omega)
  have is := intOk_yes h1 (show (refL l r).length ≠ 0 by rw [refL_length]; omega)
  exact ⟨ia, is, by rw [intR_yes ia, intR_yes is, h2]⟩
end G294
namespace Go.Proofs.YtgbhcjfnkjhkiaaDoor
open Go.ChangeShapes Go.WideShapes Go.ChangeAt Go.RowKit G294

set_option maxRecDepth 100000 in
set_option maxHeartbeats 8000000 in
theorem shares_walk (v u : Value) (l0 m0 : List UInt8) (w : World) (hv : Seen w v (bys l0)) (hu : Seen w u (bys m0)) (ht : Tab w) (h0 : 0 < w.heap.size) :
    Calls Tryd.prog 7 #[v, u] w fun e w' => e = .returned (.bool true) ∧ Below w.heap.size w w' := by
  have HV := Lib.hid hv
  have HU := Lib.hid hu
  obtain ⟨A, c, rfl, hlc, hcm, hx⟩ := hv
  obtain ⟨A', c', rfl, hlc', hcm', hx'⟩ := hu
  rw [bys_length] at hlc hlc' HV HU
  simp only [bys_length]
  clear hx hx'
  unfold maxLen at hcm hcm'
  generalize l0.length = n1 at *
  generalize m0.length = n2 at *
  have HTB : Hid (∀ W, TurnIn 0 0 w W → Tab W ∧ 0 < W.heap.size) := fun W h => ⟨ht.below h.to_below h0, by have := h.size; omega⟩
  clear ht
  by_cases hbig : 1048576 < wrap64 ((n1 : Int) + (n2 : Int))
  · go_enter Tryd.func7, Tryd.ntmps7
    go_wp2_with fail
    go_ret
    exact ⟨rfl, Below.refl _ _⟩
  go_enter Tryd.func7, Tryd.ntmps7
  go_wp2_with fail
  refine (drawAddShares_any _ l0 _ HV.out).mono ?_
  rintro e w1 ⟨va, vb, a, b, rfl, hla, hlb, oa, ob, kk⟩
  obtain ⟨Aa, ca, rfl⟩ := oa.seen.len
  have z1 := kk.size
  have HIA := Lib.hid (@int_ads a b)
  clear hla hlb
  go_wp2_with fail
  refine (addShares_own _ _ a b _ oa.seen ob.seen).mono ?_
  rintro e w2 ⟨vs, rfl, os, k2⟩
  replace oa := oa.keep k2 (by omega)
  replace ob := ob.keep k2 (by omega)
  replace kk := turn_trans kk k2 (by omega)
  clear k2
  go_wp2_with fail
  refine (sAddShares_own _ _ a b _ oa.seen ob.seen).mono ?_
  rintro e w3 ⟨vt, rfl, ot, k3⟩
  replace oa := oa.keep k3 (by omega)
  replace ob := ob.keep k3 (by omega)
  replace os := os.keep k3 (by omega)
  replace kk := turn_trans kk k3 (by omega)
  clear k3
  obtain ⟨ok, hok⟩ : ∃ ok, ok = adsOk a b := ⟨_, rfl⟩
  rw [← hok]
  have HOK := Lib.hid hok
  have hoo : (ok != ok) = false := by simp
  clear hok
  go_wp2_with fail
  refine (sameShares_same _ _ (adsR a b) _ os.seen ot.seen).mono ?_
  rintro e w4 ⟨rfl, k4⟩
  have HA4 := Lib.hid (oa.keep k4 (by omega))
  have HB4 := Lib.hid (ob.keep k4 (by omega))
  have HS4 := Lib.hid (os.keep k4 (by omega))
  replace kk := turn_trans kk k4 (by omega)
  clear k4 oa ob os ot
  cases ok
  · go_wp2_with fail
    refine (drawRefresh_any _ m0 _ (HU.out.touch kk)).mono ?_
    rintro e y1 ⟨vl, vr, l, r, rfl, hll, hlr, ol, orr, k1⟩
    obtain ⟨Al, cl, rfl⟩ := ol.seen.len
    obtain ⟨Ar, cr, hvr⟩ := orr.seen.len
    rw [bys_length] at hvr
    subst hvr
    have zz1 := kk.size
    replace kk := turn_trans kk k1 (by omega)
    have HIR := Lib.hid (@int_ref l r)
    clear k1 hll hlr
    go_wp2_with fail
    refine (refreshShares_own _ _ l r _ ol.seen orr.seen (HTB.out _ kk).1 (HTB.out _ kk).2).mono ?_
    rintro e y2 ⟨vq, rfl, oq, k2⟩
    replace ol := ol.keep k2 (by omega)
    replace orr := orr.keep k2 (by omega)
    replace kk := turn_trans kk k2 (by omega)
    clear k2
    go_wp2_with fail
    refine (sRefreshShares_own _ _ l r _ ol.seen orr.seen).mono ?_
    rintro e y3 ⟨vq2, rfl, oq2, k3⟩
    replace ol := ol.keep k3 (by omega)
    replace oq := oq.keep k3 (by omega)
    replace kk := turn_trans kk k3 (by omega)
    clear k3 orr
    obtain ⟨ok2, hok2⟩ : ∃ ok2, ok2 = refOk l r := ⟨_, rfl⟩
    rw [← hok2]
    have HOK2 := Lib.hid hok2
    have hoo2 : (ok2 != ok2) = false := by simp
    clear hok2
    go_wp2_with fail
    refine (sameShares_same _ _ (refR l r) _ oq.seen oq2.seen).mono ?_
    rintro e y4 ⟨rfl, k4⟩
    have HL4 := Lib.hid (ol.keep k4 (by omega))
    have HQ4 := Lib.hid (oq.keep k4 (by omega))
    replace kk := turn_trans kk k4 (by omega)
    clear k4 ol oq oq2
    cases ok2
    · go_wp2_with fail
      refine (drawIsShared_any _ m0 _ (HU.out.touch kk)).mono ?_
      rintro e x1 ⟨vm, m, k, rfl, hlm, om, k1⟩
      have zz2 := kk.size
      replace kk := turn_trans kk k1 (by omega)
      clear k1 hlm
      go_wp2_with fail
      refine (isShared_own _ m k _ om.seen (HTB.out _ kk).1 (HTB.out _ kk).2).mono ?_
      rintro e x2 ⟨rfl, k2⟩
      replace om := om.keep k2 (by omega)
      replace kk := turn_trans kk k2 (by omega)
      clear k2
      go_wp2_with fail
      refine (sIsShared_own _ m k _ om.seen).mono ?_
      rintro e x3 ⟨rfl, k3⟩
      replace om := om.keep k3 (by omega)
      replace kk := turn_trans kk k3 (by omega)
      clear k3
      go_wp2_with fail
      refine (openSecret_own _ m k _ om.seen (HTB.out _ kk).1 (HTB.out _ kk).2).mono ?_
      rintro e x4 ⟨rfl, k4⟩
      replace om := om.keep k4 (by omega)
      replace kk := turn_trans kk k4 (by omega)
      clear k4
      go_wp2_with fail
      refine (sOpenSecret_own _ m k _ om.seen).mono ?_
      rintro e x5 ⟨rfl, k5⟩
      replace kk := turn_trans kk k5 (by omega)
      clear k5 om
      generalize isSR m k = q1 at *
      generalize isSOk m k = q2 at *
      generalize opnR m k = q3 at *
      generalize opnOk m k = q4 at *
      have hq1 : (q1 == q1) = true := by simp
      have hq2 : (q2 == q2) = true := by simp
      have hq3 : ((q3.toNat : Int) == (q3.toNat : Int)) = true := by simp
      have hq4 : (q4 == q4) = true := by simp
      go_wp2_with fail
      go_ret
      exact ⟨rfl, kk.to_below⟩
    · by_cases hlen2 : r.length < l.length
      · obtain ⟨i1, i2, i3⟩ := HIR.out HOK2.out.symm hlen2
        have HI1 := Lib.hid i1
        have HI2 := Lib.hid i2
        have HI3 := Lib.hid i3
        have hli2 : (r.length : Int) < (l.length : Int) := by omega
        clear i1 i2 i3
        go_wp2_with fail
        refine (interpolate_own _ l 0 _ HL4.out.seen (HTB.out _ kk).1 (HTB.out _ kk).2).mono ?_
        rintro e y5 ⟨rfl, k5⟩
        rw [HI1.out]
        have HQ5 := Lib.hid (HQ4.out.keep k5 (by omega))
        replace kk := turn_trans kk k5 (by omega)
        clear k5
        go_wp2_with fail
        refine (interpolate_own _ (refR l r) 0 _ HQ5.out.seen (HTB.out _ kk).1 (HTB.out _ kk).2).mono ?_
        rintro e y6 ⟨rfl, k6⟩
        rw [HI2.out, HI3.out]
        replace kk := turn_trans kk k6 (by omega)
        generalize intR l 0 = xl at *
        have hne2 : ((xl.toNat : Int) != (xl.toNat : Int)) = false := by simp
        clear k6 HI1 HI2 HI3 HQ5
        go_wp2_with fail
        refine (drawIsShared_any _ m0 _ (HU.out.touch kk)).mono ?_
        rintro e x1 ⟨vm, m, k, rfl, hlm, om, k1⟩
        have zz2 := kk.size
        replace kk := turn_trans kk k1 (by omega)
        clear k1 hlm
        go_wp2_with fail
        refine (isShared_own _ m k _ om.seen (HTB.out _ kk).1 (HTB.out _ kk).2).mono ?_
        rintro e x2 ⟨rfl, k2⟩
        replace om := om.keep k2 (by omega)
        replace kk := turn_trans kk k2 (by omega)
        clear k2
        go_wp2_with fail
        refine (sIsShared_own _ m k _ om.seen).mono ?_
        rintro e x3 ⟨rfl, k3⟩
        replace om := om.keep k3 (by omega)
        replace kk := turn_trans kk k3 (by omega)
        clear k3
        go_wp2_with fail
        refine (openSecret_own _ m k _ om.seen (HTB.out _ kk).1 (HTB.out _ kk).2).mono ?_
        rintro e x4 ⟨rfl, k4⟩
        replace om := om.keep k4 (by omega)
        replace kk := turn_trans kk k4 (by omega)
        clear k4
        go_wp2_with fail
        refine (sOpenSecret_own _ m k _ om.seen).mono ?_
        rintro e x5 ⟨rfl, k5⟩
        replace kk := turn_trans kk k5 (by omega)
        clear k5 om
        generalize isSR m k = q1 at *
        generalize isSOk m k = q2 at *
        generalize opnR m k = q3 at *
        generalize opnOk m k = q4 at *
        have hq1 : (q1 == q1) = true := by simp
        have hq2 : (q2 == q2) = true := by simp
        have hq3 : ((q3.toNat : Int) == (q3.toNat : Int)) = true := by simp
        have hq4 : (q4 == q4) = true := by simp
        go_wp2_with fail
        go_ret
        exact ⟨rfl, kk.to_below⟩
      · have hli2 : ¬ (r.length : Int) < (l.length : Int) := by omega
        go_wp2_with fail
        refine (drawIsShared_any _ m0 _ (HU.out.touch kk)).mono ?_
        rintro e x1 ⟨vm, m, k, rfl, hlm, om, k1⟩
        have zz2 := kk.size
        replace kk := turn_trans kk k1 (by omega)
        clear k1 hlm
        go_wp2_with fail
        refine (isShared_own _ m k _ om.seen (HTB.out _ kk).1 (HTB.out _ kk).2).mono ?_
        rintro e x2 ⟨rfl, k2⟩
        replace om := om.keep k2 (by omega)
        replace kk := turn_trans kk k2 (by omega)
        clear k2
        go_wp2_with fail
        refine (sIsShared_own _ m k _ om.seen).mono ?_
        rintro e x3 ⟨rfl, k3⟩
        replace om := om.keep k3 (by omega)
        replace kk := turn_trans kk k3 (by omega)
        clear k3
        go_wp2_with fail
        refine (openSecret_own _ m k _ om.seen (HTB.out _ kk).1 (HTB.out _ kk).2).mono ?_
        rintro e x4 ⟨rfl, k4⟩
        replace om := om.keep k4 (by omega)
        replace kk := turn_trans kk k4 (by omega)
        clear k4
        go_wp2_with fail
        refine (sOpenSecret_own _ m k _ om.seen).mono ?_
        rintro e x5 ⟨rfl, k5⟩
        replace kk := turn_trans kk k5 (by omega)
        clear k5 om
        generalize isSR m k = q1 at *
        generalize isSOk m k = q2 at *
        generalize opnR m k = q3 at *
        generalize opnOk m k = q4 at *
        have hq1 : (q1 == q1) = true := by simp
        have hq2 : (q2 == q2) = true := by simp
        have hq3 : ((q3.toNat : Int) == (q3.toNat : Int)) = true := by simp
        have hq4 : (q4 == q4) = true := by simp
        go_wp2_with fail
        go_ret
        exact ⟨rfl, kk.to_below⟩
  · by_cases hlen : 0 < a.length
    · obtain ⟨i1, i2, i3, i4⟩ := HIA.out HOK.out.symm hlen
      have HI1 := Lib.hid i1
      have HI2 := Lib.hid i2
      have HI3 := Lib.hid i3
      have HI4 := Lib.hid i4
      have hli : (0 : Int) < (a.length : Int) := by omega
      clear i1 i2 i3 i4
      go_wp2_with fail
      refine (interpolate_own _ a 0 _ HA4.out.seen (HTB.out _ kk).1 (HTB.out _ kk).2).mono ?_
      rintro e w5 ⟨rfl, k5⟩
      rw [HI1.out]
      have HB5 := Lib.hid (HB4.out.keep k5 (by omega))
      have HS5 := Lib.hid (HS4.out.keep k5 (by omega))
      replace kk := turn_trans kk k5 (by omega)
      clear k5
      go_wp2_with fail
      refine (interpolate_own _ b 0 _ HB5.out.seen (HTB.out _ kk).1 (HTB.out _ kk).2).mono ?_
      rintro e w6 ⟨rfl, k6⟩
      rw [HI2.out]
      have HS6 := Lib.hid (HS5.out.keep k6 (by omega))
      replace kk := turn_trans kk k6 (by omega)
      clear k6
      go_wp2_with fail
      refine (interpolate_own _ (adsR a b) 0 _ HS6.out.seen (HTB.out _ kk).1 (HTB.out _ kk).2).mono ?_
      rintro e w7 ⟨rfl, k7⟩
      rw [HI3.out, HI4.out]
      replace kk := turn_trans kk k7 (by omega)
      generalize intR a 0 = xa at *
      generalize intR b 0 = xb at *
      have hxx := xor_u8 xa xb
      have hne : (((xa ^^^ xb).toNat : Int) != ((xa ^^^ xb).toNat : Int)) = false := by simp
      clear k7 HI1 HI2 HI3 HI4 HS5 HS6 HB5
      go_wp2_with fail
      refine (drawRefresh_any _ m0 _ (HU.out.touch kk)).mono ?_
      rintro e y1 ⟨vl, vr, l, r, rfl, hll, hlr, ol, orr, k1⟩
      obtain ⟨Al, cl, rfl⟩ := ol.seen.len
      obtain ⟨Ar, cr, hvr⟩ := orr.seen.len
      rw [bys_length] at hvr
      subst hvr
      have zz1 := kk.size
      replace kk := turn_trans kk k1 (by omega)
      have HIR := Lib.hid (@int_ref l r)
      clear k1 hll hlr
      go_wp2_with fail
      refine (refreshShares_own _ _ l r _ ol.seen orr.seen (HTB.out _ kk).1 (HTB.out _ kk).2).mono ?_
      rintro e y2 ⟨vq, rfl, oq, k2⟩
      replace ol := ol.keep k2 (by omega)
      replace orr := orr.keep k2 (by omega)
      replace kk := turn_trans kk k2 (by omega)
      clear k2
      go_wp2_with fail
      refine (sRefreshShares_own _ _ l r _ ol.seen orr.seen).mono ?_
      rintro e y3 ⟨vq2, rfl, oq2, k3⟩
      replace ol := ol.keep k3 (by omega)
      replace oq := oq.keep k3 (by omega)
      replace kk := turn_trans kk k3 (by omega)
      clear k3 orr
      obtain ⟨ok2, hok2⟩ : ∃ ok2, ok2 = refOk l r := ⟨_, rfl⟩
      rw [← hok2]
      have HOK2 := Lib.hid hok2
      have hoo2 : (ok2 != ok2) = false := by simp
      clear hok2
      go_wp2_with fail
      refine (sameShares_same _ _ (refR l r) _ oq.seen oq2.seen).mono ?_
      rintro e y4 ⟨rfl, k4⟩
      have HL4 := Lib.hid (ol.keep k4 (by omega))
      have HQ4 := Lib.hid (oq.keep k4 (by omega))
      replace kk := turn_trans kk k4 (by omega)
      clear k4 ol oq oq2
      cases ok2
      · go_wp2_with fail
        refine (drawIsShared_any _ m0 _ (HU.out.touch kk)).mono ?_
        rintro e x1 ⟨vm, m, k, rfl, hlm, om, k1⟩
        have zz2 := kk.size
        replace kk := turn_trans kk k1 (by omega)
        clear k1 hlm
        go_wp2_with fail
        refine (isShared_own _ m k _ om.seen (HTB.out _ kk).1 (HTB.out _ kk).2).mono ?_
        rintro e x2 ⟨rfl, k2⟩
        replace om := om.keep k2 (by omega)
        replace kk := turn_trans kk k2 (by omega)
        clear k2
        go_wp2_with fail
        refine (sIsShared_own _ m k _ om.seen).mono ?_
        rintro e x3 ⟨rfl, k3⟩
        replace om := om.keep k3 (by omega)
        replace kk := turn_trans kk k3 (by omega)
        clear k3
        go_wp2_with fail
        refine (openSecret_own _ m k _ om.seen (HTB.out _ kk).1 (HTB.out _ kk).2).mono ?_
        rintro e x4 ⟨rfl, k4⟩
        replace om := om.keep k4 (by omega)
        replace kk := turn_trans kk k4 (by omega)
        clear k4
        go_wp2_with fail
        refine (sOpenSecret_own _ m k _ om.seen).mono ?_
        rintro e x5 ⟨rfl, k5⟩
        replace kk := turn_trans kk k5 (by omega)
        clear k5 om
        generalize isSR m k = q1 at *
        generalize isSOk m k = q2 at *
        generalize opnR m k = q3 at *
        generalize opnOk m k = q4 at *
        have hq1 : (q1 == q1) = true := by simp
        have hq2 : (q2 == q2) = true := by simp
        have hq3 : ((q3.toNat : Int) == (q3.toNat : Int)) = true := by simp
        have hq4 : (q4 == q4) = true := by simp
        go_wp2_with fail
        go_ret
        exact ⟨rfl, kk.to_below⟩
      · by_cases hlen2 : r.length < l.length
        · obtain ⟨i1, i2, i3⟩ := HIR.out HOK2.out.symm hlen2
          have HI1 := Lib.hid i1
          have HI2 := Lib.hid i2
          have HI3 := Lib.hid i3
          have hli2 : (r.length : Int) < (l.length : Int) := by omega
          clear i1 i2 i3
          go_wp2_with fail
          refine (interpolate_own _ l 0 _ HL4.out.seen (HTB.out _ kk).1 (HTB.out _ kk).2).mono ?_
          rintro e y5 ⟨rfl, k5⟩
          rw [HI1.out]
          have HQ5 := Lib.hid (HQ4.out.keep k5 (by omega))
          replace kk := turn_trans kk k5 (by omega)
          clear k5
          go_wp2_with fail
          refine (interpolate_own _ (refR l r) 0 _ HQ5.out.seen (HTB.out _ kk).1 (HTB.out _ kk).2).mono ?_
          rintro e y6 ⟨rfl, k6⟩
          rw [HI2.out, HI3.out]
          replace kk := turn_trans kk k6 (by omega)
          generalize intR l 0 = xl at *
          have hne2 : ((xl.toNat : Int) != (xl.toNat : Int)) = false := by simp
          clear k6 HI1 HI2 HI3 HQ5
          go_wp2_with fail
          refine (drawIsShared_any _ m0 _ (HU.out.touch kk)).mono ?_
          rintro e x1 ⟨vm, m, k, rfl, hlm, om, k1⟩
          have zz2 := kk.size
          replace kk := turn_trans kk k1 (by omega)
          clear k1 hlm
          go_wp2_with fail
          refine (isShared_own _ m k _ om.seen (HTB.out _ kk).1 (HTB.out _ kk).2).mono ?_
          rintro e x2 ⟨rfl, k2⟩
          replace om := om.keep k2 (by omega)
          replace kk := turn_trans kk k2 (by omega)
          clear k2
          go_wp2_with fail
          refine (sIsShared_own _ m k _ om.seen).mono ?_
          rintro e x3 ⟨rfl, k3⟩
          replace om := om.keep k3 (by omega)
          replace kk := turn_trans kk k3 (by omega)
          clear k3
          go_wp2_with fail
          refine (openSecret_own _ m k _ om.seen (HTB.out _ kk).1 (HTB.out _ kk).2).mono ?_
          rintro e x4 ⟨rfl, k4⟩
          replace om := om.keep k4 (by omega)
          replace kk := turn_trans kk k4 (by omega)
          clear k4
          go_wp2_with fail
          refine (sOpenSecret_own _ m k _ om.seen).mono ?_
          rintro e x5 ⟨rfl, k5⟩
          replace kk := turn_trans kk k5 (by omega)
          clear k5 om
          generalize isSR m k = q1 at *
          generalize isSOk m k = q2 at *
          generalize opnR m k = q3 at *
          generalize opnOk m k = q4 at *
          have hq1 : (q1 == q1) = true := by simp
          have hq2 : (q2 == q2) = true := by simp
          have hq3 : ((q3.toNat : Int) == (q3.toNat : Int)) = true := by simp
          have hq4 : (q4 == q4) = true := by simp
          go_wp2_with fail
          go_ret
          exact ⟨rfl, kk.to_below⟩
        · have hli2 : ¬ (r.length : Int) < (l.length : Int) := by omega
          go_wp2_with fail
          refine (drawIsShared_any _ m0 _ (HU.out.touch kk)).mono ?_
          rintro e x1 ⟨vm, m, k, rfl, hlm, om, k1⟩
          have zz2 := kk.size
          replace kk := turn_trans kk k1 (by omega)
          clear k1 hlm
          go_wp2_with fail
          refine (isShared_own _ m k _ om.seen (HTB.out _ kk).1 (HTB.out _ kk).2).mono ?_
          rintro e x2 ⟨rfl, k2⟩
          replace om := om.keep k2 (by omega)
          replace kk := turn_trans kk k2 (by omega)
          clear k2
          go_wp2_with fail
          refine (sIsShared_own _ m k _ om.seen).mono ?_
          rintro e x3 ⟨rfl, k3⟩
          replace om := om.keep k3 (by omega)
          replace kk := turn_trans kk k3 (by omega)
          clear k3
          go_wp2_with fail
          refine (openSecret_own _ m k _ om.seen (HTB.out _ kk).1 (HTB.out _ kk).2).mono ?_
          rintro e x4 ⟨rfl, k4⟩
          replace om := om.keep k4 (by omega)
          replace kk := turn_trans kk k4 (by omega)
          clear k4
          go_wp2_with fail
          refine (sOpenSecret_own _ m k _ om.seen).mono ?_
          rintro e x5 ⟨rfl, k5⟩
          replace kk := turn_trans kk k5 (by omega)
          clear k5 om
          generalize isSR m k = q1 at *
          generalize isSOk m k = q2 at *
          generalize opnR m k = q3 at *
          generalize opnOk m k = q4 at *
          have hq1 : (q1 == q1) = true := by simp
          have hq2 : (q2 == q2) = true := by simp
          have hq3 : ((q3.toNat : Int) == (q3.toNat : Int)) = true := by simp
          have hq4 : (q4 == q4) = true := by simp
          go_wp2_with fail
          go_ret
          exact ⟨rfl, kk.to_below⟩
    · have hli : ¬ (0 : Int) < (a.length : Int) := by omega
      go_wp2_with fail
      refine (drawRefresh_any _ m0 _ (HU.out.touch kk)).mono ?_
      rintro e y1 ⟨vl, vr, l, r, rfl, hll, hlr, ol, orr, k1⟩
      obtain ⟨Al, cl, rfl⟩ := ol.seen.len
      obtain ⟨Ar, cr, hvr⟩ := orr.seen.len
      rw [bys_length] at hvr
      subst hvr
      have zz1 := kk.size
      replace kk := turn_trans kk k1 (by omega)
      have HIR := Lib.hid (@int_ref l r)
      clear k1 hll hlr
      go_wp2_with fail
      refine (refreshShares_own _ _ l r _ ol.seen orr.seen (HTB.out _ kk).1 (HTB.out _ kk).2).mono ?_
      rintro e y2 ⟨vq, rfl, oq, k2⟩
      replace ol := ol.keep k2 (by omega)
      replace orr := orr.keep k2 (by omega)
      replace kk := turn_trans kk k2 (by omega)
      clear k2
      go_wp2_with fail
      refine (sRefreshShares_own _ _ l r _ ol.seen orr.seen).mono ?_
      rintro e y3 ⟨vq2, rfl, oq2, k3⟩
      replace ol := ol.keep k3 (by omega)
      replace oq := oq.keep k3 (by omega)
      replace kk := turn_trans kk k3 (by omega)
      clear k3 orr
      obtain ⟨ok2, hok2⟩ : ∃ ok2, ok2 = refOk l r := ⟨_, rfl⟩
      rw [← hok2]
      have HOK2 := Lib.hid hok2
      have hoo2 : (ok2 != ok2) = false := by simp
      clear hok2
      go_wp2_with fail
      refine (sameShares_same _ _ (refR l r) _ oq.seen oq2.seen).mono ?_
      rintro e y4 ⟨rfl, k4⟩
      have HL4 := Lib.hid (ol.keep k4 (by omega))
      have HQ4 := Lib.hid (oq.keep k4 (by omega))
      replace kk := turn_trans kk k4 (by omega)
      clear k4 ol oq oq2
      cases ok2
      · go_wp2_with fail
        refine (drawIsShared_any _ m0 _ (HU.out.touch kk)).mono ?_
        rintro e x1 ⟨vm, m, k, rfl, hlm, om, k1⟩
        have zz2 := kk.size
        replace kk := turn_trans kk k1 (by omega)
        clear k1 hlm
        go_wp2_with fail
        refine (isShared_own _ m k _ om.seen (HTB.out _ kk).1 (HTB.out _ kk).2).mono ?_
        rintro e x2 ⟨rfl, k2⟩
        replace om := om.keep k2 (by omega)
        replace kk := turn_trans kk k2 (by omega)
        clear k2
        go_wp2_with fail
        refine (sIsShared_own _ m k _ om.seen).mono ?_
        rintro e x3 ⟨rfl, k3⟩
        replace om := om.keep k3 (by omega)
        replace kk := turn_trans kk k3 (by omega)
        clear k3
        go_wp2_with fail
        refine (openSecret_own _ m k _ om.seen (HTB.out _ kk).1 (HTB.out _ kk).2).mono ?_
        rintro e x4 ⟨rfl, k4⟩
        replace om := om.keep k4 (by omega)
        replace kk := turn_trans kk k4 (by omega)
        clear k4
        go_wp2_with fail
        refine (sOpenSecret_own _ m k _ om.seen).mono ?_
        rintro e x5 ⟨rfl, k5⟩
        replace kk := turn_trans kk k5 (by omega)
        clear k5 om
        generalize isSR m k = q1 at *
        generalize isSOk m k = q2 at *
        generalize opnR m k = q3 at *
        generalize opnOk m k = q4 at *
        have hq1 : (q1 == q1) = true := by simp
        have hq2 : (q2 == q2) = true := by simp
        have hq3 : ((q3.toNat : Int) == (q3.toNat : Int)) = true := by simp
        have hq4 : (q4 == q4) = true := by simp
        go_wp2_with fail
        go_ret
        exact ⟨rfl, kk.to_below⟩
      · by_cases hlen2 : r.length < l.length
        · obtain ⟨i1, i2, i3⟩ := HIR.out HOK2.out.symm hlen2
          have HI1 := Lib.hid i1
          have HI2 := Lib.hid i2
          have HI3 := Lib.hid i3
          have hli2 : (r.length : Int) < (l.length : Int) := by omega
          clear i1 i2 i3
          go_wp2_with fail
          refine (interpolate_own _ l 0 _ HL4.out.seen (HTB.out _ kk).1 (HTB.out _ kk).2).mono ?_
          rintro e y5 ⟨rfl, k5⟩
          rw [HI1.out]
          have HQ5 := Lib.hid (HQ4.out.keep k5 (by omega))
          replace kk := turn_trans kk k5 (by omega)
          clear k5
          go_wp2_with fail
          refine (interpolate_own _ (refR l r) 0 _ HQ5.out.seen (HTB.out _ kk).1 (HTB.out _ kk).2).mono ?_
          rintro e y6 ⟨rfl, k6⟩
          rw [HI2.out, HI3.out]
          replace kk := turn_trans kk k6 (by omega)
          generalize intR l 0 = xl at *
          have hne2 : ((xl.toNat : Int) != (xl.toNat : Int)) = false := by simp
          clear k6 HI1 HI2 HI3 HQ5
          go_wp2_with fail
          refine (drawIsShared_any _ m0 _ (HU.out.touch kk)).mono ?_
          rintro e x1 ⟨vm, m, k, rfl, hlm, om, k1⟩
          have zz2 := kk.size
          replace kk := turn_trans kk k1 (by omega)
          clear k1 hlm
          go_wp2_with fail
          refine (isShared_own _ m k _ om.seen (HTB.out _ kk).1 (HTB.out _ kk).2).mono ?_
          rintro e x2 ⟨rfl, k2⟩
          replace om := om.keep k2 (by omega)
          replace kk := turn_trans kk k2 (by omega)
          clear k2
          go_wp2_with fail
          refine (sIsShared_own _ m k _ om.seen).mono ?_
          rintro e x3 ⟨rfl, k3⟩
          replace om := om.keep k3 (by omega)
          replace kk := turn_trans kk k3 (by omega)
          clear k3
          go_wp2_with fail
          refine (openSecret_own _ m k _ om.seen (HTB.out _ kk).1 (HTB.out _ kk).2).mono ?_
          rintro e x4 ⟨rfl, k4⟩
          replace om := om.keep k4 (by omega)
          replace kk := turn_trans kk k4 (by omega)
          clear k4
          go_wp2_with fail
          refine (sOpenSecret_own _ m k _ om.seen).mono ?_
          rintro e x5 ⟨rfl, k5⟩
          replace kk := turn_trans kk k5 (by omega)
          clear k5 om
          generalize isSR m k = q1 at *
          generalize isSOk m k = q2 at *
          generalize opnR m k = q3 at *
          generalize opnOk m k = q4 at *
          have hq1 : (q1 == q1) = true := by simp
          have hq2 : (q2 == q2) = true := by simp
          have hq3 : ((q3.toNat : Int) == (q3.toNat : Int)) = true := by simp
          have hq4 : (q4 == q4) = true := by simp
          go_wp2_with fail
          go_ret
          exact ⟨rfl, kk.to_below⟩
        · have hli2 : ¬ (r.length : Int) < (l.length : Int) := by omega
          go_wp2_with fail
          refine (drawIsShared_any _ m0 _ (HU.out.touch kk)).mono ?_
          rintro e x1 ⟨vm, m, k, rfl, hlm, om, k1⟩
          have zz2 := kk.size
          replace kk := turn_trans kk k1 (by omega)
          clear k1 hlm
          go_wp2_with fail
          refine (isShared_own _ m k _ om.seen (HTB.out _ kk).1 (HTB.out _ kk).2).mono ?_
          rintro e x2 ⟨rfl, k2⟩
          replace om := om.keep k2 (by omega)
          replace kk := turn_trans kk k2 (by omega)
          clear k2
          go_wp2_with fail
          refine (sIsShared_own _ m k _ om.seen).mono ?_
          rintro e x3 ⟨rfl, k3⟩
          replace om := om.keep k3 (by omega)
          replace kk := turn_trans kk k3 (by omega)
          clear k3
          go_wp2_with fail
          refine (openSecret_own _ m k _ om.seen (HTB.out _ kk).1 (HTB.out _ kk).2).mono ?_
          rintro e x4 ⟨rfl, k4⟩
          replace om := om.keep k4 (by omega)
          replace kk := turn_trans kk k4 (by omega)
          clear k4
          go_wp2_with fail
          refine (sOpenSecret_own _ m k _ om.seen).mono ?_
          rintro e x5 ⟨rfl, k5⟩
          replace kk := turn_trans kk k5 (by omega)
          clear k5 om
          generalize isSR m k = q1 at *
          generalize isSOk m k = q2 at *
          generalize opnR m k = q3 at *
          generalize opnOk m k = q4 at *
          have hq1 : (q1 == q1) = true := by simp
          have hq2 : (q2 == q2) = true := by simp
          have hq3 : ((q3.toNat : Int) == (q3.toNat : Int)) = true := by simp
          have hq4 : (q4 == q4) = true := by simp
          go_wp2_with fail
          go_ret
          exact ⟨rfl, kk.to_below⟩

set_option maxRecDepth 100000 in
theorem walk_FnShares : G294.LawWalk Tryd.prog 7 Tryd.f7 Rows.fnSharesSpec.vars false (fun W => laidMetH Tryd.prog Rows.fnSharesRow.laid W) := by
  intro H enc W base args ds gs before hval hW hX
  have hlt0 : ∀ p ∈ before, p.block < W.heap.size := fun p hp => hW.lt p hp
  obtain ⟨p, q, hA, hV, rfl, hfz, hnd⟩ := hW
  rw [Tryd.params7] at hA hval
  obtain ⟨u0, u1, d0, d1, p0, p1, rfl, rfl, rfl, t0, t1⟩ := trodAll_two hA
  obtain ⟨l0, sn0⟩ := seen_bytes Tryd.underlying22 Tryd.underlying5 (by kernel_rfl) (hval 0 22 u0 rfl rfl) t0 (fun x hx => hlt0 x (by simp [hx]))
  obtain ⟨l1, sn1⟩ := seen_bytes Tryd.underlying22 Tryd.underlying5 (by kernel_rfl) (hval 1 22 u1 rfl rfl) t1 (fun x hx => hlt0 x (by simp [hx]))
  obtain ⟨ht, hs⟩ := tab_of (by kernel_rfl) hX 0 rfl (by kernel_rfl)
  exact shares_walk u0 u1 l0 l1 W sn0 sn1 ht hs

end Go.Proofs.YtgbhcjfnkjhkiaaDoor
