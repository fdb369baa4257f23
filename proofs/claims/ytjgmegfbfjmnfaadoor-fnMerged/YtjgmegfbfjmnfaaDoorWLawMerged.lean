/- The walk of FnMerged. -/
import Derived.Test.YtjgmegfbfjmnfaaDoorRows
import Derived.Test.YtjgmegfbfjmnfaaDoorBd00
import Derived.Test.YtjgmegfbfjmnfaaDoorBd18
import Derived.Test.YtjgmegfbfjmnfaaDoorBd21
import Derived.Test.YtjgmegfbfjmnfaaDoorBd01
import Derived.Test.YtjgmegfbfjmnfaaDoorBd22
import Derived.Test.YtjgmegfbfjmnfaaDoorBd23
import Derived.Test.YtjgmegfbfjmnfaaDoorBd17
import Derived.Test.YtjgmegfbfjmnfaaDoorBd24
import Derived.Test.YtjgmegfbfjmnfaaDoorBd16
import Derived.Test.YtjgmegfbfjmnfaaDoorBd15
import Derived.Test.YtjgmegfbfjmnfaaDoorBd25
import Derived.Test.YtjgmegfbfjmnfaaDoorBd26
import Derived.Deep.RegionHeld3
import Derived.Deep.CutRange
set_option linter.unusedSimpArgs false
set_option linter.unusedVariables false
namespace G294
open Go Go.RowKit
/-- a stripe in a variable -/
structure TB (w : World) (B : Nat) (x y : Value) (s : Strp) : Prop where
  c0 : w.cell? ⟨B, 0, none⟩ = some x
  c1 : w.cell? ⟨B, 1, none⟩ = some y
  lt : B < w.heap.size
  sx : Seen w x (strs s.1)
  sy : Seen w y (strs s.2)
theorem TB.keep {w w' : World} {B : Nat} {x y : Value} {s : Strp} (h : TB w B x y s) (t : TurnIn 0 0 w w') : TB w' B x y s := ⟨cell_keepT h.c0 h.lt t (by omega), cell_keepT h.c1 h.lt t (by omega), Nat.lt_of_lt_of_le h.lt t.size, h.sx.touch t, h.sy.touch t⟩
theorem tb_new {w : World} {x y : Value} {s : Strp} (T : TypeId) (hx : Seen w x (strs s.1)) (hy : Seen w y (strs s.2)) : TB (w.alloc (.cells #[x, y] T)) w.heap.size x y s :=
  ⟨alloc_duo0 _ _ _ _, alloc_duo1 _ _ _ _, by simp, hx.touch (turn_alloc w _), hy.touch (turn_alloc w _)⟩
theorem merged_all {a b : Strp} (h : mrgOk a b = true) (ha : rightR a = true) (hb : rightR b = true) : strpOk (mrgR a b) = true ∧ rightR (mrgR a b) = true ∧ mkOk (a.1 ++ b.1) (a.2.length : Int) = true ∧ mkR (a.1 ++ b.1) (a.2.length : Int) = mrgR a b := by
  obtain ⟨h1, h2, h3, h4, h5⟩ := mrgOk_b h
  have hok : strpOk (mrgS a b) = true := by rw [mrg_spec h1 h2 h4]; simpa using h5
  obtain ⟨m1, m2⟩ := merged_right h ha hb
  exact ⟨by rw [mrgR_yes h]; exact hok, m1, by have := strp_make hok; simpa [mrgS] using this, m2⟩
theorem added_all {a b : Strp} (h : sadOk a b = true) (ha : rightR a = true) : strpOk (sadR a b) = true ∧ rightR (sadR a b) = rightR b := ⟨by rw [sadR_yes h]; exact added_ok h, added_right h ha⟩
/-- the made stripe in its box -/
def SB (w0 : World) (S : Strp) (ok : Bool) (p b : Value) (W : World) : Prop := ∃ B A n c A' n' c', p = .pointer (some ⟨B, 0, none⟩) ∧ b = .bool ok ∧ TB W B (.slice A n c) (.slice A' n' c') S ∧ TurnIn 0 0 w0 W
end G294
namespace Go.Proofs.YtjgmegfbfjmnfaaDoor
open Go.ChangeShapes Go.WideShapes Go.ChangeAt Go.RowKit G294

set_option maxRecDepth 100000 in
set_option maxHeartbeats 16000000 in
theorem merged_walk (v u : Value) (l0 m0 : List UInt8) (w : World) (hv : Seen w v (bys l0)) (hu : Seen w u (bys m0)) (ht : Tab w) (h0 : 0 < w.heap.size) :
    Calls Tryd.prog 3 #[v, u] w fun e w' => e = .returned (.bool true) ∧ Below w.heap.size w w' := by
  have HV := Lib.hid hv
  have HU := Lib.hid hu
  obtain ⟨A, c, rfl, hlc, hcm, hx⟩ := hv
  obtain ⟨A', c', rfl, hlc', hcm', hx'⟩ := hu
  rw [bys_length] at hlc hlc' HV HU
  simp only [bys_length]
  clear hx hx'
  unfold maxLen at hcm hcm'
  generalize l0.length = m1 at *
  generalize m0.length = m2 at *
  have HTB : Hid (∀ W, TurnIn 0 0 w W → Tab W ∧ 0 < W.heap.size) := fun W h => ⟨ht.below h.to_below h0, by have := h.size; omega⟩
  clear ht
  by_cases hbig : 1048576 < wrap64 ((m1 : Int) + (m2 : Int))
  · go_enter Tryd.func3, Tryd.ntmps3
    go_wp2_with fail
    go_ret
    exact ⟨rfl, Below.refl _ _⟩
  go_enter Tryd.func3, Tryd.ntmps3
  go_wp2_with fail
  refine (drawMergeStripes_any _ l0 _ HV.out).mono ?_
  rintro e w1 ⟨xa, ya, xb, yb, s, t, rfl, hxa, hya, hxb, hyb, k1⟩
  obtain ⟨Aa, ca, hxx⟩ := hxa.len
  obtain ⟨Ba, da, hyy⟩ := hya.len
  obtain ⟨Ab, cb, hzz⟩ := hxb.len
  obtain ⟨Bb, db, huu⟩ := hyb.len
  rw [strs_length] at hxx hyy hzz huu
  obtain ⟨na, hna⟩ : ∃ n, n = s.1.length := ⟨_, rfl⟩
  obtain ⟨ma, hma⟩ : ∃ n, n = s.2.length := ⟨_, rfl⟩
  obtain ⟨nb, hnb⟩ : ∃ n, n = t.1.length := ⟨_, rfl⟩
  obtain ⟨mb, hmb⟩ : ∃ n, n = t.2.length := ⟨_, rfl⟩
  have HNA : Hid (s.1.length = na) := hna.symm
  have HMA : Hid (s.2.length = ma) := hma.symm
  have HNB : Hid (t.1.length = nb) := hnb.symm
  rw [← hna] at hxx
  rw [← hma] at hyy
  rw [← hnb] at hzz
  rw [← hmb] at huu
  subst hxx hyy hzz huu
  clear hna hma hnb hmb
  have HA := Lib.hid (tb_new 25 hxa hya)
  have ka := turn_alloc w1 (.cells #[.slice Aa na ca, .slice Ba ma da] 25)
  have HB := Lib.hid (tb_new 25 (hxb.touch ka) (hyb.touch ka))
  have kb := turn_alloc (w1.alloc (.cells #[.slice Aa na ca, .slice Ba ma da] 25)) (.cells #[.slice Ab nb cb, .slice Bb mb db] 25)
  replace HA := Lib.hid (HA.out.keep kb)
  rw [World.size_alloc] at HB
  have kk := turn_trans (turn_trans k1 ka (by omega)) kb (by omega)
  clear hxa hya hxb hyb k1 ka kb
  have HMG : Hid (mrgOk s t = true → strpOk s = true ∧ strpOk t = true) := fun h => by obtain ⟨h1, h2, _⟩ := mrgOk_b h; exact ⟨h1, h2⟩
  have HSD : Hid (sadOk s t = true → strpOk s = true ∧ strpOk t = true) := fun h => by obtain ⟨h1, h2, _⟩ := sadOk_b h; exact ⟨h1, h2⟩
  have HME : Hid (mrgOk s t = true → rightR s = true → rightR t = true → strpOk (mrgR s t) = true ∧ rightR (mrgR s t) = true ∧ mkOk (s.1 ++ t.1) (s.2.length : Int) = true ∧ mkR (s.1 ++ t.1) (s.2.length : Int) = mrgR s t) := fun h1 h2 h3 => merged_all h1 h2 h3
  have HSE : Hid (sadOk s t = true → rightR s = true → strpOk (sadR s t) = true ∧ rightR (sadR s t) = rightR t) := fun h1 h2 => added_all h1 h2
  have HLN : Hid (strpOk s = true → strpOk t = true → (1 ≤ na ∧ na ≤ 16) ∧ (1 ≤ nb ∧ nb ≤ 16) ∧ 1 ≤ ma) := fun h1 h2 => by
    obtain ⟨p1, p2, _⟩ := strpOk_b h1
    obtain ⟨p3, _, _⟩ := strpOk_b h2
    rw [HNA.out] at p1
    rw [HMA.out] at p2
    rw [HNB.out] at p3
    exact ⟨p1, p3, p2.1⟩
  rw [HMA.out] at HME
  have b0 := HA.out.c0
  have b1 := HA.out.c1
  have b2 := HB.out.c0
  have b3 := HB.out.c1
  go_wp2_with fail
  generalize ((w1.alloc (.cells #[.slice Aa na ca, .slice Ba ma da] 25)).alloc (.cells #[.slice Ab nb cb, .slice Bb mb db] 25)) = w2 at *
  generalize hB1 : w1.heap.size = B1 at *
  clear hB1
  refine (mergeStripes_own _ _ _ _ s t _ HA.out.sx HA.out.sy HB.out.sx HB.out.sy (HTB.out _ kk).1 (HTB.out _ kk).2).mono ?_
  rintro e wn3 ⟨x3, y3, rfl, o3, k3⟩
  obtain ⟨S3, s3, p3, T3, t3, r3, rfl, rfl⟩ := o3.isSlice
  have HM := Lib.hid (tb_new 25 o3.seen1 o3.seen2)
  have ka := turn_alloc wn3 (.cells #[.slice S3 s3 p3, .slice T3 t3 r3] 25)
  have kb := turn_trans k3 ka (by omega)
  replace kk := turn_trans kk kb (by omega)
  replace HA := Lib.hid (HA.out.keep kb)
  replace HB := Lib.hid (HB.out.keep kb)
  clear o3 k3 ka kb b0 b1 b2 b3
  have b0 := HA.out.c0
  have b1 := HA.out.c1
  have b2 := HB.out.c0
  have b3 := HB.out.c1
  go_wp2_with fail
  generalize (wn3.alloc (.cells #[.slice S3 s3 p3, .slice T3 t3 r3] 25)) = wm3 at *
  generalize wn3.heap.size = C3 at *
  refine (sMergeStripes_own _ _ _ _ s t _ HA.out.sx HA.out.sy HB.out.sx HB.out.sy).mono ?_
  rintro e wn4 ⟨x4, y4, rfl, o4, k4⟩
  obtain ⟨S4, s4, p4, T4, t4, r4, rfl, rfl⟩ := o4.isSlice
  have HN := Lib.hid (tb_new 25 o4.seen1 o4.seen2)
  have ka := turn_alloc wn4 (.cells #[.slice S4 s4 p4, .slice T4 t4 r4] 25)
  have kb := turn_trans k4 ka (by omega)
  replace kk := turn_trans kk kb (by omega)
  replace HA := Lib.hid (HA.out.keep kb)
  replace HB := Lib.hid (HB.out.keep kb)
  replace HM := Lib.hid (HM.out.keep kb)
  clear o4 k4 ka kb b0 b1 b2 b3
  have b0 := HA.out.c0
  have b1 := HA.out.c1
  have b2 := HB.out.c0
  have b3 := HB.out.c1
  go_wp2_with fail
  generalize (wn4.alloc (.cells #[.slice S4 s4 p4, .slice T4 t4 r4] 25)) = wm4 at *
  generalize wn4.heap.size = C4 at *
  refine (addStripes_own _ _ _ _ s t _ HA.out.sx HA.out.sy HB.out.sx HB.out.sy (HTB.out _ kk).1 (HTB.out _ kk).2).mono ?_
  rintro e wn5 ⟨x5, y5, rfl, o5, k5⟩
  obtain ⟨S5, s5, p5, T5, t5, r5, rfl, rfl⟩ := o5.isSlice
  have HD := Lib.hid (tb_new 25 o5.seen1 o5.seen2)
  have ka := turn_alloc wn5 (.cells #[.slice S5 s5 p5, .slice T5 t5 r5] 25)
  have kb := turn_trans k5 ka (by omega)
  replace kk := turn_trans kk kb (by omega)
  replace HA := Lib.hid (HA.out.keep kb)
  replace HB := Lib.hid (HB.out.keep kb)
  replace HM := Lib.hid (HM.out.keep kb)
  replace HN := Lib.hid (HN.out.keep kb)
  clear o5 k5 ka kb b0 b1 b2 b3
  have b0 := HA.out.c0
  have b1 := HA.out.c1
  have b2 := HB.out.c0
  have b3 := HB.out.c1
  go_wp2_with fail
  generalize (wn5.alloc (.cells #[.slice S5 s5 p5, .slice T5 t5 r5] 25)) = wm5 at *
  generalize wn5.heap.size = C5 at *
  refine (sAddStripes_own _ _ _ _ s t _ HA.out.sx HA.out.sy HB.out.sx HB.out.sy).mono ?_
  rintro e wn6 ⟨x6, y6, rfl, o6, k6⟩
  obtain ⟨S6, s6, p6, T6, t6, r6, rfl, rfl⟩ := o6.isSlice
  have HE := Lib.hid (tb_new 25 o6.seen1 o6.seen2)
  have ka := turn_alloc wn6 (.cells #[.slice S6 s6 p6, .slice T6 t6 r6] 25)
  have kb := turn_trans k6 ka (by omega)
  replace kk := turn_trans kk kb (by omega)
  replace HA := Lib.hid (HA.out.keep kb)
  replace HB := Lib.hid (HB.out.keep kb)
  replace HM := Lib.hid (HM.out.keep kb)
  replace HN := Lib.hid (HN.out.keep kb)
  replace HD := Lib.hid (HD.out.keep kb)
  clear o6 k6 ka kb b0 b1 b2 b3
  have b0 := HA.out.c0
  have b1 := HA.out.c1
  go_wp2_with fail
  generalize (wn6.alloc (.cells #[.slice S6 s6 p6, .slice T6 t6 r6] 25)) = wm6 at *
  generalize wn6.heap.size = C6 at *
  refine (isRight_any _ _ s _ HA.out.sx HA.out.sy (HTB.out _ kk).1 (HTB.out _ kk).2).mono ?_
  rintro e w7 ⟨rfl, kq⟩
  replace kk := turn_trans kk kq (by omega)
  replace HA := Lib.hid (HA.out.keep kq)
  replace HB := Lib.hid (HB.out.keep kq)
  replace HM := Lib.hid (HM.out.keep kq)
  replace HN := Lib.hid (HN.out.keep kq)
  replace HD := Lib.hid (HD.out.keep kq)
  replace HE := Lib.hid (HE.out.keep kq)
  clear kq b0 b1
  have b2 := HB.out.c0
  have b3 := HB.out.c1
  go_wp2_with fail
  refine (isRight_any _ _ t _ HB.out.sx HB.out.sy (HTB.out _ kk).1 (HTB.out _ kk).2).mono ?_
  rintro e w8 ⟨rfl, kq⟩
  replace kk := turn_trans kk kq (by omega)
  replace HA := Lib.hid (HA.out.keep kq)
  replace HB := Lib.hid (HB.out.keep kq)
  replace HM := Lib.hid (HM.out.keep kq)
  replace HN := Lib.hid (HN.out.keep kq)
  replace HD := Lib.hid (HD.out.keep kq)
  replace HE := Lib.hid (HE.out.keep kq)
  clear kq b2 b3
  have b0 := HA.out.c0
  have b1 := HA.out.c1
  go_wp2_with fail
  refine (sIsRight_any _ _ s _ HA.out.sx HA.out.sy).mono ?_
  rintro e w9 ⟨rfl, kq⟩
  replace kk := turn_trans kk kq (by omega)
  replace HA := Lib.hid (HA.out.keep kq)
  replace HB := Lib.hid (HB.out.keep kq)
  replace HM := Lib.hid (HM.out.keep kq)
  replace HN := Lib.hid (HN.out.keep kq)
  replace HD := Lib.hid (HD.out.keep kq)
  replace HE := Lib.hid (HE.out.keep kq)
  clear kq b0 b1
  have HPT : Hid (Calls Tryd.prog 13 #[.agg #[.slice Aa na ca, .slice Ba ma da]] w9 (RetBool w9 (strpOk s))) := goodStripe_any _ _ s _ HA.out.sx HA.out.sy
  clear HPT
  have HGS : Hid (∀ W, TurnIn 0 0 w9 W → Calls Tryd.prog 13 #[.agg #[.slice Aa na ca, .slice Ba ma da]] W (RetBool W (strpOk s))) := fun W h => goodStripe_any _ _ s _ (HA.out.sx.touch h) (HA.out.sy.touch h)
  generalize mrgOk s t = mo at *
  generalize sadOk s t = so at *
  generalize strpOk s = p at *
  generalize strpOk t = p2 at *
  generalize rightR s = r1 at *
  generalize rightR t = r2 at *
  generalize mrgR s t = qm2 at *
  generalize sadR s t = qa at *
  have h1 : (mo != mo) = false := by simp
  have h2 : (so != so) = false := by simp
  have h3 : (p != p) = false := by simp
  have h4 : (r1 != r1) = false := by simp
  have hz : TurnIn 0 0 w9 w9 := TurnIn.refl _
  have d0 := HM.out.c0
  have d1 := HM.out.c1
  have e0 := HN.out.c0
  have e1 := HN.out.c1
  go_wp2_with fail
  refine (sameStripes_same _ _ _ _ qm2 _ HM.out.sx HM.out.sy HN.out.sx HN.out.sy).mono ?_
  rintro e w10 ⟨rfl, kq⟩
  replace kk := turn_trans kk kq (by omega)
  replace hz := turn_trans hz kq (by omega)
  clear d0 d1 e0 e1 HN
  replace HA := Lib.hid (HA.out.keep kq)
  replace HB := Lib.hid (HB.out.keep kq)
  replace HM := Lib.hid (HM.out.keep kq)
  replace HD := Lib.hid (HD.out.keep kq)
  replace HE := Lib.hid (HE.out.keep kq)
  clear kq
  have d0 := HD.out.c0
  have d1 := HD.out.c1
  have e0 := HE.out.c0
  have e1 := HE.out.c1
  go_wp2_with fail
  refine (sameStripes_same _ _ _ _ qa _ HD.out.sx HD.out.sy HE.out.sx HE.out.sy).mono ?_
  rintro e w11 ⟨rfl, kq⟩
  replace kk := turn_trans kk kq (by omega)
  replace hz := turn_trans hz kq (by omega)
  clear d0 d1 e0 e1 HE
  replace HA := Lib.hid (HA.out.keep kq)
  replace HB := Lib.hid (HB.out.keep kq)
  replace HM := Lib.hid (HM.out.keep kq)
  replace HD := Lib.hid (HD.out.keep kq)
  clear kq
  have b0 := HA.out.c0
  have b1 := HA.out.c1
  go_wp2_with fail
  refine (HGS.out _ hz).mono ?_
  rintro e w12 ⟨rfl, kq⟩
  replace kk := turn_trans kk kq (by omega)
  clear b0 b1 hz HGS
  replace HA := Lib.hid (HA.out.keep kq)
  replace HB := Lib.hid (HB.out.keep kq)
  replace HM := Lib.hid (HM.out.keep kq)
  replace HD := Lib.hid (HD.out.keep kq)
  clear kq
  cases mo
  · cases so
    · go_wp2_with fail
      refine (drawParityMatrix_any _ m0 _ (HU.out.touch kk)).mono ?_
      rintro e v1 ⟨kp, pp, rfl, _, _, g1⟩
      replace kk := turn_trans kk g1 (by omega)
      clear g1
      go_wp2_with fail
      refine (parityMatrix_own kp pp _ (HTB.out _ kk).1 (HTB.out _ kk).2).mono ?_
      rintro e v2 ⟨x2m, vs2, rfl, om2, g2⟩
      obtain ⟨Am, nm, cm, rfl⟩ := om2.isSlice
      have ga := turn_alloc v2 (.cells #[.slice Am nm cm] 39)
      have HP2 := Lib.hid (om2.seen.touch ga)
      have HC2 : Hid ((v2.alloc (.cells #[.slice Am nm cm] 39)).cell? ⟨v2.heap.size, 0, none⟩ = some (.slice Am nm cm) ∧ v2.heap.size < (v2.alloc (.cells #[.slice Am nm cm] 39)).heap.size) := Lib.hid ⟨alloc_cell _ _ _, alloc_lt _ _⟩
      replace kk := turn_trans kk (turn_trans g2 ga (by omega)) (by omega)
      clear om2 g2 ga
      go_wp2_with fail
      generalize (v2.alloc (.cells #[.slice Am nm cm] 39)) = v3 at *
      generalize v2.heap.size = D2 at *
      refine (sParityMatrix_own kp pp _).mono ?_
      rintro e v4 ⟨x4m, vs4, rfl, om4, g4⟩
      obtain ⟨An, nn, cn, rfl⟩ := om4.isSlice
      have ga := turn_alloc v4 (.cells #[.slice An nn cn] 39)
      have gb := turn_trans g4 ga (by omega)
      have HP4 := Lib.hid (om4.seen.touch ga)
      have HP2b := Lib.hid (HP2.out.touch gb)
      have d0 := cell_turn gb HC2.out.1 HC2.out.2
      have d1 := alloc_cell v4 (.slice An nn cn) 39
      replace kk := turn_trans kk gb (by omega)
      clear om4 g4 ga gb HC2 HP2
      generalize prmOk kp pp = qm at *
      generalize prmR kp pp = LM at *
      have hqq : (qm == qm) = true := by simp
      go_wp2_with fail
      generalize (v4.alloc (.cells #[.slice An nn cn] 39)) = v5 at *
      refine (sameMatrices_eq _ _ LM _ HP2b.out HP4.out).mono ?_
      rintro e v6 ⟨rfl, g6⟩
      replace kk := turn_trans kk g6 (by omega)
      go_wp2_with fail
      go_ret
      exact ⟨by first | rfl | simp, kk.to_below⟩
    · obtain ⟨e1, e2⟩ := HSD.out rfl
      subst e1
      subst e2
      cases r1
      · go_wp2_with fail
        refine (drawParityMatrix_any _ m0 _ (HU.out.touch kk)).mono ?_
        rintro e v1 ⟨kp, pp, rfl, _, _, g1⟩
        replace kk := turn_trans kk g1 (by omega)
        clear g1
        go_wp2_with fail
        refine (parityMatrix_own kp pp _ (HTB.out _ kk).1 (HTB.out _ kk).2).mono ?_
        rintro e v2 ⟨x2m, vs2, rfl, om2, g2⟩
        obtain ⟨Am, nm, cm, rfl⟩ := om2.isSlice
        have ga := turn_alloc v2 (.cells #[.slice Am nm cm] 39)
        have HP2 := Lib.hid (om2.seen.touch ga)
        have HC2 : Hid ((v2.alloc (.cells #[.slice Am nm cm] 39)).cell? ⟨v2.heap.size, 0, none⟩ = some (.slice Am nm cm) ∧ v2.heap.size < (v2.alloc (.cells #[.slice Am nm cm] 39)).heap.size) := Lib.hid ⟨alloc_cell _ _ _, alloc_lt _ _⟩
        replace kk := turn_trans kk (turn_trans g2 ga (by omega)) (by omega)
        clear om2 g2 ga
        go_wp2_with fail
        generalize (v2.alloc (.cells #[.slice Am nm cm] 39)) = v3 at *
        generalize v2.heap.size = D2 at *
        refine (sParityMatrix_own kp pp _).mono ?_
        rintro e v4 ⟨x4m, vs4, rfl, om4, g4⟩
        obtain ⟨An, nn, cn, rfl⟩ := om4.isSlice
        have ga := turn_alloc v4 (.cells #[.slice An nn cn] 39)
        have gb := turn_trans g4 ga (by omega)
        have HP4 := Lib.hid (om4.seen.touch ga)
        have HP2b := Lib.hid (HP2.out.touch gb)
        have d0 := cell_turn gb HC2.out.1 HC2.out.2
        have d1 := alloc_cell v4 (.slice An nn cn) 39
        replace kk := turn_trans kk gb (by omega)
        clear om4 g4 ga gb HC2 HP2
        generalize prmOk kp pp = qm at *
        generalize prmR kp pp = LM at *
        have hqq : (qm == qm) = true := by simp
        go_wp2_with fail
        generalize (v4.alloc (.cells #[.slice An nn cn] 39)) = v5 at *
        refine (sameMatrices_eq _ _ LM _ HP2b.out HP4.out).mono ?_
        rintro e v6 ⟨rfl, g6⟩
        replace kk := turn_trans kk g6 (by omega)
        go_wp2_with fail
        go_ret
        exact ⟨by first | rfl | simp, kk.to_below⟩
      · obtain ⟨a1, a2⟩ : strpOk qa = true ∧ rightR qa = r2 := by first | exact HSE.out rfl rfl | exact HSE.out rfl trivial | exact HSE.out trivial trivial | simpa using HSE.out
        have a1 := Lib.hid a1
        have a2 := Lib.hid a2
        have d0 := HD.out.c0
        have d1 := HD.out.c1
        go_wp2_with fail
        refine (isRight_any _ _ qa _ HD.out.sx HD.out.sy (HTB.out _ kk).1 (HTB.out _ kk).2).mono ?_
        rintro e wz ⟨rfl, kq⟩
        replace kk := turn_trans kk kq (by omega)
        clear kq d0 d1
        rw [a1.out, a2.out]
        have hrr : (r2 != r2) = false := by simp
        go_wp2_with fail
        refine (drawParityMatrix_any _ m0 _ (HU.out.touch kk)).mono ?_
        rintro e v1 ⟨kp, pp, rfl, _, _, g1⟩
        replace kk := turn_trans kk g1 (by omega)
        clear g1
        go_wp2_with fail
        refine (parityMatrix_own kp pp _ (HTB.out _ kk).1 (HTB.out _ kk).2).mono ?_
        rintro e v2 ⟨x2m, vs2, rfl, om2, g2⟩
        obtain ⟨Am, nm, cm, rfl⟩ := om2.isSlice
        have ga := turn_alloc v2 (.cells #[.slice Am nm cm] 39)
        have HP2 := Lib.hid (om2.seen.touch ga)
        have HC2 : Hid ((v2.alloc (.cells #[.slice Am nm cm] 39)).cell? ⟨v2.heap.size, 0, none⟩ = some (.slice Am nm cm) ∧ v2.heap.size < (v2.alloc (.cells #[.slice Am nm cm] 39)).heap.size) := Lib.hid ⟨alloc_cell _ _ _, alloc_lt _ _⟩
        replace kk := turn_trans kk (turn_trans g2 ga (by omega)) (by omega)
        clear om2 g2 ga
        go_wp2_with fail
        generalize (v2.alloc (.cells #[.slice Am nm cm] 39)) = v3 at *
        generalize v2.heap.size = D2 at *
        refine (sParityMatrix_own kp pp _).mono ?_
        rintro e v4 ⟨x4m, vs4, rfl, om4, g4⟩
        obtain ⟨An, nn, cn, rfl⟩ := om4.isSlice
        have ga := turn_alloc v4 (.cells #[.slice An nn cn] 39)
        have gb := turn_trans g4 ga (by omega)
        have HP4 := Lib.hid (om4.seen.touch ga)
        have HP2b := Lib.hid (HP2.out.touch gb)
        have d0 := cell_turn gb HC2.out.1 HC2.out.2
        have d1 := alloc_cell v4 (.slice An nn cn) 39
        replace kk := turn_trans kk gb (by omega)
        clear om4 g4 ga gb HC2 HP2
        generalize prmOk kp pp = qm at *
        generalize prmR kp pp = LM at *
        have hqq : (qm == qm) = true := by simp
        go_wp2_with fail
        generalize (v4.alloc (.cells #[.slice An nn cn] 39)) = v5 at *
        refine (sameMatrices_eq _ _ LM _ HP2b.out HP4.out).mono ?_
        rintro e v6 ⟨rfl, g6⟩
        replace kk := turn_trans kk g6 (by omega)
        go_wp2_with fail
        go_ret
        exact ⟨by first | rfl | simp, kk.to_below⟩

  · obtain ⟨e1, e2⟩ := HMG.out rfl
    subst e1
    subst e2
    cases r1
    · cases so
      · go_wp2_with fail
        refine (drawParityMatrix_any _ m0 _ (HU.out.touch kk)).mono ?_
        rintro e v1 ⟨kp, pp, rfl, _, _, g1⟩
        replace kk := turn_trans kk g1 (by omega)
        clear g1
        go_wp2_with fail
        refine (parityMatrix_own kp pp _ (HTB.out _ kk).1 (HTB.out _ kk).2).mono ?_
        rintro e v2 ⟨x2m, vs2, rfl, om2, g2⟩
        obtain ⟨Am, nm, cm, rfl⟩ := om2.isSlice
        have ga := turn_alloc v2 (.cells #[.slice Am nm cm] 39)
        have HP2 := Lib.hid (om2.seen.touch ga)
        have HC2 : Hid ((v2.alloc (.cells #[.slice Am nm cm] 39)).cell? ⟨v2.heap.size, 0, none⟩ = some (.slice Am nm cm) ∧ v2.heap.size < (v2.alloc (.cells #[.slice Am nm cm] 39)).heap.size) := Lib.hid ⟨alloc_cell _ _ _, alloc_lt _ _⟩
        replace kk := turn_trans kk (turn_trans g2 ga (by omega)) (by omega)
        clear om2 g2 ga
        go_wp2_with fail
        generalize (v2.alloc (.cells #[.slice Am nm cm] 39)) = v3 at *
        generalize v2.heap.size = D2 at *
        refine (sParityMatrix_own kp pp _).mono ?_
        rintro e v4 ⟨x4m, vs4, rfl, om4, g4⟩
        obtain ⟨An, nn, cn, rfl⟩ := om4.isSlice
        have ga := turn_alloc v4 (.cells #[.slice An nn cn] 39)
        have gb := turn_trans g4 ga (by omega)
        have HP4 := Lib.hid (om4.seen.touch ga)
        have HP2b := Lib.hid (HP2.out.touch gb)
        have d0 := cell_turn gb HC2.out.1 HC2.out.2
        have d1 := alloc_cell v4 (.slice An nn cn) 39
        replace kk := turn_trans kk gb (by omega)
        clear om4 g4 ga gb HC2 HP2
        generalize prmOk kp pp = qm at *
        generalize prmR kp pp = LM at *
        have hqq : (qm == qm) = true := by simp
        go_wp2_with fail
        generalize (v4.alloc (.cells #[.slice An nn cn] 39)) = v5 at *
        refine (sameMatrices_eq _ _ LM _ HP2b.out HP4.out).mono ?_
        rintro e v6 ⟨rfl, g6⟩
        replace kk := turn_trans kk g6 (by omega)
        go_wp2_with fail
        go_ret
        exact ⟨by first | rfl | simp, kk.to_below⟩
      · obtain ⟨e1, e2⟩ := HSD.out rfl
        go_wp2_with fail
        refine (drawParityMatrix_any _ m0 _ (HU.out.touch kk)).mono ?_
        rintro e v1 ⟨kp, pp, rfl, _, _, g1⟩
        replace kk := turn_trans kk g1 (by omega)
        clear g1
        go_wp2_with fail
        refine (parityMatrix_own kp pp _ (HTB.out _ kk).1 (HTB.out _ kk).2).mono ?_
        rintro e v2 ⟨x2m, vs2, rfl, om2, g2⟩
        obtain ⟨Am, nm, cm, rfl⟩ := om2.isSlice
        have ga := turn_alloc v2 (.cells #[.slice Am nm cm] 39)
        have HP2 := Lib.hid (om2.seen.touch ga)
        have HC2 : Hid ((v2.alloc (.cells #[.slice Am nm cm] 39)).cell? ⟨v2.heap.size, 0, none⟩ = some (.slice Am nm cm) ∧ v2.heap.size < (v2.alloc (.cells #[.slice Am nm cm] 39)).heap.size) := Lib.hid ⟨alloc_cell _ _ _, alloc_lt _ _⟩
        replace kk := turn_trans kk (turn_trans g2 ga (by omega)) (by omega)
        clear om2 g2 ga
        go_wp2_with fail
        generalize (v2.alloc (.cells #[.slice Am nm cm] 39)) = v3 at *
        generalize v2.heap.size = D2 at *
        refine (sParityMatrix_own kp pp _).mono ?_
        rintro e v4 ⟨x4m, vs4, rfl, om4, g4⟩
        obtain ⟨An, nn, cn, rfl⟩ := om4.isSlice
        have ga := turn_alloc v4 (.cells #[.slice An nn cn] 39)
        have gb := turn_trans g4 ga (by omega)
        have HP4 := Lib.hid (om4.seen.touch ga)
        have HP2b := Lib.hid (HP2.out.touch gb)
        have d0 := cell_turn gb HC2.out.1 HC2.out.2
        have d1 := alloc_cell v4 (.slice An nn cn) 39
        replace kk := turn_trans kk gb (by omega)
        clear om4 g4 ga gb HC2 HP2
        generalize prmOk kp pp = qm at *
        generalize prmR kp pp = LM at *
        have hqq : (qm == qm) = true := by simp
        go_wp2_with fail
        generalize (v4.alloc (.cells #[.slice An nn cn] 39)) = v5 at *
        refine (sameMatrices_eq _ _ LM _ HP2b.out HP4.out).mono ?_
        rintro e v6 ⟨rfl, g6⟩
        replace kk := turn_trans kk g6 (by omega)
        go_wp2_with fail
        go_ret
        exact ⟨by first | rfl | simp, kk.to_below⟩

    · cases r2
      · cases so
        · go_wp2_with fail
          refine (drawParityMatrix_any _ m0 _ (HU.out.touch kk)).mono ?_
          rintro e v1 ⟨kp, pp, rfl, _, _, g1⟩
          replace kk := turn_trans kk g1 (by omega)
          clear g1
          go_wp2_with fail
          refine (parityMatrix_own kp pp _ (HTB.out _ kk).1 (HTB.out _ kk).2).mono ?_
          rintro e v2 ⟨x2m, vs2, rfl, om2, g2⟩
          obtain ⟨Am, nm, cm, rfl⟩ := om2.isSlice
          have ga := turn_alloc v2 (.cells #[.slice Am nm cm] 39)
          have HP2 := Lib.hid (om2.seen.touch ga)
          have HC2 : Hid ((v2.alloc (.cells #[.slice Am nm cm] 39)).cell? ⟨v2.heap.size, 0, none⟩ = some (.slice Am nm cm) ∧ v2.heap.size < (v2.alloc (.cells #[.slice Am nm cm] 39)).heap.size) := Lib.hid ⟨alloc_cell _ _ _, alloc_lt _ _⟩
          replace kk := turn_trans kk (turn_trans g2 ga (by omega)) (by omega)
          clear om2 g2 ga
          go_wp2_with fail
          generalize (v2.alloc (.cells #[.slice Am nm cm] 39)) = v3 at *
          generalize v2.heap.size = D2 at *
          refine (sParityMatrix_own kp pp _).mono ?_
          rintro e v4 ⟨x4m, vs4, rfl, om4, g4⟩
          obtain ⟨An, nn, cn, rfl⟩ := om4.isSlice
          have ga := turn_alloc v4 (.cells #[.slice An nn cn] 39)
          have gb := turn_trans g4 ga (by omega)
          have HP4 := Lib.hid (om4.seen.touch ga)
          have HP2b := Lib.hid (HP2.out.touch gb)
          have d0 := cell_turn gb HC2.out.1 HC2.out.2
          have d1 := alloc_cell v4 (.slice An nn cn) 39
          replace kk := turn_trans kk gb (by omega)
          clear om4 g4 ga gb HC2 HP2
          generalize prmOk kp pp = qm at *
          generalize prmR kp pp = LM at *
          have hqq : (qm == qm) = true := by simp
          go_wp2_with fail
          generalize (v4.alloc (.cells #[.slice An nn cn] 39)) = v5 at *
          refine (sameMatrices_eq _ _ LM _ HP2b.out HP4.out).mono ?_
          rintro e v6 ⟨rfl, g6⟩
          replace kk := turn_trans kk g6 (by omega)
          go_wp2_with fail
          go_ret
          exact ⟨by first | rfl | simp, kk.to_below⟩
        · obtain ⟨e1, e2⟩ := HSD.out rfl
          obtain ⟨a1, a2⟩ : strpOk qa = true ∧ rightR qa = false := by first | exact HSE.out rfl rfl | exact HSE.out rfl trivial | exact HSE.out trivial trivial | simpa using HSE.out
          have a1 := Lib.hid a1
          have a2 := Lib.hid a2
          have d0 := HD.out.c0
          have d1 := HD.out.c1
          go_wp2_with fail
          refine (isRight_any _ _ qa _ HD.out.sx HD.out.sy (HTB.out _ kk).1 (HTB.out _ kk).2).mono ?_
          rintro e wz ⟨rfl, kq⟩
          replace kk := turn_trans kk kq (by omega)
          clear kq d0 d1
          rw [a1.out, a2.out]
          go_wp2_with fail
          refine (drawParityMatrix_any _ m0 _ (HU.out.touch kk)).mono ?_
          rintro e v1 ⟨kp, pp, rfl, _, _, g1⟩
          replace kk := turn_trans kk g1 (by omega)
          clear g1
          go_wp2_with fail
          refine (parityMatrix_own kp pp _ (HTB.out _ kk).1 (HTB.out _ kk).2).mono ?_
          rintro e v2 ⟨x2m, vs2, rfl, om2, g2⟩
          obtain ⟨Am, nm, cm, rfl⟩ := om2.isSlice
          have ga := turn_alloc v2 (.cells #[.slice Am nm cm] 39)
          have HP2 := Lib.hid (om2.seen.touch ga)
          have HC2 : Hid ((v2.alloc (.cells #[.slice Am nm cm] 39)).cell? ⟨v2.heap.size, 0, none⟩ = some (.slice Am nm cm) ∧ v2.heap.size < (v2.alloc (.cells #[.slice Am nm cm] 39)).heap.size) := Lib.hid ⟨alloc_cell _ _ _, alloc_lt _ _⟩
          replace kk := turn_trans kk (turn_trans g2 ga (by omega)) (by omega)
          clear om2 g2 ga
          go_wp2_with fail
          generalize (v2.alloc (.cells #[.slice Am nm cm] 39)) = v3 at *
          generalize v2.heap.size = D2 at *
          refine (sParityMatrix_own kp pp _).mono ?_
          rintro e v4 ⟨x4m, vs4, rfl, om4, g4⟩
          obtain ⟨An, nn, cn, rfl⟩ := om4.isSlice
          have ga := turn_alloc v4 (.cells #[.slice An nn cn] 39)
          have gb := turn_trans g4 ga (by omega)
          have HP4 := Lib.hid (om4.seen.touch ga)
          have HP2b := Lib.hid (HP2.out.touch gb)
          have d0 := cell_turn gb HC2.out.1 HC2.out.2
          have d1 := alloc_cell v4 (.slice An nn cn) 39
          replace kk := turn_trans kk gb (by omega)
          clear om4 g4 ga gb HC2 HP2
          generalize prmOk kp pp = qm at *
          generalize prmR kp pp = LM at *
          have hqq : (qm == qm) = true := by simp
          go_wp2_with fail
          generalize (v4.alloc (.cells #[.slice An nn cn] 39)) = v5 at *
          refine (sameMatrices_eq _ _ LM _ HP2b.out HP4.out).mono ?_
          rintro e v6 ⟨rfl, g6⟩
          replace kk := turn_trans kk g6 (by omega)
          go_wp2_with fail
          go_ret
          exact ⟨by first | rfl | simp, kk.to_below⟩

      · have hmx := HME.out rfl rfl rfl
        have HMX := Lib.hid hmx
        have hln := HLN.out rfl rfl
        clear hmx
        have d0 := HM.out.c0
        have d1 := HM.out.c1
        go_wp2_with fail
        refine (isRight_any _ _ qm2 _ HM.out.sx HM.out.sy (HTB.out _ kk).1 (HTB.out _ kk).2).mono ?_
        rintro e wv ⟨rfl, kq⟩
        replace kk := turn_trans kk kq (by omega)
        replace HA := Lib.hid (HA.out.keep kq)
        replace HB := Lib.hid (HB.out.keep kq)
        replace HM := Lib.hid (HM.out.keep kq)
        replace HD := Lib.hid (HD.out.keep kq)
        clear kq d0 d1
        rw [HMX.out.1, HMX.out.2.1]
        obtain ⟨⟨na1, na16⟩, ⟨nb1, nb16⟩, ma1⟩ := hln
        have HMKC : Hid (∀ (W : World) (v : Value), Seen W v (strs (s.1 ++ t.1)) → (Tab W ∧ 0 < W.heap.size) → Calls Tryd.prog 14 #[v, .int .i64 (ma : Int)] W (RetTOk 9 W qm2 true)) := fun W v h1 h2 => by
          have h := makeStripe_own v (s.1 ++ t.1) (ma : Int) W h1 h2.1 h2.2
          rwa [HMX.out.2.2.1, HMX.out.2.2.2] at h
        unfold RetTOk at HMKC
        obtain ⟨b, off, c9, hv9, hbl, hlm, hcellq⟩ := seen_cells (W := wv) HA.out.sx (by rw [HNA.out]; omega)
        rw [HNA.out] at hv9
        obtain ⟨rfl, rfl⟩ : Aa = some ⟨b, off, none⟩ ∧ ca = c9 := by simpa using hv9
        obtain ⟨b', off', c8, hv8, hbl', hlm', hcelld⟩ := seen_cells (W := wv) HB.out.sx (by rw [HNB.out]; omega)
        rw [HNB.out] at hv8
        obtain ⟨rfl, rfl⟩ : Ab = some ⟨b', off', none⟩ ∧ cb = c8 := by simpa using hv8
        have HCQ := Lib.hid hcellq
        have HCD := Lib.hid hcelld
        have HL0 : Hid ((strs s.1).length = na) := Lib.hid (by rw [strs_length, HNA.out])
        have HL1 : Hid ((strs t.1).length = nb) := Lib.hid (by rw [strs_length, HNB.out])
        have HLL : Hid ((s.1 ++ t.1).length = na + nb) := Lib.hid (by rw [List.length_append, HNA.out, HNB.out])
        have HAP : Hid (strs (s.1 ++ t.1) = strs s.1 ++ strs t.1) := Lib.hid (strs_append _ _)
        clear hcellq hcelld hv9 hv8 hlm hlm'
        have qa0 := HA.out.c0
        have qa1 := HA.out.c1
        have qb0 := HB.out.c0
        have qb1 := HB.out.c1
        have la0 := HA.out.lt
        have lb0 := HB.out.lt
        go_wp2_with fail
        have hS0 : Below wv.heap.size wv (wv.drew) ∧ World.cell? (wv.drew) ⟨B1, 0, none⟩ = some (.slice (some ⟨b, off, none⟩) na ca) ∧ World.cell? (wv.drew) ⟨B1, 1, none⟩ = some (.slice Ba ma da) ∧ World.cell? (wv.drew) ⟨B1 + 1, 0, none⟩ = some (.slice (some ⟨b', off', none⟩) nb cb) ∧ World.cell? (wv.drew) ⟨B1 + 1, 1, none⟩ = some (.slice Bb mb db) := ⟨(Below.refl _ _).drew, qa0, qa1, qb0, qb1⟩
        have HSS : Hid (∀ W, Below wv.heap.size wv W → (Below wv.heap.size wv (W) ∧ World.cell? (W) ⟨B1, 0, none⟩ = some (.slice (some ⟨b, off, none⟩) na ca) ∧ World.cell? (W) ⟨B1, 1, none⟩ = some (.slice Ba ma da) ∧ World.cell? (W) ⟨B1 + 1, 0, none⟩ = some (.slice (some ⟨b', off', none⟩) nb cb) ∧ World.cell? (W) ⟨B1 + 1, 1, none⟩ = some (.slice Bb mb db))) := Lib.hid (fun W hb => four_below qa0 qa1 qb0 qb1 la0 lb0 hb)
        have HSA : Hid (∀ W o, (Below wv.heap.size wv (W) ∧ World.cell? (W) ⟨B1, 0, none⟩ = some (.slice (some ⟨b, off, none⟩) na ca) ∧ World.cell? (W) ⟨B1, 1, none⟩ = some (.slice Ba ma da) ∧ World.cell? (W) ⟨B1 + 1, 0, none⟩ = some (.slice (some ⟨b', off', none⟩) nb cb) ∧ World.cell? (W) ⟨B1 + 1, 1, none⟩ = some (.slice Bb mb db)) → (Below wv.heap.size wv (W.alloc o) ∧ World.cell? (W.alloc o) ⟨B1, 0, none⟩ = some (.slice (some ⟨b, off, none⟩) na ca) ∧ World.cell? (W.alloc o) ⟨B1, 1, none⟩ = some (.slice Ba ma da) ∧ World.cell? (W.alloc o) ⟨B1 + 1, 0, none⟩ = some (.slice (some ⟨b', off', none⟩) nb cb) ∧ World.cell? (W.alloc o) ⟨B1 + 1, 1, none⟩ = some (.slice Bb mb db))) := Lib.hid (fun W o h => HSS.out _ (h.1.alloc h.1.size o))
        have HST : Hid (∀ W W', TurnIn 0 0 W W' → (Below wv.heap.size wv (W) ∧ World.cell? (W) ⟨B1, 0, none⟩ = some (.slice (some ⟨b, off, none⟩) na ca) ∧ World.cell? (W) ⟨B1, 1, none⟩ = some (.slice Ba ma da) ∧ World.cell? (W) ⟨B1 + 1, 0, none⟩ = some (.slice (some ⟨b', off', none⟩) nb cb) ∧ World.cell? (W) ⟨B1 + 1, 1, none⟩ = some (.slice Bb mb db)) → (Below wv.heap.size wv (W') ∧ World.cell? (W') ⟨B1, 0, none⟩ = some (.slice (some ⟨b, off, none⟩) na ca) ∧ World.cell? (W') ⟨B1, 1, none⟩ = some (.slice Ba ma da) ∧ World.cell? (W') ⟨B1 + 1, 0, none⟩ = some (.slice (some ⟨b', off', none⟩) nb cb) ∧ World.cell? (W') ⟨B1 + 1, 1, none⟩ = some (.slice Bb mb db))) := Lib.hid (fun W W' t h => HSS.out _ (t.base h.1 h.1.size (by omega)))
        have HSC : Hid (∀ W B (o : Nat) x, wv.heap.size ≤ B → (Below wv.heap.size wv (W) ∧ World.cell? (W) ⟨B1, 0, none⟩ = some (.slice (some ⟨b, off, none⟩) na ca) ∧ World.cell? (W) ⟨B1, 1, none⟩ = some (.slice Ba ma da) ∧ World.cell? (W) ⟨B1 + 1, 0, none⟩ = some (.slice (some ⟨b', off', none⟩) nb cb) ∧ World.cell? (W) ⟨B1 + 1, 1, none⟩ = some (.slice Bb mb db)) → (Below wv.heap.size wv (W.setCell ⟨B, o, none⟩ x) ∧ World.cell? (W.setCell ⟨B, o, none⟩ x) ⟨B1, 0, none⟩ = some (.slice (some ⟨b, off, none⟩) na ca) ∧ World.cell? (W.setCell ⟨B, o, none⟩ x) ⟨B1, 1, none⟩ = some (.slice Ba ma da) ∧ World.cell? (W.setCell ⟨B, o, none⟩ x) ⟨B1 + 1, 0, none⟩ = some (.slice (some ⟨b', off', none⟩) nb cb) ∧ World.cell? (W.setCell ⟨B, o, none⟩ x) ⟨B1 + 1, 1, none⟩ = some (.slice Bb mb db))) := Lib.hid (fun W B o x hB h => HSS.out _ (h.1.setCell (p := ⟨B, o, none⟩) hB x))
        have HKK := Lib.hid kk
        clear qa0 qa1 qb0 qb1
        go_cut [23, 24] from 137 to 150 (fun s6 s7 wc => TBoxOk 9 wv qm2 true s6 s7 wc)
        case first =>
          go_region_held3 (fun W => Below wv.heap.size wv (W) ∧ World.cell? (W) ⟨B1, 0, none⟩ = some (.slice (some ⟨b, off, none⟩) na ca) ∧ World.cell? (W) ⟨B1, 1, none⟩ = some (.slice Ba ma da) ∧ World.cell? (W) ⟨B1 + 1, 0, none⟩ = some (.slice (some ⟨b', off', none⟩) nb cb) ∧ World.cell? (W) ⟨B1 + 1, 1, none⟩ = some (.slice Bb mb db))
            (first | exact hS0 | exact hS5 | exact hS6 | exact hS7 | exact HSA.out _ _ (by assumption) | exact HSA.out _ _ hS0 | exact HSA.out _ _ hS5 | exact HSA.out _ _ hS6 | exact HSA.out _ _ hS7 | exact HSA.out _ _ (HSA.out _ _ hS0) | exact HSC.out _ _ _ _ (by omega) (HSC.out _ _ _ _ (by omega) hS7) | assumption)
            (first
              | (refine step_appendLit (by rfl) _ _ _ (by rfl) 9 _ _ Tryd.underlying23 infoStr rfl _ (by rfl) ⟨b, off, none⟩ na ca (strs s.1) (by rfl) na1 HL0.out (HCQ.out _ (And.left (by assumption))) (strs_oneC _) (by omega) (by omega) ?_; intro gg cp1 w5 HG1 ho1 k5; have hS5 := HST.out _ _ k5 (by assumption); have hgg : wv.heap.size ≤ gg := (by have h9 := HG1.out; first | omega | (simp at h9; omega)); have hgw := (ho1.lt gg rfl).2; have hs5 := hS5.1.size; (first | (have fb := boxD_made (undrew k5); rw [World.size_alloc] at fb; have hbg : wv.heap.size + 1 < gg := (by have h9 := HG1.out; simp at h9; omega); obtain ⟨b0, b1, b2, b3, b4⟩ := fb) | (have fb := boxD_made (turn_trans (turn_alloc _ _) (undrew k5) (by omega)); have hbg : wv.heap.size < gg := (by have h9 := HG1.out; simp at h9; omega); obtain ⟨b0, b1, b2, b3, b4⟩ := fb) | skip))
              | (refine step_appendG (by rfl) _ _ _ (by rfl) gg 9 _ _ Tryd.underlying23 infoStr rfl (.slice (some ⟨gg, 0, none⟩) na cp1) na (strs s.1) (by rfl) (by first | exact ho1 | exact ho1.alloc _) ⟨b', off', none⟩ nb cb (strs t.1) (by rfl) HL1.out (HCD.out _ (And.left (by assumption))) (strs_oneC _) (by omega) (by omega) (by first | omega | (simp; omega)) ?_; intro v6 w6 ho2 hg2 hv2; obtain ⟨A6, n6, c6, rfl⟩ := own_isSlice ho2; have hb6 : Below wv.heap.size wv w6 := (by first | exact hS5.1.grown hg2 hS5.1.size (fun g e => by simp [Value.ownBlock] at e; omega) | exact (hS5.1.alloc hS5.1.size _).grown hg2 (by simp; omega) (fun g e => by simp [Value.ownBlock] at e; omega)); have hS6 := HSS.out _ hb6; have hs6 := hb6.size; have hO6 : OwnStrs 9 w6 gg w6.heap.size (.slice A6 n6 c6) (s.1 ++ t.1) := ⟨by rw [HLL.out, HAP.out]; exact ho2, Nat.le_refl _, fun g e => (ho2.lt g e).2⟩; (first | (have fb := boxD_grown ⟨b0, b1, b2, b3, b4⟩ hg2 (by simp [Value.ownBlock]; omega); obtain ⟨b0, b1, b2, b3, b4⟩ := fb) | (have fb := boxD_grown (boxD_made (T := 25) (TurnIn.refl (w5.alloc (.cells #[.slice none 0 0, .slice none 0 0] 25)))) hg2 (by simp [Value.ownBlock]; omega); obtain ⟨b0, b1, b2, b3, b4⟩ := fb) | skip))
              | (go_at_call 14; refine (HMKC.out _ _ (by first | exact hO6.seen | exact (hO6.keep (turn_alloc _ _) (by omega)).seen) (HTB.out _ (turn_trans HKK.out (TurnIn.of_below (And.left (by assumption))) (by omega)))).mono ?_; rintro e w7 ⟨x7, y7, rfl, o7, k7⟩; obtain ⟨A_7, N_7, C_7, D_7, M_7, E_7, rfl, rfl⟩ := o7.isSlice; have hS7 := HST.out _ _ k7 (by assumption); have hs7 := hS7.1.size; (first | (have hBl := b4; have fb := boxD_kept ⟨b0, b1, b2, b3, b4⟩ k7; obtain ⟨b0, b1, b2, b3, b4⟩ := fb) | (have hBl := alloc_lt w6 (.cells #[.slice none 0 0, .slice none 0 0] 25); have fb := boxD_made k7; obtain ⟨b0, b1, b2, b3, b4⟩ := fb) | skip)))
          all_goals
            have hs7 := hS7.1.size
            go_wp2_with fail
            go_meet
            first
              | exact tbox_new (TurnIn.of_below hS7.1) o7 (by first | omega | (simp; omega))
              | exact tbox_set ⟨b0, b1, b2, b3, b4⟩ hBl (by first | omega | (simp; omega)) (TurnIn.of_below hS7.1) o7
        obtain ⟨Bz, xz, yz, loz, hiz, rfl, rfl, cz, dz, hBz, hBb, oz, hloz, hhiz, horz, tz⟩ := hcut
        obtain ⟨Az, Nz, Cz, Dz, Mz, Ez, rfl, rfl⟩ := oz.isSlice
        clear HSS HSA HST HSC hS0 HKK HMKC
        generalize hwc : wc = wcs at *
        clear hwc
        have kk := turn_trans kk tz (by omega)
        replace HA := Lib.hid (HA.out.keep tz)
        replace HB := Lib.hid (HB.out.keep tz)
        replace HM := Lib.hid (HM.out.keep tz)
        replace HD := Lib.hid (HD.out.keep tz)
        have d0 := HM.out.c0
        have d1 := HM.out.c1
        have HZ1 := Lib.hid oz.seen1
        have HZ2 := Lib.hid oz.seen2
        clear oz tz
        go_wp2_with fail
        refine (sameStripes_same _ _ _ _ qm2 _ HZ1.out HZ2.out HM.out.sx HM.out.sy).mono ?_
        rintro e wy ⟨rfl, kq⟩
        replace kk := turn_trans kk kq (by omega)
        replace HD := Lib.hid (HD.out.keep kq)
        clear kq d0 d1 cz dz
        cases so
        · go_wp2_with fail
          refine (drawParityMatrix_any _ m0 _ (HU.out.touch kk)).mono ?_
          rintro e v1 ⟨kp, pp, rfl, _, _, g1⟩
          replace kk := turn_trans kk g1 (by omega)
          clear g1
          go_wp2_with fail
          refine (parityMatrix_own kp pp _ (HTB.out _ kk).1 (HTB.out _ kk).2).mono ?_
          rintro e v2 ⟨x2m, vs2, rfl, om2, g2⟩
          obtain ⟨Am, nm, cm, rfl⟩ := om2.isSlice
          have ga := turn_alloc v2 (.cells #[.slice Am nm cm] 39)
          have HP2 := Lib.hid (om2.seen.touch ga)
          have HC2 : Hid ((v2.alloc (.cells #[.slice Am nm cm] 39)).cell? ⟨v2.heap.size, 0, none⟩ = some (.slice Am nm cm) ∧ v2.heap.size < (v2.alloc (.cells #[.slice Am nm cm] 39)).heap.size) := Lib.hid ⟨alloc_cell _ _ _, alloc_lt _ _⟩
          replace kk := turn_trans kk (turn_trans g2 ga (by omega)) (by omega)
          clear om2 g2 ga
          go_wp2_with fail
          generalize (v2.alloc (.cells #[.slice Am nm cm] 39)) = v3 at *
          generalize v2.heap.size = D2 at *
          refine (sParityMatrix_own kp pp _).mono ?_
          rintro e v4 ⟨x4m, vs4, rfl, om4, g4⟩
          obtain ⟨An, nn, cn, rfl⟩ := om4.isSlice
          have ga := turn_alloc v4 (.cells #[.slice An nn cn] 39)
          have gb := turn_trans g4 ga (by omega)
          have HP4 := Lib.hid (om4.seen.touch ga)
          have HP2b := Lib.hid (HP2.out.touch gb)
          have d0 := cell_turn gb HC2.out.1 HC2.out.2
          have d1 := alloc_cell v4 (.slice An nn cn) 39
          replace kk := turn_trans kk gb (by omega)
          clear om4 g4 ga gb HC2 HP2
          generalize prmOk kp pp = qm at *
          generalize prmR kp pp = LM at *
          have hqq : (qm == qm) = true := by simp
          go_wp2_with fail
          generalize (v4.alloc (.cells #[.slice An nn cn] 39)) = v5 at *
          refine (sameMatrices_eq _ _ LM _ HP2b.out HP4.out).mono ?_
          rintro e v6 ⟨rfl, g6⟩
          replace kk := turn_trans kk g6 (by omega)
          go_wp2_with fail
          go_ret
          exact ⟨by first | rfl | simp, kk.to_below⟩
        · obtain ⟨e1, e2⟩ := HSD.out rfl
          obtain ⟨a1, a2⟩ : strpOk qa = true ∧ rightR qa = true := by first | exact HSE.out rfl rfl | exact HSE.out rfl trivial | exact HSE.out trivial trivial | simpa using HSE.out
          have a1 := Lib.hid a1
          have a2 := Lib.hid a2
          have d0 := HD.out.c0
          have d1 := HD.out.c1
          go_wp2_with fail
          refine (isRight_any _ _ qa _ HD.out.sx HD.out.sy (HTB.out _ kk).1 (HTB.out _ kk).2).mono ?_
          rintro e wz ⟨rfl, kq⟩
          replace kk := turn_trans kk kq (by omega)
          clear kq d0 d1
          rw [a1.out, a2.out]
          go_wp2_with fail
          refine (drawParityMatrix_any _ m0 _ (HU.out.touch kk)).mono ?_
          rintro e v1 ⟨kp, pp, rfl, _, _, g1⟩
          replace kk := turn_trans kk g1 (by omega)
          clear g1
          go_wp2_with fail
          refine (parityMatrix_own kp pp _ (HTB.out _ kk).1 (HTB.out _ kk).2).mono ?_
          rintro e v2 ⟨x2m, vs2, rfl, om2, g2⟩
          obtain ⟨Am, nm, cm, rfl⟩ := om2.isSlice
          have ga := turn_alloc v2 (.cells #[.slice Am nm cm] 39)
          have HP2 := Lib.hid (om2.seen.touch ga)
          have HC2 : Hid ((v2.alloc (.cells #[.slice Am nm cm] 39)).cell? ⟨v2.heap.size, 0, none⟩ = some (.slice Am nm cm) ∧ v2.heap.size < (v2.alloc (.cells #[.slice Am nm cm] 39)).heap.size) := Lib.hid ⟨alloc_cell _ _ _, alloc_lt _ _⟩
          replace kk := turn_trans kk (turn_trans g2 ga (by omega)) (by omega)
          clear om2 g2 ga
          go_wp2_with fail
          generalize (v2.alloc (.cells #[.slice Am nm cm] 39)) = v3 at *
          generalize v2.heap.size = D2 at *
          refine (sParityMatrix_own kp pp _).mono ?_
          rintro e v4 ⟨x4m, vs4, rfl, om4, g4⟩
          obtain ⟨An, nn, cn, rfl⟩ := om4.isSlice
          have ga := turn_alloc v4 (.cells #[.slice An nn cn] 39)
          have gb := turn_trans g4 ga (by omega)
          have HP4 := Lib.hid (om4.seen.touch ga)
          have HP2b := Lib.hid (HP2.out.touch gb)
          have d0 := cell_turn gb HC2.out.1 HC2.out.2
          have d1 := alloc_cell v4 (.slice An nn cn) 39
          replace kk := turn_trans kk gb (by omega)
          clear om4 g4 ga gb HC2 HP2
          generalize prmOk kp pp = qm at *
          generalize prmR kp pp = LM at *
          have hqq : (qm == qm) = true := by simp
          go_wp2_with fail
          generalize (v4.alloc (.cells #[.slice An nn cn] 39)) = v5 at *
          refine (sameMatrices_eq _ _ LM _ HP2b.out HP4.out).mono ?_
          rintro e v6 ⟨rfl, g6⟩
          replace kk := turn_trans kk g6 (by omega)
          go_wp2_with fail
          go_ret
          exact ⟨by first | rfl | simp, kk.to_below⟩

set_option maxRecDepth 100000 in
theorem walk_FnMerged : G294.LawWalk Tryd.prog 3 Tryd.f3 Rows.fnMergedSpec.vars false (fun W => laidMetH Tryd.prog Rows.fnMergedRow.laid W) := by
  intro H enc W base args ds gs before hval hW hX
  have hlt0 : ∀ p ∈ before, p.block < W.heap.size := fun p hp => hW.lt p hp
  obtain ⟨p, q, hA, hV, rfl, hfz, hnd⟩ := hW
  rw [Tryd.params3] at hA hval
  obtain ⟨u0, u1, d0, d1, p0, p1, rfl, rfl, rfl, t0, t1⟩ := trodAll_two hA
  obtain ⟨l0, sn0⟩ := seen_bytes Tryd.underlying22 Tryd.underlying5 (by kernel_rfl) (hval 0 22 u0 rfl rfl) t0 (fun x hx => hlt0 x (by simp [hx]))
  obtain ⟨l1, sn1⟩ := seen_bytes Tryd.underlying22 Tryd.underlying5 (by kernel_rfl) (hval 1 22 u1 rfl rfl) t1 (fun x hx => hlt0 x (by simp [hx]))
  obtain ⟨ht, hs⟩ := tab_of (by kernel_rfl) hX 0 rfl (by kernel_rfl)
  exact merged_walk u0 u1 l0 l1 W sn0 sn1 ht hs

end Go.Proofs.YtjgmegfbfjmnfaaDoor
