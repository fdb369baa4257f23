/- The walk of FnVectors. -/
import Derived.Test.YtmkihipjfcknfaaDoorRows
import Derived.Test.YtmkihipjfcknfaaDoorOpenArgs
import Derived.Test.YtmkihipjfcknfaaDoorCurVec
import Derived.Test.YtmkihipjfcknfaaDoorSameBytes
import Derived.Test.YtmkihipjfcknfaaDoorVecLaws
import Derived.Test.YtmkihipjfcknfaaDoorVecScale
import Derived.Test.YtmkihipjfcknfaaDoorVecDot
import Derived.Test.YtmkihipjfcknfaaDoorVecAdd
import Derived.Test.YtmkihipjfcknfaaDoorLawsField
set_option linter.unusedSimpArgs false
set_option linter.unusedVariables false
namespace G294
theorem pairOk_scale (a : UInt8) (l m : List UInt8) (h : pairOk l m = true) : pairOk (scaleL a l) m = true := by
  simp only [pairOk, scaleL, List.length_map] at h ⊢; exact h
theorem pairOk_iff (l m : List UInt8) : pairOk l m = true ↔ l.length ≤ 80 ∧ l.length = m.length := by simp [pairOk]
end G294
namespace Go.Proofs.YtmkihipjfcknfaaDoor
open Go.ChangeShapes Go.WideShapes Go.ChangeAt Go.RowKit G294

set_option maxRecDepth 100000 in
set_option maxHeartbeats 4000000 in
theorem vectors_walk (v u : Value) (l0 m0 : List UInt8) (w : World) (hv : Seen w v (bys l0)) (hu : Seen w u (bys m0)) (ht : Tab w) (h0 : 0 < w.heap.size) :
    Calls Tryd.prog 4 #[v, u] w fun e w' => e = .returned (.bool true) ∧ Below w.heap.size w w' := by
  have hv0 := hv
  have hu0 := hu
  obtain ⟨A, c, rfl, hlc, hcm, hx⟩ := hv
  obtain ⟨A', c', rfl, hlc', hcm', hx'⟩ := hu
  rw [bys_length] at hlc hlc' hv0 hu0
  simp only [bys_length]
  clear hx hx'
  unfold maxLen at hcm hcm'
  generalize l0.length = n1 at *
  generalize m0.length = n2 at *
  by_cases hbig : 1048576 < wrap64 ((n1 : Int) + (n2 : Int))
  · go_enter Tryd.func4, Tryd.ntmps4
    go_wp2_with fail
    go_ret
    exact ⟨rfl, Below.refl _ _⟩
  have hB := Below.refl w.heap.size w
  go_enter Tryd.func4, Tryd.ntmps4
  go_wp2_with fail
  refine (drawAdd_any _ l0 _ hv0).mono ?_
  rintro e w1 ⟨v, u, l, m, rfl, sv, su, hl, hm, k1⟩
  have s1 := k1.size
  replace hB := k1.base hB (by omega) (by omega)
  obtain ⟨Av, cv, hvv⟩ := sv.len
  obtain ⟨Au, cu, huu⟩ := su.len
  rw [bys_length] at hvv huu
  subst hvv huu
  have qo : (pairOk l m != pairOk l m) = false := by simp
  have qd : (((dotR l m).toNat : Int) != ((dotR l m).toNat : Int)) = false := by simp
  go_wp2_with fail
  refine (add_own _ _ l m _ sv su).mono ?_
  rintro e w2 ⟨s, rfl, oS, k2⟩
  have s2 := k2.size
  replace hB := k2.base hB (by omega) (by omega)
  replace sv := sv.touch k2
  replace su := su.touch k2
  obtain ⟨As, cs, hss⟩ := oS.seen.len
  rw [bys_length] at hss
  subst hss
  go_wp2_with fail
  refine (sAdd_own _ _ l m _ sv su (by omega)).mono ?_
  rintro e w3 ⟨t, rfl, oT, k3⟩
  have s3 := k3.size
  replace hB := k3.base hB (by omega) (by omega)
  replace sv := sv.touch k3
  replace su := su.touch k3
  replace oS := oS.keep k3 (by omega)
  go_wp2_with fail
  refine (dot_own _ _ l m _ sv su (ht.below hB h0)).mono ?_
  rintro e w4 ⟨rfl, k4⟩
  have s4 := k4.size
  replace hB := k4.base hB (by omega) (by omega)
  replace sv := sv.touch k4
  replace su := su.touch k4
  replace oS := oS.keep k4 (by omega)
  replace oT := oT.keep k4 (by omega)
  go_wp2_with fail
  refine (sDot_own _ _ l m _ sv su).mono ?_
  rintro e w5 ⟨rfl, k5⟩
  have s5 := k5.size
  replace hB := k5.base hB (by omega) (by omega)
  replace sv := sv.touch k5
  replace su := su.touch k5
  replace oS := oS.keep k5 (by omega)
  replace oT := oT.keep k5 (by omega)
  have e1 := Lib.hid (beq_self_eq_true (addR l m))
  by_cases hp : pairOk l m = true
  · have HP := Lib.hid hp
    obtain ⟨hle, heq⟩ := (pairOk_iff l m).1 hp
    have HEq := Lib.hid heq
    have HA : Hid (addR l m = addL l m) := if_pos ⟨hle, heq⟩
    have HD : Hid (dotR l m = dotL l m) := if_pos ⟨hle, heq⟩
    rw [hp] at *
    clear hp heq
    go_wp2_with fail
    refine (sameBytes_any _ _ _ _ _ oS.seen oT.seen).mono ?_
    rintro e w' ⟨rfl, rfl⟩
    rw [e1.out]
    go_wp2_with fail
    refine (numberOf_any _ m0 _ (hu0.below hB)).mono ?_
    rintro e w' ⟨nn, hnn, rfl, rfl⟩
    have ha := to_byte nn
    generalize UInt8.ofNat ((nn : Int) % 256).toNat = a at *
    have HAb := Lib.hid ha
    clear ha
    go_wp2_with fail
    rw [HAb.out]
    have HSO : Hid (scaleOk l = true) := by show scaleOk l = true; simpa [scaleOk] using hle
    have HSR : Hid (scaleR a l = scaleL a l) := if_pos hle
    have HPx : Hid (pairOk (scaleL a l) m = true) := (pairOk_iff _ _).2 ⟨by simpa [scaleL] using hle, by simpa [scaleL] using HEq.out⟩
    have HDx : Hid (dotR (scaleL a l) m = gmul a (dotL l m)) := by
      show dotR (scaleL a l) m = _
      rw [← dotL_scale]; exact if_pos ((pairOk_iff _ _).1 HPx.out)
    have HAl := Lib.hid (addL_len l m HEq.out)
    have HPs : Hid (pairOk (addL l m) m = true) := (pairOk_iff _ _).2 ⟨by rw [HAl.out]; exact hle, by rw [HAl.out]; exact HEq.out⟩
    have HBk : Hid (addR (addL l m) m = l) := by
      show addR (addL l m) m = l
      have h : addR (addL l m) m = addL (addL l m) m := if_pos ((pairOk_iff _ _).1 HPs.out)
      rw [h, addL_back l m HEq.out]
    have HPss : Hid (pairOk (addL l m) (addL l m) = true) := (pairOk_iff _ _).2 ⟨by rw [HAl.out]; exact hle, rfl⟩
    have HDss : Hid (dotR (addL l m) (addL l m) = dotL l l ^^^ dotL m m) := by
      show dotR (addL l m) (addL l m) = _
      rw [← dotL_sq l m HEq.out]; exact if_pos ((pairOk_iff _ _).1 HPss.out)
    have HPl : Hid (pairOk l l = true) := (pairOk_iff _ _).2 ⟨hle, rfl⟩
    have HDl : Hid (dotR l l = dotL l l) := if_pos ((pairOk_iff _ _).1 HPl.out)
    have HPm : Hid (pairOk m m = true) := (pairOk_iff _ _).2 ⟨by rw [← HEq.out]; exact hle, rfl⟩
    have HDm : Hid (dotR m m = dotL m m) := if_pos ((pairOk_iff _ _).1 HPm.out)
    have HXx := Lib.hid (xor_u8 (dotL l l) (dotL m m))
    rw [HA.out] at oS oT
    rw [HA.out]
    refine (scale_own a _ l _ sv (ht.below hB h0) (by have := hB.size; omega)).mono ?_
    rintro e w6 ⟨x, rfl, oX, k6⟩
    rw [HSO.out]
    rw [HSR.out] at oX
    have s6 := k6.size
    replace hB := k6.base hB (by omega) (by omega)
    replace sv := sv.touch k6
    replace su := su.touch k6
    replace oS := oS.keep k6 (by omega)
    replace oT := oT.keep k6 (by omega)
    go_wp2_with fail
    refine (sScale_own a _ l _ sv (by omega)).mono ?_
    rintro e w7 ⟨y, rfl, oY, k7⟩
    rw [HSO.out]
    rw [HSR.out] at oY
    have s7 := k7.size
    replace hB := k7.base hB (by omega) (by omega)
    replace sv := sv.touch k7
    replace su := su.touch k7
    replace oS := oS.keep k7 (by omega)
    replace oT := oT.keep k7 (by omega)
    replace oX := oX.keep k7 (by omega)
    go_wp2_with fail
    refine (dot_own _ _ _ m _ oX.seen su (ht.below hB h0)).mono ?_
    rintro e w8 ⟨rfl, k8⟩
    rw [HPx.out, HDx.out]
    have s8 := k8.size
    replace hB := k8.base hB (by omega) (by omega)
    replace sv := sv.touch k8
    replace su := su.touch k8
    replace oS := oS.keep k8 (by omega)
    replace oT := oT.keep k8 (by omega)
    replace oX := oX.keep k8 (by omega)
    replace oY := oY.keep k8 (by omega)
    go_wp2_with fail
    refine (add_own _ _ _ m _ oS.seen su).mono ?_
    rintro e w9 ⟨b, rfl, oBk, k9⟩
    rw [HPs.out]
    rw [HBk.out] at oBk
    have s9 := k9.size
    replace hB := k9.base hB (by omega) (by omega)
    replace sv := sv.touch k9
    replace su := su.touch k9
    replace oS := oS.keep k9 (by omega)
    replace oT := oT.keep k9 (by omega)
    replace oX := oX.keep k9 (by omega)
    replace oY := oY.keep k9 (by omega)
    go_wp2_with fail
    refine (dot_own _ _ _ _ _ oS.seen oS.seen (ht.below hB h0)).mono ?_
    rintro e w10 ⟨rfl, k10⟩
    rw [HPss.out, HDss.out]
    have s10 := k10.size
    replace hB := k10.base hB (by omega) (by omega)
    replace sv := sv.touch k10
    replace su := su.touch k10
    replace oS := oS.keep k10 (by omega)
    replace oT := oT.keep k10 (by omega)
    replace oX := oX.keep k10 (by omega)
    replace oY := oY.keep k10 (by omega)
    replace oBk := oBk.keep k10 (by omega)
    go_wp2_with fail
    refine (dot_own _ _ l l _ sv sv (ht.below hB h0)).mono ?_
    rintro e w11 ⟨rfl, k11⟩
    rw [HPl.out, HDl.out]
    have s11 := k11.size
    replace hB := k11.base hB (by omega) (by omega)
    replace sv := sv.touch k11
    replace su := su.touch k11
    replace oS := oS.keep k11 (by omega)
    replace oT := oT.keep k11 (by omega)
    replace oX := oX.keep k11 (by omega)
    replace oY := oY.keep k11 (by omega)
    replace oBk := oBk.keep k11 (by omega)
    go_wp2_with fail
    refine (dot_own _ _ m m _ su su (ht.below hB h0)).mono ?_
    rintro e w12 ⟨rfl, k12⟩
    rw [HPm.out, HDm.out]
    have s12 := k12.size
    replace hB := k12.base hB (by omega) (by omega)
    replace sv := sv.touch k12
    replace su := su.touch k12
    replace oS := oS.keep k12 (by omega)
    replace oT := oT.keep k12 (by omega)
    replace oX := oX.keep k12 (by omega)
    replace oY := oY.keep k12 (by omega)
    replace oBk := oBk.keep k12 (by omega)
    have e2 := Lib.hid (beq_self_eq_true (scaleL a l))
    have e3 := Lib.hid (beq_self_eq_true l)
    go_wp2_with fail
    refine (sameBytes_any _ _ _ _ _ oX.seen oY.seen).mono ?_
    rintro e w' ⟨rfl, rfl⟩
    rw [e2.out]
    go_wp2_with fail
    rw [HD.out]
    refine (times_u8 a (dotL l m) _ (ht.below hB h0)).mono ?_
    rintro e w' ⟨rfl, rfl⟩
    have q1 : (((gmul a (dotL l m)).toNat : Int) == ((gmul a (dotL l m)).toNat : Int)) = true := by simp
    have q2 : (((dotL l l ^^^ dotL m m).toNat : Int) == ((dotL l l ^^^ dotL m m).toNat : Int)) = true := by simp
    have x3 := HXx.out
    go_wp2_with fail
    refine (sameBytes_any _ _ _ _ _ oBk.seen sv).mono ?_
    rintro e w' ⟨rfl, rfl⟩
    rw [e3.out]
    go_wp2_with fail
    go_ret
    exact ⟨rfl, hB⟩
  · have hpf : pairOk l m = false := by simpa using hp
    have hno : ¬ (l.length ≤ 80 ∧ l.length = m.length) := fun h => hp ((pairOk_iff l m).2 h)
    have HA : Hid (addR l m = []) := if_neg hno
    have HZ : Hid ((addR l m).length = 0) := by show _ = 0; rw [HA.out]; rfl
    rw [hpf] at *
    clear hp hno hpf
    go_wp2_with fail
    refine (sameBytes_any _ _ _ _ _ oS.seen oT.seen).mono ?_
    rintro e w' ⟨rfl, rfl⟩
    rw [e1.out]
    generalize hz : (addR l m).length = z at *
    have hz0 : ((z : Int) == 0) = true := by have := HZ.out; simp; omega
    go_wp2_with fail
    go_ret
    exact ⟨by simp [hz0], hB⟩

theorem walk_FnVectors : G294.LawWalk Tryd.prog 4 Tryd.f4 Rows.fnVectorsSpec.vars false (fun W => laidMetH Tryd.prog Rows.fnVectorsRow.laid W) := by
  intro H enc W base args ds gs before hval hW hX
  have hlt0 : ∀ p ∈ before, p.block < W.heap.size := fun p hp => hW.lt p hp
  obtain ⟨p, q, hA, hV, rfl, hfz, hnd⟩ := hW
  rw [Tryd.params4] at hA hval
  obtain ⟨u0, u1, d0, d1, p0, p1, rfl, rfl, rfl, t0, t1⟩ := trodAll_two hA
  obtain ⟨l0, sn0⟩ := seen_bytes Tryd.underlying22 Tryd.underlying5 (by kernel_rfl) (hval 0 22 u0 rfl rfl) t0 (fun x hx => hlt0 x (by simp [hx]))
  obtain ⟨l1, sn1⟩ := seen_bytes Tryd.underlying22 Tryd.underlying5 (by kernel_rfl) (hval 1 22 u1 rfl rfl) t1 (fun x hx => hlt0 x (by simp [hx]))
  obtain ⟨ht, hs⟩ := tab_of (by kernel_rfl) hX 0 rfl (by kernel_rfl)
  exact vectors_walk u0 u1 l0 l1 W sn0 sn1 ht hs

end Go.Proofs.YtmkihipjfcknfaaDoor
