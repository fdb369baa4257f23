/- The walk of FnShamir. -/
import Derived.Test.YtgbhcjfnkjhkiaaDoorRows
import Derived.Test.YtgbhcjfnkjhkiaaDoorBd00
import Derived.Test.YtgbhcjfnkjhkiaaDoorBd12
import Derived.Test.YtgbhcjfnkjhkiaaDoorBd13
import Derived.Test.YtgbhcjfnkjhkiaaDoorBd10
set_option linter.unusedSimpArgs false
set_option linter.unusedVariables false
namespace Go.Proofs.YtgbhcjfnkjhkiaaDoor
open Go.ChangeShapes Go.WideShapes Go.ChangeAt Go.RowKit G294

set_option maxRecDepth 100000 in
set_option maxHeartbeats 8000000 in
theorem shamir_walk (v u : Value) (l0 m0 : List UInt8) (w : World) (hv : Seen w v (bys l0)) (hu : Seen w u (bys m0)) (ht : Tab w) (h0 : 0 < w.heap.size) :
    Calls Tryd.prog 5 #[v, u] w fun e w' => e = .returned (.bool true) ∧ Below w.heap.size w w' := by
  have HV := Lib.hid hv
  have HU := Lib.hid hu
  obtain ⟨A, c, rfl, hlc, hcm, hx⟩ := hv
  obtain ⟨A', c', rfl, hlc', hcm', hx'⟩ := hu
  rw [bys_length] at hlc hlc' HV HU
  simp only [bys_length]
  clear hx hx'
  unfold maxLen at hcm hcm'
  generalize l0.length = n1 at *
  generalize m0.length = n2 at *
  have HTB : Hid (∀ W, TurnIn 0 0 w W → Tab W ∧ 0 < W.heap.size) := fun W h => ⟨ht.below h.to_below h0, by have := h.size; omega⟩
  clear ht
  by_cases hbig : 1048576 < wrap64 ((n1 : Int) + (n2 : Int))
  · go_enter Tryd.func5, Tryd.ntmps5
    go_wp2_with fail
    go_ret
    exact ⟨rfl, Below.refl _ _⟩
  go_enter Tryd.func5, Tryd.ntmps5
  go_wp2_with fail
  refine (drawShareSecret_any _ l0 _ HV.out).mono ?_
  rintro e w1 ⟨s, vr, r, n, rfl, hr20, orr, kk⟩
  obtain ⟨Ar, cr, hvr⟩ := orr.seen.len
  rw [bys_length] at hvr
  subst hvr
  have z1 := kk.size
  have HNO := Lib.hid orr.nilOk
  go_wp2_with fail
  refine (shareSecret_own s _ r n _ orr.seen (HTB.out _ kk).1 (HTB.out _ kk).2).mono ?_
  rintro e w2 ⟨vs, rfl, os, k2⟩
  replace orr := orr.keep k2 (by omega)
  replace kk := turn_trans kk k2 (by omega)
  have z2 := k2.size
  clear k2
  go_wp2_with fail
  refine (sShareSecret_own s _ r n _ orr.seen HNO.out).mono ?_
  rintro e w3 ⟨vt, rfl, ot, k3⟩
  replace os := os.keep k3 (by omega)
  replace kk := turn_trans kk k3 (by omega)
  clear k3 orr
  obtain ⟨ok, hok⟩ : ∃ ok, ok = shaOk r n := ⟨_, rfl⟩
  rw [← hok]
  have HOK := Lib.hid hok
  have hoo : (ok != ok) = false := by simp
  clear hok
  go_wp2_with fail
  refine (sameShares_same _ _ (shaR s r n) _ os.seen ot.seen).mono ?_
  rintro e w4 ⟨rfl, k4⟩
  have HS4 := Lib.hid (os.keep k4 (by omega))
  replace kk := turn_trans kk k4 (by omega)
  have z4 := k4.size
  clear k4 os ot
  generalize hrl : r.length = rl at *
  have HRL := Lib.hid hrl
  clear hrl
  cases ok
  · go_wp2_with fail
    refine (drawPolyAt_any _ m0 _ (HU.out.touch kk)).mono ?_
    rintro e x1 ⟨vp, pp, x, rfl, op, k1⟩
    have zz := kk.size
    replace kk := turn_trans kk k1 (by omega)
    clear k1
    go_wp2_with fail
    refine (polyAt_own _ pp x _ op.seen (HTB.out _ kk).1 (HTB.out _ kk).2).mono ?_
    rintro e x2 ⟨rfl, k2⟩
    replace op := op.keep k2 (by omega)
    replace kk := turn_trans kk k2 (by omega)
    clear k2
    go_wp2_with fail
    refine (sPolyAt_own _ pp x _ op.seen).mono ?_
    rintro e x3 ⟨rfl, k3⟩
    replace kk := turn_trans kk k3 (by omega)
    clear k3 op
    go_wp2_with fail
    refine (drawInterpolate_any _ m0 _ (HU.out.touch kk)).mono ?_
    rintro e x4 ⟨va, a, xa, rfl, ha, oa, k4⟩
    have zz2 := kk.size
    replace kk := turn_trans kk k4 (by omega)
    clear k4 ha
    go_wp2_with fail
    refine (interpolate_own _ a xa _ oa.seen (HTB.out _ kk).1 (HTB.out _ kk).2).mono ?_
    rintro e x5 ⟨rfl, k5⟩
    replace oa := oa.keep k5 (by omega)
    replace kk := turn_trans kk k5 (by omega)
    clear k5
    go_wp2_with fail
    refine (sInterpolate_own _ a xa _ oa.seen).mono ?_
    rintro e x6 ⟨rfl, k6⟩
    replace kk := turn_trans kk k6 (by omega)
    clear k6 oa
    generalize polR pp x = q1 at *
    generalize polOk pp = q2 at *
    generalize intR a xa = q3 at *
    generalize intOk a = q4 at *
    have hq1 : ((q1.toNat : Int) == (q1.toNat : Int)) = true := by simp
    have hq2 : (q2 == q2) = true := by simp
    have hq3 : ((q3.toNat : Int) == (q3.toNat : Int)) = true := by simp
    have hq4 : (q4 == q4) = true := by simp
    go_wp2_with fail
    go_ret
    exact ⟨rfl, kk.to_below⟩
  · by_cases hnk : (rl : Int) + 1 ≤ n
    · have hsh := HOK.out.symm
      have hb : 1 ≤ n ∧ n ≤ 20 := by simp only [shaOk, Bool.and_eq_true, decide_eq_true_eq] at hsh; exact hsh.2
      obtain ⟨m, rfl⟩ := Int.eq_ofNat_of_zero_le (show 0 ≤ n by omega)
      have HSR : Hid (shaR s r m = shaL s r m) := shaR_yes hsh
      have hm20 : m ≤ 20 := by omega
      have hkm : rl + 1 ≤ m := by omega
      have HKE : Hid ((rl : Int) + 1 = ((rl + 1 : Nat) : Int)) := by show _ = _; omega
      have HSH := Lib.hid (sha_shared s r (n := m) (k := rl + 1) hm20 (by rw [HRL.out]) hkm)
      obtain ⟨ids, hids⟩ : ∃ ids, ids = takes m (rl + 1) (evenAt m0) m := ⟨_, rfl⟩
      obtain ⟨hri, hle, _⟩ := takes_inv hkm (evenAt m0) m (Nat.le_refl _)
      rw [← hids] at hri hle
      have HRI := Lib.hid hri
      have hids20 := rises_len hri
      have hlen : rl + 1 ≤ ids.length := by omega
      have HIDS := Lib.hid hids
      have HOP := Lib.hid (some_open s r (ids := ids) (n := m) (k := rl + 1) hri hm20 (by rw [HRL.out]) hlen)
      obtain ⟨As, cs, hvs⟩ := HS4.out.seen.len
      rw [HSR.out, shaL_length] at hvs
      subst hvs
      clear hsh hb hri hle hids
      go_wp2_with fail
      rw [HKE.out]
      refine (someOf_own m (rl + 1) _ m0 _ (HU.out.touch kk) (by omega) hkm).mono ?_
      rintro e w5 ⟨v5, rfl, o5, k5⟩
      rw [← HIDS.out] at o5
      have HS5 := Lib.hid (HS4.out.keep k5 (by omega))
      replace kk := turn_trans kk k5 (by omega)
      have z5 := k5.size
      obtain ⟨A5, c5, h5⟩ := o5.seen.len
      rw [ints_length, List.length_map] at h5
      subst h5
      have HI5 := Lib.hid o5.seen
      have hcap5 : ids.length ≤ c5 ∧ c5 ≤ 9223372036854775807 := by
        obtain ⟨Ax, cx, e', h1, h2, _⟩ := HI5.out
        simp only [Value.slice.injEq] at e'
        unfold maxLen at h2
        rw [ints_length, List.length_map] at h1
        omega
      have hcaps : m ≤ cs ∧ cs ≤ 9223372036854775807 := by
        obtain ⟨Ax, cx, e', h1, h2, _⟩ := HS5.out.seen
        simp only [Value.slice.injEq] at e'
        unfold maxLen at h2
        rw [HSR.out, shaL_length] at h1
        omega
      generalize hil : ids.length = il at *
      have HIL := Lib.hid hil
      generalize hD : w5.heap.size = D at *
      have zD : D ≤ w5.heap.size := by omega
      have HDE := Lib.hid hD
      obtain ⟨hc51, hc52⟩ := hcap5
      obtain ⟨hcs1, hcs2⟩ := hcaps
      clear hil hD o5 k5 HS4
      go_wp2_with fail
      go_loopw [13, 83] (fun o i wr => ∃ (j : Nat) (v' : Value), j ≤ il ∧ i = .int .i64 j ∧ o = v' ∧ wr.ownsRow D 59 2 v' j (srs ((someL s r ids).take j)) ∧ TurnIn 0 0 w5 wr ∧ D ≤ wr.heap.size)
        (fun _ i _ => il - (intOf i).toNat)
      case atStart => exact ⟨0, _, Nat.zero_le _, rfl, rfl, World.ownsRow_nil _ _ _ _, TurnIn.refl _, zD⟩
      case round =>
        obtain ⟨j, v', hj, rfl, hov, ho, kT, zT⟩ := hrel
        replace hov := hov.symm
        subst hov
        clear zD
        by_cases hlt : j < il
        · have hji : (j : Int) < (il : Int) := by omega
          obtain ⟨Ax, cx, e', _, _, hx5⟩ := HI5.out.touch kT
          simp only [Value.slice.injEq] at e'
          obtain ⟨rfl, hnx, rfl⟩ := e'
          clear hnx
          have hjl : j < ids.length := by rw [HIL.out]; exact hlt
          obtain ⟨b5, o5, rfl, hb5, hc5⟩ := hx5 (by simp [HIL.out]; omega)
          obtain ⟨i, hi⟩ : ∃ i, i = ids[j] := ⟨_, rfl⟩
          have him : i < m := by rw [hi]; exact HRI.out.1 _ (List.getElem_mem hjl)
          have hcell := hc5 j (.int .i64 (i : Int)) (by simp [ints, hjl, hi])
          have hsn := HS5.out.seen.below kT.to_below
          obtain ⟨Ay, cy, e2, _, _, hy⟩ := hsn
          simp only [Value.slice.injEq] at e2
          obtain ⟨rfl, hny, rfl⟩ := e2
          clear hny
          rw [HSR.out] at hy
          obtain ⟨bs, os, rfl, hbs, hcs⟩ := hy (by simp; omega)
          have hgi := hcs i _ (shaL_get s r m i him)
          have hc1 := hgi.1
          have hc2 := hgi.2
          simp only at hc1 hc2
          have himi : (i : Int) < (m : Int) := by omega
          obtain ⟨x, hx⟩ : ∃ x, x = UInt8.ofNat (i + 1) := ⟨_, rfl⟩
          obtain ⟨y, hy'⟩ : ∃ y, y = hor x (s :: r) := ⟨_, rfl⟩
          rw [← hx, ← hy'] at hc2
          rw [← hx] at hc1
          have HGET : Hid ((someL s r ids).take j ++ [(x, y)] = (someL s r ids).take (j + 1)) := by
            show _ = _
            rw [List.take_add_one, someL_get s r ids j i (by rw [hi]; exact List.getElem?_eq_getElem hjl), hy', hx]; rfl
          have ta := turn_alloc wr (.cells #[.int .u8 (x.toNat : Int), .int .u8 (y.toNat : Int)] 59)
          have HOA := Lib.hid (owns_turn0 ho ta)
          have HKA := Lib.hid (turn_trans kT ta (by omega))
          clear hc5 hx5 hcs hy hgi hi hx hy' ho ta hjl
          go_wp2_with (at_builtin; refine wpList_appendR rfl _ _ _ rfl D 59 _ _ Tryd.underlying53 infoShare rfl _ j ((someL s r ids).take j) rfl HOA.out wr.heap.size x y rfl (by simp) (by simp) ?b1 (by omega) ?b3 ?_)
          case b1 => omega
          case b3 => simp; omega
          intro v7 w8 ho8 hg8 _
          rw [HGET.out] at ho8
          have k8 : TurnIn 0 0 w5 w8 := turn_grow HKA.out hg8 (fun g e => by have := (HOA.out.lt g e).1; have := HDE.out; omega)
          have z8 : D ≤ w8.heap.size := by have := hg8.size; simp at this; omega
          clear hg8 HOA HKA
          go_wp2_with fail
          go_roundw
          case rel => exact ⟨j + 1, _, by omega, by go_num, rfl, ho8, k8, z8⟩
          case measure => simp [intOf]; omega
        · obtain rfl : j = il := by omega
          have hji : ¬ (j : Int) < (j : Int) := by omega
          rw [List.take_of_length_le (by simp [HIL.out])] at ho
          have HSO : Hid (OwnSr 59 wr D wr.heap.size v' (someL s r ids)) := ⟨by rw [someL_length, HIL.out]; exact ho, Nat.le_refl _, fun g e => (ho.lt g e).2⟩
          have HS6 := Lib.hid (HS5.out.keep kT (by omega))
          obtain ⟨p1, p2, p3, p4⟩ := HOP.out
          obtain ⟨p5, p6⟩ := HSH.out
          have P1 := Lib.hid p1
          have P2 := Lib.hid p2
          have P3 := Lib.hid p3
          have P4 := Lib.hid p4
          have P5 := Lib.hid p5
          have P6 := Lib.hid p6
          replace kk := turn_trans kk kT (by omega)
          clear ho kT p1 p2 p3 p4 p5 p6
          go_wp2_with fail
          refine (openSecret_own _ (someL s r ids) ((rl + 1 : Nat) : Int) _ HSO.out.seen (HTB.out _ kk).1 (HTB.out _ kk).2).mono ?_
          rintro e y1 ⟨rfl, q1⟩
          rw [P1.out, P2.out]
          have HSO1 := Lib.hid (HSO.out.keep q1 (by omega))
          have HS7 := Lib.hid (HS6.out.keep q1 (by omega))
          replace kk := turn_trans kk q1 (by omega)
          clear q1
          go_wp2_with fail
          refine (isShared_own _ (shaL s r m) ((rl + 1 : Nat) : Int) _ (HSR.out ▸ HS7.out.seen) (HTB.out _ kk).1 (HTB.out _ kk).2).mono ?_
          rintro e y2 ⟨rfl, q2⟩
          rw [P5.out, P6.out]
          have HSO2 := Lib.hid (HSO1.out.keep q2 (by omega))
          replace kk := turn_trans kk q2 (by omega)
          clear q2
          go_wp2_with fail
          refine (interpolate_own _ (someL s r ids) 0 _ HSO2.out.seen (HTB.out _ kk).1 (HTB.out _ kk).2).mono ?_
          rintro e y3 ⟨rfl, q3⟩
          rw [P3.out, P4.out]
          replace kk := turn_trans kk q3 (by omega)
          have hss : ((s.toNat : Int) != (s.toNat : Int)) = false := by simp
          clear q3 HSO HSO1 HSO2 HS6 HS7
          go_wp2_with fail
          refine (drawPolyAt_any _ m0 _ (HU.out.touch kk)).mono ?_
          rintro e x1 ⟨vp, pp, x, rfl, op, k1⟩
          have zz := kk.size
          replace kk := turn_trans kk k1 (by omega)
          clear k1
          go_wp2_with fail
          refine (polyAt_own _ pp x _ op.seen (HTB.out _ kk).1 (HTB.out _ kk).2).mono ?_
          rintro e x2 ⟨rfl, k2⟩
          replace op := op.keep k2 (by omega)
          replace kk := turn_trans kk k2 (by omega)
          clear k2
          go_wp2_with fail
          refine (sPolyAt_own _ pp x _ op.seen).mono ?_
          rintro e x3 ⟨rfl, k3⟩
          replace kk := turn_trans kk k3 (by omega)
          clear k3 op
          go_wp2_with fail
          refine (drawInterpolate_any _ m0 _ (HU.out.touch kk)).mono ?_
          rintro e x4 ⟨va, a, xa, rfl, ha, oa, k4⟩
          have zz2 := kk.size
          replace kk := turn_trans kk k4 (by omega)
          clear k4 ha
          go_wp2_with fail
          refine (interpolate_own _ a xa _ oa.seen (HTB.out _ kk).1 (HTB.out _ kk).2).mono ?_
          rintro e x5 ⟨rfl, k5⟩
          replace oa := oa.keep k5 (by omega)
          replace kk := turn_trans kk k5 (by omega)
          clear k5
          go_wp2_with fail
          refine (sInterpolate_own _ a xa _ oa.seen).mono ?_
          rintro e x6 ⟨rfl, k6⟩
          replace kk := turn_trans kk k6 (by omega)
          clear k6 oa
          generalize polR pp x = q1 at *
          generalize polOk pp = q2 at *
          generalize intR a xa = q3 at *
          generalize intOk a = q4 at *
          have hq1 : ((q1.toNat : Int) == (q1.toNat : Int)) = true := by simp
          have hq2 : (q2 == q2) = true := by simp
          have hq3 : ((q3.toNat : Int) == (q3.toNat : Int)) = true := by simp
          have hq4 : (q4 == q4) = true := by simp
          go_wp2_with fail
          go_ret
          exact ⟨rfl, kk.to_below⟩
    · have hnk2 : ¬ (rl : Int) + 1 ≤ n := hnk
      go_wp2_with fail
      refine (drawPolyAt_any _ m0 _ (HU.out.touch kk)).mono ?_
      rintro e x1 ⟨vp, pp, x, rfl, op, k1⟩
      have zz := kk.size
      replace kk := turn_trans kk k1 (by omega)
      clear k1
      go_wp2_with fail
      refine (polyAt_own _ pp x _ op.seen (HTB.out _ kk).1 (HTB.out _ kk).2).mono ?_
      rintro e x2 ⟨rfl, k2⟩
      replace op := op.keep k2 (by omega)
      replace kk := turn_trans kk k2 (by omega)
      clear k2
      go_wp2_with fail
      refine (sPolyAt_own _ pp x _ op.seen).mono ?_
      rintro e x3 ⟨rfl, k3⟩
      replace kk := turn_trans kk k3 (by omega)
      clear k3 op
      go_wp2_with fail
      refine (drawInterpolate_any _ m0 _ (HU.out.touch kk)).mono ?_
      rintro e x4 ⟨va, a, xa, rfl, ha, oa, k4⟩
      have zz2 := kk.size
      replace kk := turn_trans kk k4 (by omega)
      clear k4 ha
      go_wp2_with fail
      refine (interpolate_own _ a xa _ oa.seen (HTB.out _ kk).1 (HTB.out _ kk).2).mono ?_
      rintro e x5 ⟨rfl, k5⟩
      replace oa := oa.keep k5 (by omega)
      replace kk := turn_trans kk k5 (by omega)
      clear k5
      go_wp2_with fail
      refine (sInterpolate_own _ a xa _ oa.seen).mono ?_
      rintro e x6 ⟨rfl, k6⟩
      replace kk := turn_trans kk k6 (by omega)
      clear k6 oa
      generalize polR pp x = q1 at *
      generalize polOk pp = q2 at *
      generalize intR a xa = q3 at *
      generalize intOk a = q4 at *
      have hq1 : ((q1.toNat : Int) == (q1.toNat : Int)) = true := by simp
      have hq2 : (q2 == q2) = true := by simp
      have hq3 : ((q3.toNat : Int) == (q3.toNat : Int)) = true := by simp
      have hq4 : (q4 == q4) = true := by simp
      go_wp2_with fail
      go_ret
      exact ⟨rfl, kk.to_below⟩

set_option maxRecDepth 100000 in
theorem walk_FnShamir : G294.LawWalk Tryd.prog 5 Tryd.f5 Rows.fnShamirSpec.vars false (fun W => laidMetH Tryd.prog Rows.fnShamirRow.laid W) := by
  intro H enc W base args ds gs before hval hW hX
  have hlt0 : ∀ p ∈ before, p.block < W.heap.size := fun p hp => hW.lt p hp
  obtain ⟨p, q, hA, hV, rfl, hfz, hnd⟩ := hW
  rw [Tryd.params5] at hA hval
  obtain ⟨u0, u1, d0, d1, p0, p1, rfl, rfl, rfl, t0, t1⟩ := trodAll_two hA
  obtain ⟨l0, sn0⟩ := seen_bytes Tryd.underlying22 Tryd.underlying5 (by kernel_rfl) (hval 0 22 u0 rfl rfl) t0 (fun x hx => hlt0 x (by simp [hx]))
  obtain ⟨l1, sn1⟩ := seen_bytes Tryd.underlying22 Tryd.underlying5 (by kernel_rfl) (hval 1 22 u1 rfl rfl) t1 (fun x hx => hlt0 x (by simp [hx]))
  obtain ⟨ht, hs⟩ := tab_of (by kernel_rfl) hX 0 rfl (by kernel_rfl)
  exact shamir_walk u0 u1 l0 l1 W sn0 sn1 ht hs

end Go.Proofs.YtgbhcjfnkjhkiaaDoor
