/- The walk of FnMoved. -/
import Derived.Test.YtdbgkpmdimapdaaRows
import Derived.Test.YtdbgkpmdimapdaaOpenArgs
import Derived.Test.YtdbgkpmdimapdaaCurMv
import Derived.Test.YtdbgkpmdimapdaaMvfT
import Derived.Test.YtdbgkpmdimapdaaMvbX
import Derived.Test.YtdbgkpmdimapdaaMvbS
import Derived.Test.YtdbgkpmdimapdaaSmlX
import Derived.Test.YtdbgkpmdimapdaaSameBytes
import Derived.Test.YtdbgkpmdimapdaaFrame
import Derived.WalkSmall
set_option linter.unusedSimpArgs false
set_option linter.unusedVariables false
namespace G294
open Go Go.RowKit
theorem mvbR_len (m : List UInt8) : (mvbR m).length ≤ 1000000000000 := by
  by_cases h : mvdOk m = true
  · rw [mvbR_yes h, unmoved_length]
    have : m.length ≤ 200 := by simpa [mvdOk, mvdB] using h
    omega
  · rw [mvbR_no (by simpa using h)]; simp
theorem mvb_again {m : List UInt8} (h : mvdOk m = true) : mvfR (mvbR m) = m ∧ mvdOk (mvbR m) = true := by
  have h2 : mvdOk (mvbR m) = true := by rw [mvbR_yes h]; simpa [mvdOk] using h
  exact ⟨by rw [mvfR_yes h2, mvbR_yes h, moved_unmoved], h2⟩
theorem mvf_again {s : List UInt8} (h : mvdOk s = true) : mvbR (moved s) = s ∧ mvdOk (moved s) = true := by
  have h2 : mvdOk (moved s) = true := by simpa [mvdOk, moved] using h
  exact ⟨by rw [mvbR_yes h2]; exact mb_mf okR_inc s, h2⟩
theorem turn_drewV (w : World) (q : Nat) : TurnIn 0 0 w (w.drewN q) := ⟨rfl, rfl, rfl, Nat.le_refl _, fun _ _ _ => rfl⟩
theorem sml_of {l : List UInt8} (h : mvdOk l = true) {b : Int} (h0 : 0 ≤ b) (h1 : b ≤ 256) : smlOk l b = true ∧ smlR l b = (smallN l b : Nat) := by
  have h2 : smlOk l b = true := by
    have h' : mvdB l.length = true := h
    simp [smlOk, h', Go.Proofs.Ytdbgkpmdimapdaa.inB, h0, h1]
  exact ⟨h2, smlR_yes h2⟩
end G294
namespace Go.Proofs.Ytdbgkpmdimapdaa
open Go.RowKit G294

set_option maxRecDepth 100000 in
set_option maxHeartbeats 8000000 in
theorem moved_walk (v u : Value) (l0 m0 : List UInt8) (w : World) (hv : Seen w v (bys l0)) (hu : Seen w u (bys m0)) :
    Calls Try.prog 4 #[v, u] w fun e w' => e = .returned (.bool true) ∧ Below w.heap.size w w' := by
  have HV := Lib.hid hv
  have HSU := Lib.hid hu
  obtain ⟨A, c, rfl, hlc, hcm, hx⟩ := hv
  obtain ⟨A', c', rfl, hlc', hcm', hx'⟩ := hu
  rw [bys_length] at hlc hlc' HV HSU
  simp only [bys_length]
  clear hx hx'
  unfold maxLen at hcm hcm'
  generalize l0.length = n1 at *
  generalize m0.length = n2 at *
  by_cases hbig : 1048576 < wrap64 ((n1 : Int) + (n2 : Int))
  · go_enter Try.func4, Try.ntmps4
    go_wp2_with fail
    go_ret
    exact ⟨rfl, Below.refl _ _⟩
  go_enter Try.func4, Try.ntmps4
  go_wp2_with fail
  refine (drawMoveFront_any _ l0 _ HV.out).mono ?_
  rintro e w1 ⟨s, rfl, hs400, k1⟩
  have K1 := Lib.hid k1
  clear k1
  have hsz := str_size s
  have HT1 := Lib.hid (fun W => moveFront_own s W (by omega))
  have HT2 := Lib.hid (fun W => sMoveFront_own s W (by omega))
  have HDR := Lib.hid (fun W (h : Seen W (.slice A' n2 c') (bys m0)) => drawMoveBack_any _ m0 W h)
  by_cases hok : mvdOk s = true
  · have hn : s.length ≤ 200 := by simpa [mvdOk, mvdB] using hok
    rw [hok, mvfR_yes hok] at HT1 HT2
    obtain ⟨hb1, hb2⟩ := mvf_again hok
    have HMB := Lib.hid (fun v W h => moveBack_own v (moved s) W h)
    rw [hb1, hb2] at HMB
    have HS1 := Lib.hid (fun v W h => smallIn_own v (moved s) 1 W h)
    have HS2 := Lib.hid (fun v W h => smallIn_own v (moved s) 256 W h)
    rw [(sml_of hb2 (by omega) (by omega)).1, (sml_of hb2 (by omega) (by omega)).2] at HS1 HS2
    rw [smallN_all] at HS2
    have HML : Hid ((moved s).length = s.length) := by show _ = _; simp [moved]
    have HSG := Lib.hid (fun k h => str_get s k h)
    have HMZ := Lib.hid (fun i h => moved_zero s i h)
    have HTK := Lib.hid (fun k (h : k < (moved s).length) => smallN_takeD (l := moved s) (k := k) 1 h)
    have HLE := Lib.hid (fun k => Nat.le_trans (smallN_le ((moved s).take k) 1) (by simpa using Nat.min_le_left k (moved s).length))
    have HALL : Hid (smallN ((moved s).take (moved s).length) 1 = smallN (moved s) 1) := by show _ = _; rw [List.take_length]
    have HZ : Hid (smallN ((moved s).take 0) 1 = 0) := Lib.hid rfl
    have HAL := Lib.hid (smallN_le (moved s) 1)
    have hss : ((str s).toList == (str s).toList) = true := by simp
    rw [HML.out] at HTK HALL HAL HS2
    clear hok hb1 hb2
    generalize moved s = M at *
    generalize s.length = n at *
    go_wp2_with fail
    refine (HT1.out _).mono ?_
    rintro e w2 ⟨v2, rfl, hO2, k2⟩
    have K2 := Lib.hid (turn_trans K1.out k2 (by omega))
    have HO2 := Lib.hid hO2.seen
    clear k2 hO2
    go_wp2_with fail
    refine (HT2.out _).mono ?_
    rintro e w3 ⟨v3, rfl, hO3, k3⟩
    have K3 := Lib.hid (turn_trans K2.out k3 (by omega))
    have HO23 := Lib.hid (HO2.out.touch k3)
    have HSAM := Lib.hid (sameBytes_any v2 v3 M M w3 HO23.out hO3.seen)
    rw [beq_self_eq_true] at HSAM
    clear k3 hO3
    go_wp2_with fail
    refine HSAM.out.mono ?_
    rintro e w4 ⟨rfl, rfl⟩
    go_wp2_with fail
    refine (HMB.out _ _ HO23.out).mono ?_
    rintro e w5 ⟨rfl, k5⟩
    have K5 := Lib.hid (turn_trans K3.out k5 (by omega))
    have HO5 := Lib.hid (HO23.out.touch k5)
    obtain ⟨A5, c5, hv5, hx5⟩ := seen_getD HO5.out
    rw [HML.out] at hv5 hx5
    subst hv5
    clear k5 HO23 HO2 K1 K2 K3 HT1 HT2 HSAM HMB
    go_wp2_with fail
    go_loopw [12, 74] (fun z y wr => ∃ i : Nat, i ≤ n ∧ y = .int .i64 i ∧ z = .int .i64 (smallN (M.take i) 1 : Nat) ∧ Hid (TurnIn 0 0 w5 wr)) (fun _ y _ => n - (intOf y).toNat)
    case atStart => exact ⟨0, Nat.zero_le _, rfl, by rw [HZ.out]; rfl, Lib.hid (TurnIn.refl _)⟩
    case round =>
      obtain ⟨i, hi, rfl, rfl, HK⟩ := hrel
      by_cases hlt : i < n
      · have hki : (i : Int) < (n : Int) := by omega
        obtain ⟨b, off, rfl, hbl, hcell⟩ := hx5 (by omega)
        have hc := (HK.out.to_below.cell (p := ⟨b, off + i, none⟩) hbl).trans (hcell i hlt)
        have HT := Lib.hid (HTK.out i hlt)
        have hle := HLE.out i
        generalize smallN (M.take i) 1 = z at *
        rcases i with _ | j
        · have hd0 : decide ((0 : Int) < ((0 : Nat) : Int)) = false := by decide
          have hc0 := show wr.cell? ⟨b, off, none⟩ = _ from hc
          generalize hx : (M.getD 0 0).toNat = x at *
          clear hx hcell
          by_cases hx0 : x = 0
          · subst hx0
            go_wp2_with fail
            go_quiet (fail)
            have HK7 := Lib.hid (turn_trans HK.out (turn_drewV wr nq) (by omega))
            have HY : Hid (smallN (M.take (0 + 1)) 1 = z + 1) := by show _ = _; have := HT.out; rw [if_pos (by omega)] at this; exact this
            go_wp2_with fail
            go_roundw
            case rel => exact ⟨0 + 1, by omega, by go_num, by rw [HY.out]; go_num, HK7⟩
            case measure => simp [intOf]; omega
          · have hxb : ((x : Int) == 0) = false := by rw [beq_eq_false_iff_ne]; omega
            go_wp2_with fail
            go_quiet (fail)
            have HK7 := Lib.hid (turn_trans HK.out (turn_drewV wr nq) (by omega))
            have HY : Hid (smallN (M.take (0 + 1)) 1 = z) := by show _ = _; have := HT.out; rw [if_neg (by omega)] at this; simpa using this
            go_wp2_with fail
            go_roundw
            case rel => exact ⟨0 + 1, by omega, by go_num, by rw [HY.out], HK7⟩
            case measure => simp [intOf]; omega
        · have hj0 : (0 : Int) < (j : Int) + 1 := by omega
          have g1 := HSG.out (j + 1) (by omega)
          have g2 := HSG.out j (by omega)
          have hmz := HMZ.out j (by omega)
          by_cases hy : s.getD (j + 1) 0 = s.getD j 0
          · have hx := hmz.2 hy
            rw [hx] at hc HT
            rw [hy] at g1
            generalize s.getD j 0 = a at *
            have haa : ((a.toNat : Int) == (a.toNat : Int)) = true := beq_self_eq_true _
            have h00 : (((0 : UInt8).toNat : Nat) : Int) = 0 := rfl
            rw [h00] at hc HT
            clear hx hmz hcell
            go_wp2_with fail
            go_quiet (fail)
            have HK7 := Lib.hid (turn_trans HK.out (turn_drewV wr nq) (by omega))
            have HY : Hid (smallN (M.take (j + 1 + 1)) 1 = z + 1) := by show _ = _; have := HT.out; rw [if_pos (by omega)] at this; exact this
            go_wp2_with fail
            go_roundw
            case rel => exact ⟨j + 1 + 1, by omega, by go_num, by rw [HY.out]; go_num, HK7⟩
            case measure => simp [intOf]; omega
          · have hx := fun e => hy (hmz.1 e)
            have hxt : (M.getD (j + 1) 0).toNat ≠ 0 := fun e => hx (UInt8.toNat_inj.1 (by rw [e]; rfl))
            have hab : (((s.getD (j + 1) 0).toNat : Int) == ((s.getD j 0).toNat : Int)) = false := by rw [beq_eq_false_iff_ne]; intro e; exact hy (UInt8.toNat_inj.1 (by omega))
            generalize s.getD (j + 1) 0 = a' at *
            generalize s.getD j 0 = a at *
            generalize (M.getD (j + 1) 0).toNat = x at *
            have hxb : ((x : Int) == 0) = false := by rw [beq_eq_false_iff_ne]; omega
            clear hx hmz hcell hy
            go_wp2_with fail
            go_quiet (fail)
            have HK7 := Lib.hid (turn_trans HK.out (turn_drewV wr nq) (by omega))
            have HY : Hid (smallN (M.take (j + 1 + 1)) 1 = z) := by show _ = _; have := HT.out; rw [if_neg (by omega)] at this; simpa using this
            go_wp2_with fail
            go_roundw
            case rel => exact ⟨j + 1 + 1, by omega, by go_num, by rw [HY.out], HK7⟩
            case measure => simp [intOf]; omega
      · obtain rfl : i = n := by omega
        have hki : ¬ (i : Int) < (i : Int) := by omega
        have K6 := Lib.hid (turn_trans K5.out HK.out (by omega))
        have HO6 := Lib.hid (HO5.out.touch HK.out)
        rw [HALL.out]
        have hal := HAL.out
        generalize smallN M 1 = z at *
        have hzz : ((z : Int) != (z : Int)) = false := bne_self_eq_false _
        have hii : ((i : Int) != (i : Int)) = false := bne_self_eq_false _
        clear HK hx5 HO5 K5 HTK HLE HALL HZ HMZ HSG
        go_wp2_with fail
        refine (HS1.out _ _ HO6.out).mono ?_
        rintro e w7 ⟨rfl, k7⟩
        have K7 := Lib.hid (turn_trans K6.out k7 (by omega))
        have HO7 := Lib.hid (HO6.out.touch k7)
        clear k7
        go_wp2_with fail
        refine (HS2.out _ _ HO7.out).mono ?_
        rintro e w8 ⟨rfl, k8⟩
        have K8 := Lib.hid (turn_trans K7.out k8 (by omega))
        clear k8
        go_wp2_with fail
        refine (HDR.out _ (HSU.out.touch K8.out)).mono ?_
        rintro e wA ⟨vm, m, rfl, hsm, hm400, kA⟩
        have KA := Lib.hid (turn_trans K8.out kA (by omega))
        have HSM := Lib.hid hsm
        have HIB := Lib.hid (fun W h => moveBack_own vm m W h)
        have HSB := Lib.hid (fun W h => sMoveBack_own vm m W h)
        have HMF := Lib.hid (fun W => moveFront_own (mvbR m) W (mvbR_len m))
        have hrr : ((str (mvbR m)).toList == (str (mvbR m)).toList) = true := by simp
        by_cases hbo : mvdOk m = true
        · have HB1 := Lib.hid (mvb_again hbo)
          rw [hbo] at HIB HSB
          rw [HB1.out.1, HB1.out.2] at HMF
          generalize mvbR m = z at *
          clear kA hsm hbo HB1
          go_wp2_with fail
          refine (HIB.out _ HSM.out).mono ?_
          rintro e wB ⟨rfl, kB⟩
          have KB := Lib.hid (turn_trans KA.out kB (by omega))
          have HSM2 := Lib.hid (HSM.out.touch kB)
          clear kB
          go_wp2_with fail
          refine (HSB.out _ HSM2.out).mono ?_
          rintro e wC ⟨rfl, kC⟩
          have KC := Lib.hid (turn_trans KB.out kC (by omega))
          have HSM3 := Lib.hid (HSM2.out.touch kC)
          clear kC
          go_wp2_with fail
          refine (HMF.out _).mono ?_
          rintro e wD ⟨vD, rfl, hOD, kD⟩
          have KD := Lib.hid (turn_trans KC.out kD (by omega))
          have HSAM := Lib.hid (sameBytes_any vD vm m m wD hOD.seen (HSM3.out.touch kD))
          rw [beq_self_eq_true] at HSAM
          clear kD hOD
          go_wp2_with fail
          refine HSAM.out.mono ?_
          rintro e wE ⟨rfl, rfl⟩
          go_wp2_with fail
          go_ret
          exact ⟨rfl, KD.out.to_below⟩
        · have hbo' : mvdOk m = false := by simpa using hbo
          have HB1 := Lib.hid (mvbR_no hbo')
          rw [hbo'] at HIB HSB
          rw [HB1.out] at HIB HSB HMF
          have hr0 : ((str []).toList == (str []).toList) = true := by simp
          clear kA hsm hbo hbo' HB1 hrr
          go_wp2_with fail
          refine (HIB.out _ HSM.out).mono ?_
          rintro e wB ⟨rfl, kB⟩
          have KB := Lib.hid (turn_trans KA.out kB (by omega))
          have HSM2 := Lib.hid (HSM.out.touch kB)
          clear kB
          go_wp2_with fail
          refine (HSB.out _ HSM2.out).mono ?_
          rintro e wC ⟨rfl, kC⟩
          have KC := Lib.hid (turn_trans KB.out kC (by omega))
          clear kC
          go_wp2_with fail
          refine (HMF.out _).mono ?_
          rintro e wD ⟨vD, rfl, hOD, kD⟩
          have KD := Lib.hid (turn_trans KC.out kD (by omega))
          clear kD hOD
          go_wp2_with fail
          go_ret
          exact ⟨rfl, KD.out.to_below⟩
  · have hok2 : mvdOk s = false := by simpa using hok
    rw [hok2, mvfR_no hok2] at HT1 HT2
    clear hok hok2
    go_wp2_with fail
    refine (HT1.out _).mono ?_
    rintro e w2 ⟨v2, rfl, hO2, k2⟩
    have K2 := Lib.hid (turn_trans K1.out k2 (by omega))
    have HO2 := Lib.hid hO2.seen
    clear k2 hO2
    go_wp2_with fail
    refine (HT2.out _).mono ?_
    rintro e w3 ⟨v3, rfl, hO3, k3⟩
    have K3 := Lib.hid (turn_trans K2.out k3 (by omega))
    have HSAM := Lib.hid (sameBytes_any v2 v3 [] [] w3 (HO2.out.touch k3) hO3.seen)
    rw [beq_self_eq_true] at HSAM
    clear k3 hO3
    go_wp2_with fail
    refine HSAM.out.mono ?_
    rintro e w4 ⟨rfl, rfl⟩
    go_wp2_with fail
    refine (HDR.out _ (HSU.out.touch K3.out)).mono ?_
    rintro e wA ⟨vm, m, rfl, hsm, hm400, kA⟩
    have KA := Lib.hid (turn_trans K3.out kA (by omega))
    have HSM := Lib.hid hsm
    have HIB := Lib.hid (fun W h => moveBack_own vm m W h)
    have HSB := Lib.hid (fun W h => sMoveBack_own vm m W h)
    have HMF := Lib.hid (fun W => moveFront_own (mvbR m) W (mvbR_len m))
    have hrr : ((str (mvbR m)).toList == (str (mvbR m)).toList) = true := by simp
    by_cases hbo : mvdOk m = true
    · have HB1 := Lib.hid (mvb_again hbo)
      rw [hbo] at HIB HSB
      rw [HB1.out.1, HB1.out.2] at HMF
      generalize mvbR m = z at *
      clear kA hsm hbo HB1
      go_wp2_with fail
      refine (HIB.out _ HSM.out).mono ?_
      rintro e wB ⟨rfl, kB⟩
      have KB := Lib.hid (turn_trans KA.out kB (by omega))
      have HSM2 := Lib.hid (HSM.out.touch kB)
      clear kB
      go_wp2_with fail
      refine (HSB.out _ HSM2.out).mono ?_
      rintro e wC ⟨rfl, kC⟩
      have KC := Lib.hid (turn_trans KB.out kC (by omega))
      have HSM3 := Lib.hid (HSM2.out.touch kC)
      clear kC
      go_wp2_with fail
      refine (HMF.out _).mono ?_
      rintro e wD ⟨vD, rfl, hOD, kD⟩
      have KD := Lib.hid (turn_trans KC.out kD (by omega))
      have HSAM := Lib.hid (sameBytes_any vD vm m m wD hOD.seen (HSM3.out.touch kD))
      rw [beq_self_eq_true] at HSAM
      clear kD hOD
      go_wp2_with fail
      refine HSAM.out.mono ?_
      rintro e wE ⟨rfl, rfl⟩
      go_wp2_with fail
      go_ret
      exact ⟨rfl, KD.out.to_below⟩
    · have hbo' : mvdOk m = false := by simpa using hbo
      have HB1 := Lib.hid (mvbR_no hbo')
      rw [hbo'] at HIB HSB
      rw [HB1.out] at HIB HSB HMF
      have hr0 : ((str []).toList == (str []).toList) = true := by simp
      clear kA hsm hbo hbo' HB1 hrr
      go_wp2_with fail
      refine (HIB.out _ HSM.out).mono ?_
      rintro e wB ⟨rfl, kB⟩
      have KB := Lib.hid (turn_trans KA.out kB (by omega))
      have HSM2 := Lib.hid (HSM.out.touch kB)
      clear kB
      go_wp2_with fail
      refine (HSB.out _ HSM2.out).mono ?_
      rintro e wC ⟨rfl, kC⟩
      have KC := Lib.hid (turn_trans KB.out kC (by omega))
      clear kC
      go_wp2_with fail
      refine (HMF.out _).mono ?_
      rintro e wD ⟨vD, rfl, hOD, kD⟩
      have KD := Lib.hid (turn_trans KC.out kD (by omega))
      clear kD hOD
      go_wp2_with fail
      go_ret
      exact ⟨rfl, KD.out.to_below⟩

set_option maxRecDepth 100000 in
theorem walk_FnMoved : G294.LawWalk Try.prog 4 Try.f4 Rows.fnMovedSpec.vars false (fun _ => True) := by
  intro H enc W base args ds gs before hval hW hX
  have hlt0 : ∀ p ∈ before, p.block < W.heap.size := fun p hp => hW.lt p hp
  obtain ⟨p, q, hA, hV, rfl, hfz, hnd⟩ := hW
  rw [Try.params4] at hA hval
  obtain ⟨u0, u1, d0, d1, p0, p1, rfl, rfl, rfl, t0, t1⟩ := Go.ChangeShapes.trodAll_two hA
  obtain ⟨l0, sn0⟩ := seen_bytes Try.underlying22 Try.underlying5 (by kernel_rfl) (hval 0 22 u0 rfl rfl) t0 (fun x hx => hlt0 x (by simp [hx]))
  obtain ⟨l1, sn1⟩ := seen_bytes Try.underlying22 Try.underlying5 (by kernel_rfl) (hval 1 22 u1 rfl rfl) t1 (fun x hx => hlt0 x (by simp [hx]))
  exact moved_walk u0 u1 l0 l1 W sn0 sn1

end Go.Proofs.Ytdbgkpmdimapdaa
