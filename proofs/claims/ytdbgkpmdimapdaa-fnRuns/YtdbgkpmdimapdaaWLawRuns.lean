/- The walk of FnRuns. -/
import Derived.Test.YtdbgkpmdimapdaaRows
import Derived.Test.YtdbgkpmdimapdaaBd00
import Derived.Test.YtdbgkpmdimapdaaBd07
import Derived.Test.YtdbgkpmdimapdaaBd05
import Derived.Test.YtdbgkpmdimapdaaBd06
import Derived.Test.YtdbgkpmdimapdaaBd09
import Derived.WalkSmall
import Derived.BigQuiet
set_option linter.unusedSimpArgs false
set_option linter.unusedVariables false
namespace G294
open Go Go.RowKit
theorem unp_back {t : List UInt8} (h : unpOk t = true) : pkdR (unpR t) = t ∧ goodRs (unpR t) = true := by
  cases e : unpOf t with
  | none => rw [(unp_none e).2] at h; cases h
  | some l =>
    obtain ⟨h1, h2⟩ := unpOf_spec e
    rw [(unp_some e).1]
    exact ⟨by rw [pkdR_yes h1, h2], h1⟩
theorem unp_less {t : List UInt8} (h : unpOk t = false) : unpR t = [] := by
  cases e : unpOf t with
  | none => exact (unp_none e).1
  | some l => rw [(unp_some e).2] at h; cases h
/-- what is known of the runs of a text -/
theorem rns_all {s : List UInt8} (h : mvdOk s = true) : goodRs (rnsR s) = true ∧ txtR (rnsR s) = s ∧ unpR (pkdR (rnsR s)) = rnsR s ∧ unpOk (pkdR (rnsR s)) = true ∧ (pkdR (rnsR s)).length ≤ s.length + s.length / 2 := by
  have hn : s.length ≤ 200 := by simpa [mvdOk, mvdB] using h
  have hg := rlOf_good hn
  rw [rnsR_yes h]
  have hu := unpOf_pkOf hg
  have hp := pk_half (rlOf s) (fun r hr => good_long hg hr)
  rw [txOf_rlOf] at hp
  rw [pkdR_yes hg]
  exact ⟨hg, by rw [txtR_yes hg, txOf_rlOf], (unp_some hu).1, (unp_some hu).2, hp⟩
end G294
namespace Go.Proofs.Ytdbgkpmdimapdaa
open Go.RowKit G294

set_option maxRecDepth 100000 in
set_option maxHeartbeats 1000000 in
theorem sameRuns_same (v u : Value) (l : List Ru) (w : World) (hv : SeenRu w v l) (hu : SeenRu w u l) :
    Calls Try.prog 39 #[v, u] w (RetBool w true) := by
  obtain ⟨A, c, rfl, hlc, hcm, hx⟩ := hv
  obtain ⟨A', c', rfl, hlc', hcm', hx'⟩ := hu
  unfold maxLen at hcm hcm'
  generalize hnn : l.length = n at *
  have HN := Lib.hid hnn
  clear hnn
  have hbn : ((n : Int) != (n : Int)) = false := by simp
  go_enter Try.func39, Try.ntmps39
  go_wp2_with fail
  go_loopw [13] (fun i wr => ∃ k : Nat, k ≤ n ∧ i = .int .i64 k ∧ Below w.heap.size w wr)
    (fun i _ => n - (intOf i).toNat)
  case atStart => exact ⟨0, Nat.zero_le _, rfl, Below.refl _ _⟩
  case round =>
    obtain ⟨k, hk, rfl, hb⟩ := hrel
    by_cases hlt : k < n
    · obtain ⟨b, off, rfl, hbl, hcell⟩ := hx (by omega)
      obtain ⟨b', off', rfl, hbl', hcell'⟩ := hx' (by omega)
      obtain ⟨⟨no, y⟩, hks⟩ := at_ltRu HN.out hlt
      have hc1 := (hb.cell (p := ⟨b, off + k * 2, none⟩) hbl).trans (hcell k _ hks).1
      have hc2 := (hb.cell (p := ⟨b, off + k * 2 + 1, none⟩) hbl).trans (hcell k _ hks).2
      have hd1 := (hb.cell (p := ⟨b', off' + k * 2, none⟩) hbl').trans (hcell' k _ hks).1
      have hd2 := (hb.cell (p := ⟨b', off' + k * 2 + 1, none⟩) hbl').trans (hcell' k _ hks).2
      simp only at hc1 hc2 hd1 hd2
      generalize (no.toNat : Int) = x at *
      have hxx : ((x : Int) == (x : Int)) = true := by simp
      have hyy : ((y : Int) == (y : Int)) = true := by simp
      have hxn : ((x : Int) != (x : Int)) = false := by simp
      have hyn : ((y : Int) != (y : Int)) = false := by simp
      clear hcell hcell' hx hx'
      have hbs := hb.size
      have hki : (k : Int) < (n : Int) := by omega
      go_wp2_with fail
      go_quiet (fail)
      have hb2 : Below w.heap.size w (wr.drewN nq) := below_drewN hb nq
      go_wp2_with fail
      go_roundw
      case rel => exact ⟨k + 1, by omega, by go_num, hb2⟩
      case measure => simp [intOf]; omega
    · obtain rfl : k = n := by omega
      go_wp2_with fail
      go_ret
      exact ⟨rfl, TurnIn.of_below hb⟩

set_option maxRecDepth 100000 in
set_option maxHeartbeats 8000000 in
theorem runs_walk (v u : Value) (l0 m0 : List UInt8) (w : World) (hv : Seen w v (bys l0)) (hu : Seen w u (bys m0)) :
    Calls Try.prog 5 #[v, u] w fun e w' => e = .returned (.bool true) ∧ Below w.heap.size w w' := by
  have HV := Lib.hid hv
  have HSU := Lib.hid hu
  obtain ⟨A, c, rfl, hlc, hcm, hx⟩ := hv
  obtain ⟨A', c', rfl, hlc', hcm', hx'⟩ := hu
  rw [bys_length] at hlc hlc' HV HSU
  simp only [bys_length]
  clear hx hx'
  unfold maxLen at hcm hcm'
  generalize l0.length = n1 at *
  generalize m0.length = n2 at *
  by_cases hbig : 1048576 < wrap64 ((n1 : Int) + (n2 : Int))
  · go_enter Try.func5, Try.ntmps5
    go_wp2_with fail
    go_ret
    exact ⟨rfl, Below.refl _ _⟩
  go_enter Try.func5, Try.ntmps5
  go_wp2_with fail
  refine (drawRunsOf_any _ l0 _ HV.out).mono ?_
  rintro e w1 ⟨s, rfl, hs400, k1⟩
  have K1 := Lib.hid k1
  clear k1
  have hsz := str_size s
  have HT1 := Lib.hid (fun W => runsOf_own s W (by omega))
  have HT2 := Lib.hid (fun W => sRunsOf_own s W (by omega))
  have HDR := Lib.hid (fun W (h : Seen W (.slice A' n2 c') (bys m0)) => drawUnpackRuns_any _ m0 W h)
  by_cases hok : mvdOk s = true
  · obtain ⟨hb1, hb2, hb3, hb4, hb5⟩ := rns_all hok
    have hn : s.length ≤ 200 := by simpa [mvdOk, mvdB] using hok
    rw [hok] at HT1 HT2
    have HTX := Lib.hid (fun v W h => textOf_own v (rnsR s) W h)
    have HPA := Lib.hid (fun v W h => packRuns_own v (rnsR s) W h)
    have HGD := Lib.hid (fun v W h => goodRuns_own v (rnsR s) W h)
    have HUN := Lib.hid (fun W => unpackRuns_own (pkdR (rnsR s)) W (by omega))
    rw [hb1] at HTX HPA HGD
    rw [hb2] at HTX
    rw [hb3, hb4] at HUN
    have hss : ((str s).toList == (str s).toList) = true := by simp
    have hps := str_size (pkdR (rnsR s))
    clear hb1 hb2 hb3 hb4 hok
    generalize pkdR (rnsR s) = p at *
    generalize rnsR s = M at *
    generalize hnz : s.length = n at *
    generalize p.length = q at *
    clear hnz hs400
    go_wp2_with fail
    refine (HT1.out _).mono ?_
    rintro e w2 ⟨v2, rfl, hO2, k2⟩
    have K2 := Lib.hid (turn_trans K1.out k2 (by omega))
    have HO2 := Lib.hid hO2.seen
    clear k2 hO2 HT1
    go_wp2_with fail
    refine (HT2.out _).mono ?_
    rintro e w3 ⟨v3, rfl, hO3, k3⟩
    have K3 := Lib.hid (turn_trans K2.out k3 (by omega))
    have HO23 := Lib.hid (HO2.out.below k3.to_below)
    have HSAM := Lib.hid (sameRuns_same v2 v3 M w3 HO23.out hO3.seen)
    clear k3 hO3 HT2 HO2
    go_wp2_with fail
    refine HSAM.out.mono ?_
    rintro e w4 ⟨rfl, k4⟩
    have K4 := Lib.hid (turn_trans K3.out k4 (by omega))
    have HO4 := Lib.hid (HO23.out.below k4.to_below)
    clear k4 HSAM HO23
    go_wp2_with fail
    refine (HTX.out _ _ HO4.out).mono ?_
    rintro e w5 ⟨rfl, k5⟩
    have K5 := Lib.hid (turn_trans K4.out k5 (by omega))
    have HO5 := Lib.hid (HO4.out.below k5.to_below)
    clear k5 HTX HO4
    go_wp2_with fail
    refine (HPA.out _ _ HO5.out).mono ?_
    rintro e w6 ⟨rfl, k6⟩
    have K6 := Lib.hid (turn_trans K5.out k6 (by omega))
    have HO6 := Lib.hid (HO5.out.below k6.to_below)
    clear k6 HPA HO5
    go_wp2_with fail
    refine (HUN.out _).mono ?_
    rintro e w7 ⟨v7, rfl, hO7, k7⟩
    have K7 := Lib.hid (turn_trans K6.out k7 (by omega))
    have HO7 := Lib.hid (HO6.out.below k7.to_below)
    have HSA2 := Lib.hid (sameRuns_same v7 v2 M w7 hO7.seen HO7.out)
    clear k7 hO7 HUN HO6
    have hq0 : ¬ ((n : Int) + ((n : Int).tdiv 2) < (q : Int)) := by
      have : (n : Int).tdiv 2 = ((n / 2 : Nat) : Int) := by rw [Int.tdiv_eq_ediv_of_nonneg (by omega)]; omega
      rw [this]; omega
    go_wp2_with fail
    refine HSA2.out.mono ?_
    rintro e w8 ⟨rfl, k8⟩
    have K8 := Lib.hid (turn_trans K7.out k8 (by omega))
    have HO8 := Lib.hid (HO7.out.below k8.to_below)
    clear k8 HSA2 HO7
    go_wp2_with fail
    refine (HGD.out _ _ HO8.out).mono ?_
    rintro e w9 ⟨rfl, k9⟩
    have K9 := Lib.hid (turn_trans K8.out k9 (by omega))
    clear k9 HGD
    go_wp2_with fail
    refine (HDR.out _ (HSU.out.touch K9.out)).mono ?_
    rintro e wA ⟨t, rfl, ht602, kA⟩
    have KA := Lib.hid (turn_trans K9.out kA (by omega))
    have htz := str_size t
    have HIB := Lib.hid (fun W => unpackRuns_own t W (by omega))
    have HSB := Lib.hid (fun W => sUnpackRuns_own t W (by omega))
    have HPK := Lib.hid (fun v W h => packRuns_own v (unpR t) W h)
    have HSP := Lib.hid (@unp_back t)
    have HNO := Lib.hid (@unp_less t)
    have htt : ((str t).toList == (str t).toList) = true := by simp
    generalize unpR t = L2 at *
    generalize unpOk t = ok2 at *
    clear kA
    go_wp2_with fail
    refine (HIB.out _).mono ?_
    rintro e wB ⟨vB, rfl, hOB, kB⟩
    have KB := Lib.hid (turn_trans KA.out kB (by omega))
    have HOB := Lib.hid hOB.seen
    clear kB hOB
    go_wp2_with fail
    refine (HSB.out _).mono ?_
    rintro e wC ⟨vC, rfl, hOC, kC⟩
    have KC := Lib.hid (turn_trans KB.out kC (by omega))
    have HOBC := Lib.hid (HOB.out.below kC.to_below)
    have HSAC := Lib.hid (sameRuns_same vB vC L2 wC HOBC.out hOC.seen)
    clear kC hOC HOB
    cases ok2 with
    | false =>
      have hl := HNO.out rfl
      subst hl
      obtain ⟨AB, cB, hvB⟩ := HOBC.out.len
      rw [List.length_nil] at hvB
      subst hvB
      go_wp2_with fail
      refine HSAC.out.mono ?_
      rintro e wD ⟨rfl, kD⟩
      have KD := Lib.hid (turn_trans KC.out kD (by omega))
      clear kD
      go_wp2_with fail
      go_ret
      exact ⟨rfl, KD.out.to_below⟩
    | true =>
      have hb := HSP.out rfl
      rw [hb.1, hb.2] at HPK
      clear hb
      go_wp2_with fail
      refine HSAC.out.mono ?_
      rintro e wD ⟨rfl, kD⟩
      have KD := Lib.hid (turn_trans KC.out kD (by omega))
      have HOD := Lib.hid (HOBC.out.below kD.to_below)
      clear kD
      go_wp2_with fail
      refine (HPK.out _ _ HOD.out).mono ?_
      rintro e wE ⟨rfl, kE⟩
      have KE := Lib.hid (turn_trans KD.out kE (by omega))
      clear kE
      go_wp2_with fail
      go_ret
      exact ⟨rfl, KE.out.to_below⟩
  · have hok2 : mvdOk s = false := by simpa using hok
    rw [hok2, rnsR_no hok2] at HT1 HT2
    clear hok hok2
    go_wp2_with fail
    refine (HT1.out _).mono ?_
    rintro e w2 ⟨v2, rfl, hO2, k2⟩
    have K2 := Lib.hid (turn_trans K1.out k2 (by omega))
    have HO2 := Lib.hid hO2.seen
    clear k2 hO2
    go_wp2_with fail
    refine (HT2.out _).mono ?_
    rintro e w3 ⟨v3, rfl, hO3, k3⟩
    have K3 := Lib.hid (turn_trans K2.out k3 (by omega))
    have HSAM := Lib.hid (sameRuns_same v2 v3 [] w3 (HO2.out.below k3.to_below) hO3.seen)
    clear k3 hO3
    go_wp2_with fail
    refine HSAM.out.mono ?_
    rintro e w4 ⟨rfl, k4⟩
    have K4 := Lib.hid (turn_trans K3.out k4 (by omega))
    clear k4
    go_wp2_with fail
    refine (HDR.out _ (HSU.out.touch K4.out)).mono ?_
    rintro e wA ⟨t, rfl, ht602, kA⟩
    have KA := Lib.hid (turn_trans K4.out kA (by omega))
    have htz := str_size t
    have HIB := Lib.hid (fun W => unpackRuns_own t W (by omega))
    have HSB := Lib.hid (fun W => sUnpackRuns_own t W (by omega))
    have HPK := Lib.hid (fun v W h => packRuns_own v (unpR t) W h)
    have HSP := Lib.hid (@unp_back t)
    have HNO := Lib.hid (@unp_less t)
    have htt : ((str t).toList == (str t).toList) = true := by simp
    generalize unpR t = L2 at *
    generalize unpOk t = ok2 at *
    clear kA
    go_wp2_with fail
    refine (HIB.out _).mono ?_
    rintro e wB ⟨vB, rfl, hOB, kB⟩
    have KB := Lib.hid (turn_trans KA.out kB (by omega))
    have HOB := Lib.hid hOB.seen
    clear kB hOB
    go_wp2_with fail
    refine (HSB.out _).mono ?_
    rintro e wC ⟨vC, rfl, hOC, kC⟩
    have KC := Lib.hid (turn_trans KB.out kC (by omega))
    have HOBC := Lib.hid (HOB.out.below kC.to_below)
    have HSAC := Lib.hid (sameRuns_same vB vC L2 wC HOBC.out hOC.seen)
    clear kC hOC HOB
    cases ok2 with
    | false =>
      have hl := HNO.out rfl
      subst hl
      obtain ⟨AB, cB, hvB⟩ := HOBC.out.len
      rw [List.length_nil] at hvB
      subst hvB
      go_wp2_with fail
      refine HSAC.out.mono ?_
      rintro e wD ⟨rfl, kD⟩
      have KD := Lib.hid (turn_trans KC.out kD (by omega))
      clear kD
      go_wp2_with fail
      go_ret
      exact ⟨rfl, KD.out.to_below⟩
    | true =>
      have hb := HSP.out rfl
      rw [hb.1, hb.2] at HPK
      clear hb
      go_wp2_with fail
      refine HSAC.out.mono ?_
      rintro e wD ⟨rfl, kD⟩
      have KD := Lib.hid (turn_trans KC.out kD (by omega))
      have HOD := Lib.hid (HOBC.out.below kD.to_below)
      clear kD
      go_wp2_with fail
      refine (HPK.out _ _ HOD.out).mono ?_
      rintro e wE ⟨rfl, kE⟩
      have KE := Lib.hid (turn_trans KD.out kE (by omega))
      clear kE
      go_wp2_with fail
      go_ret
      exact ⟨rfl, KE.out.to_below⟩

set_option maxRecDepth 100000 in
theorem walk_FnRuns : G294.LawWalk Try.prog 5 Try.f5 Rows.fnRunsSpec.vars false (fun _ => True) := by
  intro H enc W base args ds gs before hval hW hX
  have hlt0 : ∀ p ∈ before, p.block < W.heap.size := fun p hp => hW.lt p hp
  obtain ⟨p, q, hA, hV, rfl, hfz, hnd⟩ := hW
  rw [Try.params5] at hA hval
  obtain ⟨u0, u1, d0, d1, p0, p1, rfl, rfl, rfl, t0, t1⟩ := Go.ChangeShapes.trodAll_two hA
  obtain ⟨l0, sn0⟩ := seen_bytes Try.underlying22 Try.underlying5 (by kernel_rfl) (hval 0 22 u0 rfl rfl) t0 (fun x hx => hlt0 x (by simp [hx]))
  obtain ⟨l1, sn1⟩ := seen_bytes Try.underlying22 Try.underlying5 (by kernel_rfl) (hval 1 22 u1 rfl rfl) t1 (fun x hx => hlt0 x (by simp [hx]))
  exact runs_walk u0 u1 l0 l1 W sn0 sn1

end Go.Proofs.Ytdbgkpmdimapdaa
