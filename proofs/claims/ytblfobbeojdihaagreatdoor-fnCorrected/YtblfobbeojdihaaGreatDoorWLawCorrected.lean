/- The walk of FnCorrected. -/
import Derived.Test.YtblfobbeojdihaaGreatDoorRows
import Derived.Test.YtblfobbeojdihaaGreatDoorBd00
import Derived.Test.YtblfobbeojdihaaGreatDoorBd15
import Derived.Test.YtblfobbeojdihaaGreatDoorBd17
import Derived.Test.YtblfobbeojdihaaGreatDoorBd12
import Derived.StillTailTactics
import Derived.BigQuiet
set_option linter.unusedSimpArgs false
set_option linter.unusedVariables false
namespace G294
open Go Go.RowKit
theorem cor_fails (u : List UInt8) (t : Int) (h : corOk u t = false) : corN u t = 0 := by
  unfold corOk at h
  unfold corN
  have : corO u t = none := by simpa using h
  rw [this]; rfl
theorem u8_beq (x y : UInt8) : ((x.toNat : Int) == (y.toNat : Int)) = decide (x = y) := by
  by_cases h : x = y
  · subst h; simp
  · have : x.toNat ≠ y.toNat := fun e => h (UInt8.toNat_inj.1 e)
    rw [show decide (x = y) = false by simpa using h, beq_eq_false_iff_ne]; omega
theorem mod_facts (y : UInt8) (N : Nat) (hN : 0 < N) : ∃ p : Nat, p < N ∧ Hid ((wrap64 (y.toNat : Int)).tmod (N : Int) = (p : Int)) ∧ ((N : Int) == 0) = false ∧ (p : Int) < (N : Int) := by
  refine ⟨y.toNat % N, Nat.mod_lt _ hN, ?_, ?_, ?_⟩
  · show _ = _
    have := y.toNat_lt
    rw [IntWalk.wrap64_in _ ⟨by omega, by omega⟩, Int.tmod_eq_emod_of_nonneg (by omega)]
    simp
  · simp; omega
  · have := Nat.mod_lt y.toNat hN
    omega
theorem xor_ne {x y z : UInt8} (h : x = y) (hz : z ≠ 0) : x ^^^ z ≠ y := by
  subst h
  intro e
  apply hz
  have : x ^^^ (x ^^^ z) = x ^^^ x := by rw [e]
  rw [← UInt8.xor_assoc, UInt8.xor_self, UInt8.zero_xor] at this
  exact this
end G294
namespace Go.Proofs.YtblfobbeojdihaaGreatDoor
open Go.ChangeShapes Go.WideShapes Go.ChangeAt Go.RowKit G294

theorem sameBytes_eq (v u : Value) (l : List UInt8) (w : World) (hv : Seen w v (bys l)) (hu : Seen w u (bys l)) :
    Calls Tryz.prog 8 #[v, u] w fun e w' => e = .returned (.bool true) ∧ w = w' := by
  have h := sameBytes_any v u l l w hv hu
  rwa [show (l == l) = true by simp] at h

set_option maxRecDepth 100000 in
set_option maxHeartbeats 1000000 in
theorem corrected_walk (v u : Value) (l0 m0 : List UInt8) (w : World) (hv : Seen w v (bys l0)) (hu : Seen w u (bys m0)) (ht : Tab w) (h0 : 3 < w.heap.size) (sA0 sA1 : Addr) (hse : Sen w sA0 sA1)
    (gC : w.cell? ⟨2, 0, none⟩ = some (.iface 128 (.agg #[.pointer (some ⟨4, 50, none⟩)]))) (gL : 2 < w.heap.size) :
    Calls Tryz.prog 3 #[v, u] w fun e w' => e = .returned (.bool true) ∧ Below w.heap.size w w' := by
  have HV := Lib.hid hv
  have HU := Lib.hid hu
  obtain ⟨A, c, rfl, hlc, hcm, hx⟩ := hv
  obtain ⟨A', c', rfl, hlc', hcm', hx'⟩ := hu
  rw [bys_length] at hlc hlc' hx' HV HU
  simp only [bys_length]
  clear hx
  have HX' := Lib.hid hx'
  clear hx'
  unfold maxLen at hcm hcm'
  generalize l0.length = n1 at *
  generalize hn2 : m0.length = n2 at *
  have HN2 := Lib.hid hn2
  clear hn2
  have HTB : Hid (∀ W, TurnIn 0 0 w W → Tab W ∧ 3 < W.heap.size) := fun W h => ⟨ht.below h.to_below h0, by have := h.size; omega⟩
  have HSE : Hid (∀ W, TurnIn 0 0 w W → Sen W sA0 sA1) := fun W h => hse.below h.to_below
  have HGG : Hid (∀ W, TurnIn 0 0 w W → W.cell? ⟨2, 0, none⟩ = some (.iface 128 (.agg #[.pointer (some ⟨4, 50, none⟩)])) ∧ 2 < W.heap.size) := fun W h => ⟨cell_turn h gC gL, by have := h.size; omega⟩
  clear ht hse gC
  by_cases hbig : 1048576 < wrap64 ((n1 : Int) + (n2 : Int))
  · go_enter Tryz.func3, Tryz.ntmps3
    go_wp2_with fail
    go_ret
    exact ⟨rfl, Below.refl _ _⟩
  have hn2b : n2 ≤ 1048576 ∨ 9223372036854775807 < n1 + n2 := by
    rcases Nat.lt_or_ge 9223372036854775807 (n1 + n2) with h | h
    · exact .inr h
    · refine .inl ?_
      have e : wrap64 ((n1 : Int) + (n2 : Int)) = (n1 : Int) + (n2 : Int) := IntWalk.wrap64_in _ ⟨by omega, by omega⟩
      rw [e] at hbig
      omega
  go_enter Tryz.func3, Tryz.ntmps3
  go_wp2_with fail
  refine (drawEncode_any _ l0 _ HV.out).mono ?_
  rintro e w1 ⟨v1, l1, t, rfl, hl1, o1, kk⟩
  obtain ⟨A1, c1, hv1⟩ := o1.seen.len
  rw [bys_length] at hv1
  subst hv1
  have z1 := kk.size
  go_wp2_with fail
  refine (encodeWord_own _ l1 t w1 o1.seen (by omega) (HTB.out _ kk).1 (HTB.out _ kk).2).mono ?_
  rintro e w2 ⟨v2, rfl, o2, k2⟩
  replace o1 := o1.keep k2 (by omega)
  replace kk := turn_trans kk k2 (by omega)
  have z2 := k2.size
  clear k2
  go_wp2_with fail
  refine (sEncodeWord_own _ l1 t w2 o1.seen (by omega)).mono ?_
  rintro e w3 ⟨v3, rfl, o3, k3⟩
  replace o1 := o1.keep k3 (by omega)
  replace o2 := o2.keep k3 (by omega)
  replace kk := turn_trans kk k3 (by omega)
  have z3 := k3.size
  clear k3
  obtain ⟨ok, hok⟩ : ∃ ok, ok = encOk8 l1 t := ⟨_, rfl⟩
  rw [← hok]
  have HOK : Hid (encOk8 l1 t = ok) := hok.symm
  have hoo : (ok != ok) = false := by simp
  clear hok
  have HO1 := Lib.hid o1
  have HO2 := Lib.hid o2
  have HSB := Lib.hid (sameBytes_eq v2 v3 (encR8 l1 t) w3 o2.seen o3.seen)
  have HL1 := Lib.hid hl1
  have HK3 := Lib.hid kk
  clear o1 o2 hl1 kk o3
  go_wp2_with fail
  refine HSB.out.mono ?_
  rintro e w' ⟨rfl, rfl⟩
  have kk := HK3.out
  cases ok
  · go_wp2_with fail
    refine (drawCorrect_any _ m0 _ (HU.out.touch kk)).mono ?_
    rintro e y1 ⟨v4, l4, t4, rfl, hl4, o4, k4⟩
    obtain ⟨A4, c4, hv4⟩ := o4.seen.len
    rw [bys_length] at hv4
    subst hv4
    have zz1 := kk.size
    replace kk := turn_trans kk k4 (by omega)
    clear k4
    go_wp2_with fail
    refine (correctWord_own _ l4 t4 sA0 y1 o4.seen (HTB.out _ kk).1 (HTB.out _ kk).2 (HSE.out _ kk).s0 (HSE.out _ kk).l0 (HGG.out _ kk).1 (HGG.out _ kk).2).mono ?_
    rintro e y2 ⟨v5, rfl, o5, k5⟩
    replace o4 := o4.keep k5 (by omega)
    replace kk := turn_trans kk k5 (by omega)
    have zz2 := k5.size
    clear k5
    go_wp2_with fail
    refine (sCorrectWord_own _ l4 t4 y2 o4.seen).mono ?_
    rintro e y3 ⟨v6, rfl, o6, k6⟩
    replace o4 := o4.keep k6 (by omega)
    replace o5 := o5.keep k6 (by omega)
    replace kk := turn_trans kk k6 (by omega)
    have zz3 := k6.size
    clear k6
    have HS4 := Lib.hid o4.seen
    have HS5 := Lib.hid o5.seen
    have HS6 := Lib.hid o6.seen
    have HNE := Lib.hid (@cor_near l4 t4)
    have HNF : Hid (corOk l4 t4 = false → corN l4 t4 = 0) := cor_fails l4 t4
    have HW : Hid (Calls Tryz.prog 9 #[v5, .int .i64 t4] y3 (RetBools y3 (isWR (corR l4 t4) t4) (fitW (corR l4 t4) t4))) := isWord_own _ (corR l4 t4) t4 sA0 sA1 y3 HS5.out (HTB.out _ kk).1 (HTB.out _ kk).2 (HSE.out _ kk)
    have HDI : Hid (∀ W, TurnIn 0 0 y3 W → Calls Tryz.prog 13 #[.slice A4 l4.length c4, v5] W (RetIntOk W (distR l4 (corR l4 t4)) (distOk l4 (corR l4 t4)))) := fun W h => distanceOf_own _ _ l4 (corR l4 t4) W (HS4.out.touch h) (HS5.out.touch h)
    clear o4 o5 o6
    obtain ⟨cn, hcn⟩ : ∃ cn, cn = corN l4 t4 := ⟨_, rfl⟩
    have HCN : Hid (corN l4 t4 = cn) := hcn.symm
    rw [← hcn]
    have hcnn : (cn != cn) = false := by simp
    clear hcn
    by_cases hco : corOk l4 t4 = true
    · obtain ⟨m, nn, rfl, hm4, hnm, hn1, hn2, hn3, hn4, hn5⟩ := HNE.out hco
      have hcc : cn = (nn : Int) := HCN.out.symm.trans hn1
      subst hcc
      rw [hn2, hn3] at HW
      rw [hn4, hn5] at HDI
      rw [hco]
      have htt : (true != true) = false := rfl
      have hnmi : (nn : Int) ≤ (m : Int) := by omega
      have hnnb : ((nn : Int) == (nn : Int)) = true := by simp
      clear hco hn1 hn2 hn3 hn4 hn5 HNE HNF HCN
      go_wp2_with fail
      refine (sameBytes_eq _ _ (corR l4 (m : Int)) _ HS5.out HS6.out).mono ?_
      rintro e w' ⟨rfl, rfl⟩
      go_wp2_with fail
      refine HW.out.mono ?_
      rintro e y7 ⟨rfl, k7⟩
      have HK7 := Lib.hid (turn_trans kk k7 (by omega))
      have HD7 := Lib.hid (HDI.out _ k7)
      clear k7
      go_wp2_with fail
      refine HD7.out.mono ?_
      rintro e y8 ⟨rfl, k8⟩
      have HK8 := Lib.hid (turn_trans HK7.out k8 (by omega))
      clear k8
      go_wp2_with fail
      go_ret
      exact ⟨rfl, HK8.out.to_below⟩
    · have hf : corOk l4 t4 = false := by simpa using hco
      have hc0 := HNF.out hf
      have hcc : cn = 0 := HCN.out.symm.trans hc0
      subst hcc
      rw [hf]
      have htt : (false != false) = false := rfl
      clear hf hc0 hco HNE HNF HCN
      go_wp2_with fail
      refine (sameBytes_eq _ _ (corR l4 t4) _ HS5.out HS6.out).mono ?_
      rintro e w' ⟨rfl, rfl⟩
      go_wp2_with fail
      go_ret
      exact ⟨rfl, kk.to_below⟩
  · obtain ⟨m, rfl, hm1, hm4, he, hlen, h24, hl1, hw, hd, het, hgl, hr⟩ := enc_word HOK.out
    obtain ⟨N, hN⟩ : ∃ N, N = (encR8 l1 (m : Int)).length := ⟨_, rfl⟩
    have HNL : Hid ((encR8 l1 (m : Int)).length = N) := hN.symm
    have hN3 : 2 * m + 1 ≤ N := by omega
    have hN24 : N ≤ 24 := by omega
    have HIW : Hid (∀ W, TurnIn 0 0 w W → Seen W v2 (bys (encR8 l1 (m : Int))) → Calls Tryz.prog 9 #[v2, .int .i64 (m : Int)] W (RetBools W true true)) := fun W h hs => by
      have h1 := isWord_own v2 (encR8 l1 (m : Int)) (m : Int) sA0 sA1 W hs (HTB.out _ h).1 (HTB.out _ h).2 (HSE.out _ h)
      rwa [hw, isWR_fit hw] at h1
    have HDA : Hid (∀ W, TurnIn 0 0 w W → Seen W v2 (bys (encR8 l1 (m : Int))) → Calls Tryz.prog 10 #[v2, .int .i64 (m : Int)] W (RetBytesOk 5 W l1 true)) := fun W h hs => by
      have h1 := dataOf_own v2 (encR8 l1 (m : Int)) (m : Int) sA0 W hs (HTB.out _ h).1 (HTB.out _ h).2 (HSE.out _ h).s0 (HSE.out _ h).l0
      rwa [hd, hw] at h1
    have HGE : Hid (∀ W, TurnIn 0 0 w W → Calls Tryz.prog 11 #[.int .i64 (m : Int)] W (RetBytesOk 5 W (genR (m : Int)) true)) := fun W h => by
      have h1 := generatorOf_own (m : Int) W (HTB.out _ h).1 (HTB.out _ h).2
      rwa [het] at h1
    have HGL := Lib.hid hgl
    have HCR : Hid (∀ x : List UInt8, x.length = N → distN x (encR8 l1 (m : Int)) N ≤ m → corR x (m : Int) = encR8 l1 (m : Int) ∧ corN x (m : Int) = (distN x (encR8 l1 (m : Int)) N : Nat) ∧ corOk x (m : Int) = true) := fun x hx hd => by
      have h := enc_corrected hm1 hm4 (x := x) (hx.trans hN) h24 (by rw [← hN]; exact hN3) hr (by rw [hx]; exact hd)
      rwa [hx] at h
    have HDR : Hid (∀ x : List UInt8, x.length = N → distR x (encR8 l1 (m : Int)) = (distN x (encR8 l1 (m : Int)) N : Nat) ∧ distOk x (encR8 l1 (m : Int)) = true) := fun x hx => by
      have ho : distOk x (encR8 l1 (m : Int)) = true := by simp only [distOk, decide_eq_true_eq]; omega
      refine ⟨?_, ho⟩
      unfold distR; rw [if_pos ho, hx]
    clear hw hd het hgl hr he hlen h24 hN
    obtain ⟨U, hU⟩ : ∃ U, U = encR8 l1 (m : Int) := ⟨_, rfl⟩
    rw [← hU] at HNL HIW HDA HCR HDR HO2
    clear hU
    obtain ⟨g2, cp2, rfl, hg21, hg22, hcp21, hcp22⟩ := HO2.out.slice (by rw [HNL.out]; omega)
    have HO2' : Hid (OwnBytes 5 w3 w1.heap.size w2.heap.size (.slice (some ⟨g2, 0, none⟩) N cp2) U) := by
      have h := HO2.out
      rw [HNL.out] at h; exact h
    rw [HNL.out] at HIW HDA hcp21 ⊢
    unfold maxLen at hcp22
    obtain ⟨z, hz⟩ : ∃ z : Nat, z = 2 * m := ⟨_, rfl⟩
    have hmz : 2 * (m : Int) = (z : Int) := by omega
    have HGZ : Hid ((genR (m : Int)).length = z + 1) := by show _ = _; rw [HGL.out, hz]
    have hz8 : z ≤ 8 := by omega
    clear HO2 hz HGL
    go_wp2_with fail
    refine (HIW.out _ kk HO2'.out.seen).mono ?_
    rintro e x1 ⟨rfl, k1⟩
    have zx1 := k1.size
    have HU1 := Lib.hid (HO2'.out.keep k1 (by omega))
    have HD1 := Lib.hid (HO1.out.keep k1 (by omega))
    replace kk := turn_trans kk k1 (by omega)
    clear k1
    go_wp2_with fail
    refine (HDA.out _ kk HU1.out.seen).mono ?_
    rintro e x2 ⟨vd, rfl, od, k2⟩
    have zx2 := k2.size
    have HU2 := Lib.hid (HU1.out.keep k2 (by omega))
    have HD2 := Lib.hid (HD1.out.keep k2 (by omega))
    replace kk := turn_trans kk k2 (by omega)
    have HOD := Lib.hid od
    clear k2 od
    go_wp2_with fail
    refine (HGE.out _ kk).mono ?_
    rintro e x3 ⟨vg, rfl, og, k3⟩
    have zx3 := k3.size
    have HU3 := Lib.hid (HU2.out.keep k3 (by omega))
    have HD3 := Lib.hid (HD2.out.keep k3 (by omega))
    have HOD3 := Lib.hid (HOD.out.keep k3 (by omega))
    replace kk := turn_trans kk k3 (by omega)
    obtain ⟨Ag, cg, hvg⟩ := og.seen.len
    rw [bys_length, HGZ.out] at hvg
    subst hvg
    have HSD := Lib.hid (sameBytes_eq _ _ l1 x3 HOD3.out.seen HD3.out.seen)
    have hgz : (((z + 1 : Nat) : Int) != (z : Int) + 1) = false := by simp
    have hgz2 : ((z : Int) + 1 != (z : Int) + 1) = false := by simp
    clear k3 og
    go_wp2_with fail
    refine HSD.out.mono ?_
    rintro e w' ⟨rfl, rfl⟩
    have kA := turn_alloc x3 (.cells #[] 5)
    obtain ⟨bU, offU, cU, eU, hbU, _, hcellU⟩ := seen_cellsB HU3.out.seen (by rw [HNL.out]; omega)
    simp only [Value.slice.injEq, Option.some.injEq, Addr.mk.injEq, and_true] at eU
    obtain ⟨⟨rfl, rfl⟩, hNU, rfl⟩ := eU
    clear hNU
    obtain ⟨cp, w4, hap, ho4, k4⟩ := run_appLit (P := Tryz.prog) (x3.alloc (.cells #[] 5)) 22 22 5 _ _ Tryz.underlying22 infoByte rfl ⟨x3.heap.size, 0, none⟩ ⟨g2, 0, none⟩ U.length cp2 (bys U) (by rw [HNL.out]; omega) (bys_length _) (hcellU _ kA.to_below) (fun y hy => bys_one y U hy) (by rw [HNL.out]; omega) (by omega)
    rw [World.size_alloc] at hap ho4
    rw [HNL.out] at hap ho4
    have k4' : TurnIn 0 0 x3 w4 := turn_trans kA k4 (by omega)
    have HU4 := Lib.hid (HU3.out.keep k4' (by omega))
    obtain ⟨g, hg⟩ : ∃ g, g = x3.heap.size + 1 := ⟨_, rfl⟩
    rw [← hg] at hap ho4
    have hg4 : g < w4.heap.size := (ho4.lt g rfl).2
    have hgw : x3.heap.size ≤ g := by omega
    have hcp : N ≤ cp ∧ cp ≤ 9223372036854775807 := by
      rcases ho4.2 with ⟨hh, _⟩ | ⟨g', cap, cur, e, hbg, hg', hnc, hcm, hcs, ht⟩
      · simp at hh
      · simp only [Value.slice.injEq] at e
        unfold maxLen at hcm
        exact ⟨by omega, by omega⟩
    obtain ⟨hcp1, hcp2⟩ := hcp
    have HAP := Lib.hid hap
    have HO4 : Hid (w4.ownsRow x3.heap.size 5 1 (.slice (some ⟨g, 0, none⟩) N cp) N (bys U)) := own_base ho4 (by omega)
    have HKW := Lib.hid (turn_trans kk k4' (by omega))
    have z4 := k4'.size
    clear hap ho4 hcellU kA k4 k4' hg kk
    go_wp2_with (at_builtin; refine Lib.wpList_append_run _ rfl _ _ _ _ rfl _ _ rfl rfl _ _ HAP.out ?_)
    go_wp2_with fail
    go_loopw [18, 19] (fun q i wr => ∃ (k cnt : Nat) (x : List UInt8), k ≤ n2 ∧ k % 2 = 0 ∧ i = .int .i64 k ∧ q = .int .i64 cnt ∧ Hid (x.length = N) ∧ Hid (distN x U N = cnt) ∧ cnt ≤ m ∧ wr.ownsRow x3.heap.size 5 1 (.slice (some ⟨g, 0, none⟩) N cp) N (bys x) ∧ TurnIn g (g + 1) w4 wr)
      (fun _ i _ => n2 + 2 - (intOf i).toNat)
    case atStart => exact ⟨0, 0, U, Nat.zero_le _, rfl, rfl, rfl, HNL.out, dist_self U N, Nat.zero_le _, HO4.out, ⟨rfl, rfl, rfl, Nat.le_refl _, fun _ _ _ => rfl⟩⟩
    case round =>
      obtain ⟨k, cnt, x, hk, hk2e, rfl, rfl, HXL, HXD, hcm2, ho, kr⟩ := hrel
      have zr := kr.size
      have hkw : IntKind.i64.wrap ((k : Int) + 1) = (k : Int) + 1 := by rw [IntWalk.i64_in _ (by omega)]
      by_cases hgo : k + 1 < n2 ∧ cnt < m
      · obtain ⟨hk1, hc1⟩ := hgo
        have hki : (k : Int) + 1 < (n2 : Int) := by omega
        have hci : (cnt : Int) < (m : Int) := by omega
        obtain ⟨pb, off, rfl, hpb, hcell⟩ := HX'.out (by omega)
        have hcl0 : k < m0.length := by rw [HN2.out]; omega
        have hcl1 : k + 1 < m0.length := by rw [HN2.out]; omega
        have hbase : ∀ j, j < m0.length → wr.cell? ⟨pb, off + j, none⟩ = some (.int .u8 ((m0.getD j 0).toNat : Int)) := fun j hj => by
          have h1 := cell_turn HKW.out (hcell j _ (bys_get m0 j hj)) hpb
          have h2 := (World.cell?_of_block (kr.block pb (by have := HKW.out.size; omega) (by omega))).trans h1
          simpa [List.getD, hj] using h2
        have hcy0 := hbase k hcl0
        have hcy1 := hbase (k + 1) hcl1
        obtain ⟨y0, hy0⟩ : ∃ y, y = m0.getD k 0 := ⟨_, rfl⟩
        obtain ⟨y1, hy1⟩ : ∃ y, y = m0.getD (k + 1) 0 := ⟨_, rfl⟩
        rw [← hy0] at hcy0
        rw [← hy1] at hcy1
        obtain ⟨p, hpN, HPT, hNz, hpi⟩ := mod_facts y0 N (by omega)
        have hcx := own_cell8 ho HXL.out.symm (k := p) hpN
        have hcu := (World.cell?_of_block (kr.block g2 (by omega) (by omega))).trans (HU4.out.cellAt (k := p) (by rw [HNL.out]; exact hpN))
        obtain ⟨x0, hx0⟩ : ∃ y, y = x.getD p 0 := ⟨_, rfl⟩
        obtain ⟨u0, hu0⟩ : ∃ y, y = U.getD p 0 := ⟨_, rfl⟩
        rw [← hx0] at hcx
        rw [← hu0] at hcu
        have hbeq := u8_beq x0 u0
        have hbne := u8_bne y1 0
        have hk2 : IntKind.i64.wrap ((k : Int) + 2) = (k : Int) + 2 := by rw [IntWalk.i64_in _ (by omega)]
        clear hy0 hcell hbase
        by_cases hxu : x0 = u0
        · rw [show decide (x0 = u0) = true by simpa using hxu] at hbeq
          by_cases hy1z : y1 = 0
          · rw [show decide (y1 ≠ 0) = false by simpa using hy1z] at hbne
            have hbne' : ((y1.toNat : Int) != 0) = false := by simpa using hbne
            have HO := Lib.hid ho
            have HKR := Lib.hid kr
            clear hxu hy1z hx0 hu0 hy1 ho hbne
            go_wp2_with fail
            rw [HPT.out]
            go_quiet (fail)
            go_wp2_with fail
            go_roundw
            case rel => exact ⟨k + 2, cnt, x, by omega, by omega, by go_num, rfl, HXL, HXD, hcm2, HO.out, ⟨HKR.out.os, HKR.out.tape, HKR.out.output, HKR.out.size, HKR.out.block⟩⟩
            case measure => simp [intOf]; omega
          · rw [show decide (y1 ≠ 0) = true by simpa using hy1z] at hbne
            have hbne' : ((y1.toNat : Int) != 0) = true := by simpa using hbne
            have hxor := xor_u8 x0 y1
            have HLS : Hid ((x.set p (x0 ^^^ y1)).length = N) := by show _ = _; rw [List.length_set]; exact HXL.out
            have HDS : Hid (distN (x.set p (x0 ^^^ y1)) U N = cnt + 1) := by
              show _ = _
              rw [dist_set (by rw [HXL.out]; exact hpN) (by rw [← hx0, ← hu0]; exact hxu) (by rw [← hu0]; exact xor_ne hxu hy1z) N hpN, HXD.out]
            have hcw : IntKind.i64.wrap ((cnt : Int) + 1) = (cnt : Int) + 1 := by rw [IntWalk.i64_in _ (by omega)]
            have HO := Lib.hid ho
            have HKR := Lib.hid kr
            clear hxu hy1z hx0 hu0 hy1 ho kr hbne
            go_wp2_with fail
            rw [HPT.out]
            go_quiet (fail)
            have qo : (wr.drewN nq).ownsRow x3.heap.size 5 1 (.slice (some ⟨g, 0, none⟩) N cp) N (bys x) := HO.out
            have qk : TurnIn g (g + 1) w4 (wr.drewN nq) := ⟨HKR.out.os, HKR.out.tape, HKR.out.output, HKR.out.size, HKR.out.block⟩
            have q0 : (wr.drewN nq).cell? ⟨g, p, none⟩ = some (.int .u8 (x0.toNat : Int)) := hcx
            have q1 : (wr.drewN nq).cell? ⟨pb, off + (k + 1), none⟩ = some (.int .u8 (y1.toNat : Int)) := hcy1
            have hfr := qo.frozenAt p
            have HST := Lib.hid (own_set8 qo p (x0 ^^^ y1))
            have HKS := Lib.hid (turn_trans qk (turn_setCell (wr.drewN nq) g p (.int .u8 ((x0 ^^^ y1).toNat : Int))) (by omega))
            clear qo qk hcx hcy0 hcy1 hcu HO HKR zr
            generalize wr.drewN nq = wq at *
            have hkw64 : wrap64 ((k : Int) + 1) = (k : Int) + 1 := IntWalk.wrap64_in _ ⟨by omega, by omega⟩
            have hk00 : (0 : Int) ≤ (k : Int) + 1 := by omega
            have hk01 : ¬ (k : Int) + 1 < 0 := by omega
            have hkt1 : ((k : Int) + 1).toNat = k + 1 := by omega
            go_wp2_with fail
            refine wp_region_still_tail 11 (by kernel_rfl) (by kernel_rfl) ?_
            simp only [List.take_succ_cons, List.take_zero, List.drop_succ_cons, List.drop_zero]
            repeat still_step
            refine wpStill_nil ?_
            go_wp2_with fail
            go_roundw
            case rel => exact ⟨k + 2, cnt + 1, _, by omega, by omega, by go_num, by go_num, HLS, HDS, by omega, HST.out, ⟨HKS.out.os, HKS.out.tape, HKS.out.output, HKS.out.size, HKS.out.block⟩⟩
            case measure => simp [intOf]; omega
        · rw [show decide (x0 = u0) = false by simpa using hxu] at hbeq
          have HO := Lib.hid ho
          have HKR := Lib.hid kr
          clear hxu hx0 hu0 hy1 ho hbne
          go_wp2_with fail
          rw [HPT.out]
          go_quiet (fail)
          go_wp2_with fail
          go_roundw
          case rel => exact ⟨k + 2, cnt, x, by omega, by omega, by go_num, rfl, HXL, HXD, hcm2, HO.out, ⟨HKR.out.os, HKR.out.tape, HKR.out.output, HKR.out.size, HKR.out.block⟩⟩
          case measure => simp [intOf]; omega
      · have hol : OwnBytes 5 wr x3.heap.size wr.heap.size (.slice (some ⟨g, 0, none⟩) N cp) x := ⟨by rw [HXL.out]; exact ho, Nat.le_refl _, fun g' e => (ho.lt g' e).2⟩
        have kk : TurnIn 0 0 w wr := TurnIn.of_below (kr.base HKW.out.to_below (by have := HKW.out.size; omega) (.inl (by have := HKW.out.size; have := z4; omega)))
        obtain ⟨c1', c2', c3'⟩ := HCR.out x HXL.out (by rw [HXD.out]; exact hcm2)
        obtain ⟨d1', d2'⟩ := HDR.out x HXL.out
        rw [HXD.out] at c2' d1'
        have HCW := Lib.hid (correctWord_own _ x (m : Int) sA0 wr hol.seen (HTB.out _ kk).1 (HTB.out _ kk).2 (HSE.out _ kk).s0 (HSE.out _ kk).l0 (HGG.out _ kk).1 (HGG.out _ kk).2)
        rw [c1', c2', c3'] at HCW
        have HUr := Lib.hid (HU4.out.keep kr (by omega))
        have HOLr := Lib.hid hol
        have hccb : ((cnt : Int) != (cnt : Int)) = false := by simp
        clear ho c1' c2' c3' hol
        have HD1' := Lib.hid d1'
        have HD2' := Lib.hid d2'
        clear d1' d2' kr
        by_cases hk1 : k + 1 < n2
        · have hc1 : ¬ cnt < m := fun h => hgo ⟨hk1, h⟩
          have hki : (k : Int) + 1 < (n2 : Int) := by omega
          have hci : ¬ (cnt : Int) < (m : Int) := by omega
          go_wp2_with fail
          refine HCW.out.mono ?_
          rintro e x5 ⟨vy, rfl, oy, k5⟩
          have zx5 := k5.size
          have HU5 := Lib.hid (HUr.out.keep k5 (by omega))
          have HOL5 := Lib.hid (HOLr.out.keep k5 (by omega))
          replace kk := turn_trans kk k5 (by omega)
          have HOY := Lib.hid oy
          clear k5 oy
          go_wp2_with fail
          refine (distanceOf_own _ _ x U x5 HOL5.out.seen HU5.out.seen).mono ?_
          rintro e x6 ⟨rfl, k6⟩
          rw [HD1'.out, HD2'.out]
          have HU6 := Lib.hid (HU5.out.keep k6 (by omega))
          have HOY6 := Lib.hid (HOY.out.keep k6 (by omega))
          replace kk := turn_trans kk k6 (by omega)
          clear k6
          go_wp2_with fail
          refine (sameBytes_eq _ _ U x6 HOY6.out.seen HU6.out.seen).mono ?_
          rintro e w' ⟨rfl, rfl⟩
          go_wp2_with fail
          refine (drawCorrect_any _ m0 _ (HU.out.touch kk)).mono ?_
          rintro e y1 ⟨v4, l4, t4, rfl, hl4, o4, k4⟩
          obtain ⟨A4, c4, hv4⟩ := o4.seen.len
          rw [bys_length] at hv4
          subst hv4
          have zz1 := kk.size
          replace kk := turn_trans kk k4 (by omega)
          clear k4
          go_wp2_with fail
          refine (correctWord_own _ l4 t4 sA0 y1 o4.seen (HTB.out _ kk).1 (HTB.out _ kk).2 (HSE.out _ kk).s0 (HSE.out _ kk).l0 (HGG.out _ kk).1 (HGG.out _ kk).2).mono ?_
          rintro e y2 ⟨v5, rfl, o5, k5⟩
          replace o4 := o4.keep k5 (by omega)
          replace kk := turn_trans kk k5 (by omega)
          have zz2 := k5.size
          clear k5
          go_wp2_with fail
          refine (sCorrectWord_own _ l4 t4 y2 o4.seen).mono ?_
          rintro e y3 ⟨v6, rfl, o6, k6⟩
          replace o4 := o4.keep k6 (by omega)
          replace o5 := o5.keep k6 (by omega)
          replace kk := turn_trans kk k6 (by omega)
          have zz3 := k6.size
          clear k6
          have HS4 := Lib.hid o4.seen
          have HS5 := Lib.hid o5.seen
          have HS6 := Lib.hid o6.seen
          have HNE := Lib.hid (@cor_near l4 t4)
          have HNF : Hid (corOk l4 t4 = false → corN l4 t4 = 0) := cor_fails l4 t4
          have HW : Hid (Calls Tryz.prog 9 #[v5, .int .i64 t4] y3 (RetBools y3 (isWR (corR l4 t4) t4) (fitW (corR l4 t4) t4))) := isWord_own _ (corR l4 t4) t4 sA0 sA1 y3 HS5.out (HTB.out _ kk).1 (HTB.out _ kk).2 (HSE.out _ kk)
          have HDI : Hid (∀ W, TurnIn 0 0 y3 W → Calls Tryz.prog 13 #[.slice A4 l4.length c4, v5] W (RetIntOk W (distR l4 (corR l4 t4)) (distOk l4 (corR l4 t4)))) := fun W h => distanceOf_own _ _ l4 (corR l4 t4) W (HS4.out.touch h) (HS5.out.touch h)
          clear o4 o5 o6
          obtain ⟨cn, hcn⟩ : ∃ cn, cn = corN l4 t4 := ⟨_, rfl⟩
          have HCN : Hid (corN l4 t4 = cn) := hcn.symm
          rw [← hcn]
          have hcnn : (cn != cn) = false := by simp
          clear hcn
          by_cases hco : corOk l4 t4 = true
          · obtain ⟨m, nn, rfl, hm4, hnm, hn1, hn2, hn3, hn4, hn5⟩ := HNE.out hco
            have hcc : cn = (nn : Int) := HCN.out.symm.trans hn1
            subst hcc
            rw [hn2, hn3] at HW
            rw [hn4, hn5] at HDI
            rw [hco]
            have htt : (true != true) = false := rfl
            have hnmi : (nn : Int) ≤ (m : Int) := by omega
            have hnnb : ((nn : Int) == (nn : Int)) = true := by simp
            clear hco hn1 hn2 hn3 hn4 hn5 HNE HNF HCN
            go_wp2_with fail
            refine (sameBytes_eq _ _ (corR l4 (m : Int)) _ HS5.out HS6.out).mono ?_
            rintro e w' ⟨rfl, rfl⟩
            go_wp2_with fail
            refine HW.out.mono ?_
            rintro e y7 ⟨rfl, k7⟩
            have HK7 := Lib.hid (turn_trans kk k7 (by omega))
            have HD7 := Lib.hid (HDI.out _ k7)
            clear k7
            go_wp2_with fail
            refine HD7.out.mono ?_
            rintro e y8 ⟨rfl, k8⟩
            have HK8 := Lib.hid (turn_trans HK7.out k8 (by omega))
            clear k8
            go_wp2_with fail
            go_ret
            exact ⟨rfl, HK8.out.to_below⟩
          · have hf : corOk l4 t4 = false := by simpa using hco
            have hc0 := HNF.out hf
            have hcc : cn = 0 := HCN.out.symm.trans hc0
            subst hcc
            rw [hf]
            have htt : (false != false) = false := rfl
            clear hf hc0 hco HNE HNF HCN
            go_wp2_with fail
            refine (sameBytes_eq _ _ (corR l4 t4) _ HS5.out HS6.out).mono ?_
            rintro e w' ⟨rfl, rfl⟩
            go_wp2_with fail
            go_ret
            exact ⟨rfl, kk.to_below⟩
        · have hki : ¬ (k : Int) + 1 < (n2 : Int) := by omega
          go_wp2_with fail
          refine HCW.out.mono ?_
          rintro e x5 ⟨vy, rfl, oy, k5⟩
          have zx5 := k5.size
          have HU5 := Lib.hid (HUr.out.keep k5 (by omega))
          have HOL5 := Lib.hid (HOLr.out.keep k5 (by omega))
          replace kk := turn_trans kk k5 (by omega)
          have HOY := Lib.hid oy
          clear k5 oy
          go_wp2_with fail
          refine (distanceOf_own _ _ x U x5 HOL5.out.seen HU5.out.seen).mono ?_
          rintro e x6 ⟨rfl, k6⟩
          rw [HD1'.out, HD2'.out]
          have HU6 := Lib.hid (HU5.out.keep k6 (by omega))
          have HOY6 := Lib.hid (HOY.out.keep k6 (by omega))
          replace kk := turn_trans kk k6 (by omega)
          clear k6
          go_wp2_with fail
          refine (sameBytes_eq _ _ U x6 HOY6.out.seen HU6.out.seen).mono ?_
          rintro e w' ⟨rfl, rfl⟩
          go_wp2_with fail
          refine (drawCorrect_any _ m0 _ (HU.out.touch kk)).mono ?_
          rintro e y1 ⟨v4, l4, t4, rfl, hl4, o4, k4⟩
          obtain ⟨A4, c4, hv4⟩ := o4.seen.len
          rw [bys_length] at hv4
          subst hv4
          have zz1 := kk.size
          replace kk := turn_trans kk k4 (by omega)
          clear k4
          go_wp2_with fail
          refine (correctWord_own _ l4 t4 sA0 y1 o4.seen (HTB.out _ kk).1 (HTB.out _ kk).2 (HSE.out _ kk).s0 (HSE.out _ kk).l0 (HGG.out _ kk).1 (HGG.out _ kk).2).mono ?_
          rintro e y2 ⟨v5, rfl, o5, k5⟩
          replace o4 := o4.keep k5 (by omega)
          replace kk := turn_trans kk k5 (by omega)
          have zz2 := k5.size
          clear k5
          go_wp2_with fail
          refine (sCorrectWord_own _ l4 t4 y2 o4.seen).mono ?_
          rintro e y3 ⟨v6, rfl, o6, k6⟩
          replace o4 := o4.keep k6 (by omega)
          replace o5 := o5.keep k6 (by omega)
          replace kk := turn_trans kk k6 (by omega)
          have zz3 := k6.size
          clear k6
          have HS4 := Lib.hid o4.seen
          have HS5 := Lib.hid o5.seen
          have HS6 := Lib.hid o6.seen
          have HNE := Lib.hid (@cor_near l4 t4)
          have HNF : Hid (corOk l4 t4 = false → corN l4 t4 = 0) := cor_fails l4 t4
          have HW : Hid (Calls Tryz.prog 9 #[v5, .int .i64 t4] y3 (RetBools y3 (isWR (corR l4 t4) t4) (fitW (corR l4 t4) t4))) := isWord_own _ (corR l4 t4) t4 sA0 sA1 y3 HS5.out (HTB.out _ kk).1 (HTB.out _ kk).2 (HSE.out _ kk)
          have HDI : Hid (∀ W, TurnIn 0 0 y3 W → Calls Tryz.prog 13 #[.slice A4 l4.length c4, v5] W (RetIntOk W (distR l4 (corR l4 t4)) (distOk l4 (corR l4 t4)))) := fun W h => distanceOf_own _ _ l4 (corR l4 t4) W (HS4.out.touch h) (HS5.out.touch h)
          clear o4 o5 o6
          obtain ⟨cn, hcn⟩ : ∃ cn, cn = corN l4 t4 := ⟨_, rfl⟩
          have HCN : Hid (corN l4 t4 = cn) := hcn.symm
          rw [← hcn]
          have hcnn : (cn != cn) = false := by simp
          clear hcn
          by_cases hco : corOk l4 t4 = true
          · obtain ⟨m, nn, rfl, hm4, hnm, hn1, hn2, hn3, hn4, hn5⟩ := HNE.out hco
            have hcc : cn = (nn : Int) := HCN.out.symm.trans hn1
            subst hcc
            rw [hn2, hn3] at HW
            rw [hn4, hn5] at HDI
            rw [hco]
            have htt : (true != true) = false := rfl
            have hnmi : (nn : Int) ≤ (m : Int) := by omega
            have hnnb : ((nn : Int) == (nn : Int)) = true := by simp
            clear hco hn1 hn2 hn3 hn4 hn5 HNE HNF HCN
            go_wp2_with fail
            refine (sameBytes_eq _ _ (corR l4 (m : Int)) _ HS5.out HS6.out).mono ?_
            rintro e w' ⟨rfl, rfl⟩
            go_wp2_with fail
            refine HW.out.mono ?_
            rintro e y7 ⟨rfl, k7⟩
            have HK7 := Lib.hid (turn_trans kk k7 (by omega))
            have HD7 := Lib.hid (HDI.out _ k7)
            clear k7
            go_wp2_with fail
            refine HD7.out.mono ?_
            rintro e y8 ⟨rfl, k8⟩
            have HK8 := Lib.hid (turn_trans HK7.out k8 (by omega))
            clear k8
            go_wp2_with fail
            go_ret
            exact ⟨rfl, HK8.out.to_below⟩
          · have hf : corOk l4 t4 = false := by simpa using hco
            have hc0 := HNF.out hf
            have hcc : cn = 0 := HCN.out.symm.trans hc0
            subst hcc
            rw [hf]
            have htt : (false != false) = false := rfl
            clear hf hc0 hco HNE HNF HCN
            go_wp2_with fail
            refine (sameBytes_eq _ _ (corR l4 t4) _ HS5.out HS6.out).mono ?_
            rintro e w' ⟨rfl, rfl⟩
            go_wp2_with fail
            go_ret
            exact ⟨rfl, kk.to_below⟩

set_option maxRecDepth 100000 in
theorem walk_FnCorrected : G294.LawWalk Tryz.prog 3 Tryz.f3 Rows.fnCorrectedSpec.vars false (fun W => laidMetH Tryz.prog Rows.fnCorrectedRow.laid W) := by
  intro H enc W base args ds gs before hval hW hX
  have hlt0 : ∀ p ∈ before, p.block < W.heap.size := fun p hp => hW.lt p hp
  obtain ⟨p, q, hA, hV, rfl, hfz, hnd⟩ := hW
  rw [Tryz.params3] at hA hval
  obtain ⟨u0, u1, d0, d1, p0, p1, rfl, rfl, rfl, t0, t1⟩ := trodAll_two hA
  obtain ⟨l0, sn0⟩ := seen_bytes Tryz.underlying22 Tryz.underlying5 (by kernel_rfl) (hval 0 22 u0 rfl rfl) t0 (fun x hx => hlt0 x (by simp [hx]))
  obtain ⟨l1, sn1⟩ := seen_bytes Tryz.underlying22 Tryz.underlying5 (by kernel_rfl) (hval 1 22 u1 rfl rfl) t1 (fun x hx => hlt0 x (by simp [hx]))
  obtain ⟨ht, hs, sA0, sA1, hse, gC, gL⟩ := han_corrected hX
  exact corrected_walk u0 u1 l0 l1 W sn0 sn1 ht hs sA0 sA1 hse gC gL

end Go.Proofs.YtblfobbeojdihaaGreatDoor
