/- The walk of FnTurned. -/
import Derived.Test.YtbfchebnooanjaaRows
import Derived.Test.YtbfchebnooanjaaBd00
import Derived.Test.YtbfchebnooanjaaBd08
import Derived.Test.YtbfchebnooanjaaBd09
import Derived.Test.YtbfchebnooanjaaBd07
import Derived.WalkSmall
set_option linter.unusedSimpArgs false
set_option linter.unusedVariables false
namespace G294
open Go Go.RowKit
/-- what the law tells of two neighbours -/
theorem neigh {s : List UInt8} {i : Nat} (h : i + 1 < s.length) :
    (Op.bytesLess (rotL s ((trn s).getD i 0)) (rotL s ((trn s).getD (i + 1) 0)) = true ∧ rotL s ((trn s).getD i 0) ≠ rotL s ((trn s).getD (i + 1) 0)) ∨
    (Op.bytesLess (rotL s ((trn s).getD i 0)) (rotL s ((trn s).getD (i + 1) 0)) = false ∧ rotL s ((trn s).getD i 0) = rotL s ((trn s).getD (i + 1) 0) ∧ (trn s).getD i 0 < (trn s).getD (i + 1) 0) := by
  have hs := trnN_sorted s s.length
  have h3 := List.pairwise_iff_getElem.1 hs i (i + 1) (by rw [trnN_len]; omega) (by rw [trnN_len]; exact h) (by omega)
  have e1 : (trn s).getD i 0 = (trnN s s.length)[i]'(by rw [trnN_len]; omega) := getD_len _ _
  have e2 : (trn s).getD (i + 1) 0 = (trnN s s.length)[i + 1]'(by rw [trnN_len]; exact h) := getD_len _ _
  rw [← e1, ← e2] at h3
  rcases h3 with h4 | ⟨h4, h5⟩
  · left
    refine ⟨h4, fun e => ?_⟩
    rw [e, lessT_irr] at h4; cases h4
  · right
    refine ⟨?_, h4, h5⟩
    rw [h4]; exact lessT_irr _
theorem rt_of {s : List UInt8} {k : Nat} (hn : s.length ≤ 120) (h : k < s.length) : rtOk s (k : Int) = true ∧ rtR s (k : Int) = rotL s k := by
  have h1 : rtOk s (k : Int) = true := by simp [rtOk, trnOk, hn]; omega
  exact ⟨h1, rtR_yes h1⟩
end G294
namespace Go.Proofs.Ytbfchebnooanjaa
open Go.RowKit G294

set_option maxRecDepth 100000 in
set_option maxHeartbeats 8000000 in
theorem turned_walk (v u : Value) (l0 m0 : List UInt8) (w : World) (hv : Seen w v (bys l0)) (hu : Seen w u (bys m0)) :
    Calls Try.prog 3 #[v, u] w fun e w' => e = .returned (.bool true) ∧ Below w.heap.size w w' := by
  have HV := Lib.hid hv
  have HSU := Lib.hid hu
  obtain ⟨A, c, rfl, hlc, hcm, hx⟩ := hv
  obtain ⟨A', c', rfl, hlc', hcm', hx'⟩ := hu
  rw [bys_length] at hlc hlc' HV HSU
  simp only [bys_length]
  clear hx hx'
  unfold maxLen at hcm hcm'
  generalize l0.length = n1 at *
  generalize m0.length = n2 at *
  by_cases hbig : 1048576 < wrap64 ((n1 : Int) + (n2 : Int))
  · go_enter Try.func3, Try.ntmps3
    go_wp2_with fail
    go_ret
    exact ⟨rfl, Below.refl _ _⟩
  go_enter Try.func3, Try.ntmps3
  go_wp2_with fail
  refine (drawTransform_any _ l0 _ HV.out).mono ?_
  rintro e w1 ⟨s, rfl, hs240, k1⟩
  have K1 := Lib.hid k1
  clear k1
  have hsz := str_size s
  have HT1 := Lib.hid (fun W => transform_own s W (by omega))
  have HT2 := Lib.hid (fun W => sTransform_own s W (by omega))
  have HDR := Lib.hid (fun W (h : Seen W (.slice A' n2 c') (bys m0)) => drawRestore_any _ m0 W h)
  have HRI := Lib.hid (fun (r : List UInt8) (k : Int) W (h : r.length ≤ 240) => restore_own r k W (by omega))
  have HRS := Lib.hid (fun (r : List UInt8) (k : Int) W (h : r.length ≤ 240) => sRestore_own r k W (by omega))
  by_cases hok : trnOk s = true
  · have hn : s.length ≤ 120 := by simpa [trnOk] using hok
    rw [hok, trfR_yes hok, trfX_yes hok] at HT1 HT2
    obtain ⟨hb1, hb2⟩ := bwt_ok hn
    have HRB := Lib.hid (fun W => restore_own (lastL s) (at0 (trn s) s.length : Nat) W (by rw [lastL_len]; omega))
    rw [hb1, hb2] at HRB
    have HTO := Lib.hid (fun W => turnsOf_own s W (by omega))
    rw [hok, trnR_yes hok] at HTO
    have HNL : Hid ((natI (trn s)).length = s.length) := by show _ = _; rw [natI_len, trn_len]
    have HNG : Hid (∀ k, k < s.length → (natI (trn s))[k]? = some (((trn s).getD k 0 : Nat) : Int)) := fun k hk => natI_get (trn s) k (by rw [trn_len]; exact hk)
    have HTL := Lib.hid (fun k (hk : k < s.length) => trn_lt (s := s) hk)
    have HRT := Lib.hid (fun k W (hk : k < s.length) => (show Calls Try.prog 18 #[.string (str s), .int .i64 (k : Int)] W (RetStrOk W (rotL s k) true) by
      have := rotateText_own s (k : Int) W (by omega)
      rwa [(rt_of hn hk).1, (rt_of hn hk).2] at this))
    have HXL := Lib.hid (fun k (hk : k < s.length) => (show (str (rotL s k)).size = s.length by rw [str_size, rotL_len s (by omega)]))
    have HXG := Lib.hid (fun k (hk : k < s.length) (hp : s.length - 1 < (str (rotL s k)).size) => (show (str (rotL s k))[s.length - 1] = lastAt s k by rw [str_get _ _ hp, last_rot hk]))
    have hLL : (str (lastL s)).size = s.length := by rw [str_size, lastL_len]
    have HLG := Lib.hid (fun i (hi : i < s.length) (hp : i < (str (lastL s)).size) => (show (str (lastL s))[i] = lastAt s ((trn s).getD i 0) by rw [str_get _ _ hp, lastL_get hi]))
    have HNB := Lib.hid (fun i (h : i + 1 < s.length) => neigh (s := s) h)
    have HTR := Lib.hid (fun k W (hk : k < s.length) => (show Calls Try.prog 14 #[.string (str (rotL s k))] W (fun e w' => ∃ X : Int, e = .returned (.tuple #[.string (str (lastL s)), .int .i64 X, .bool true]) ∧ TurnIn 0 0 W w') by
      have hl : (rotL s k).length = s.length := rotL_len s (by omega)
      have ho : trnOk (rotL s k) = true := by simpa [trnOk, hl] using hn
      have := transform_own (rotL s k) W (by omega)
      rw [ho, trfR_yes ho, lastL_rot hk] at this
      exact this.mono fun e w' ⟨h1, h2⟩ => ⟨_, h1, h2⟩))
    have hss : ((str s).toList == (str s).toList) = true := by simp
    have hll : ((str (lastL s)).toList == (str (lastL s)).toList) = true := by simp
    have hLn := at0_le (trn s) s.length
    clear hok hb1 hb2
    generalize at0 (trn s) s.length = X at *
    generalize lastL s = L at *
    generalize trn s = T at *
    generalize s.length = n at *
    go_wp2_with fail
    refine (HT1.out _).mono ?_
    rintro e w2 ⟨rfl, k2⟩
    have K2 := Lib.hid (turn_trans K1.out k2 (by omega))
    clear k2
    go_wp2_with fail
    refine (HT2.out _).mono ?_
    rintro e w3 ⟨rfl, k3⟩
    have K3 := Lib.hid (turn_trans K2.out k3 (by omega))
    clear k3
    go_wp2_with fail
    refine (HRB.out _).mono ?_
    rintro e w4 ⟨rfl, k4⟩
    have K4 := Lib.hid (turn_trans K3.out k4 (by omega))
    clear k4
    go_wp2_with fail
    refine (HTO.out _).mono ?_
    rintro e w5 ⟨v5, rfl, hO, hT⟩
    have HOT := Lib.hid hO
    have K5 := Lib.hid (turn_trans K4.out hT (by omega))
    obtain ⟨A5, c5, hv5⟩ := hO.seen.len
    rw [ints_length, HNL.out] at hv5
    subst hv5
    clear hO hT K1 K2 K3 K4 HT1 HT2 HRB HTO
    go_wp2_with fail
    go_loopw [98] (fun x wr => ∃ i : Nat, i ≤ n ∧ x = .int .i64 i ∧ Hid (TurnIn 0 0 w5 wr)) (fun x _ => n - (intOf x).toNat)
    case atStart => exact ⟨0, Nat.zero_le _, rfl, Lib.hid (TurnIn.refl _)⟩
    case round =>
      obtain ⟨i, hi, rfl, HK⟩ := hrel
      by_cases hlt : i < n
      · have hki : (i : Int) < (n : Int) := by omega
        have htl := HTL.out i hlt
        have HNB2 := Lib.hid (fun j (h : j + 1 = i) => HNB.out j (by omega))
        have hTLj := Lib.hid (fun j (h : j + 1 = i) => HTL.out j (by omega))
        have hNGj := Lib.hid (fun j (h : j + 1 = i) => HNG.out j (by omega))
        have HOT3 := Lib.hid (HOT.out.keep HK.out (by omega))
        obtain ⟨A6, c6, e6, _, _, h3⟩ := HOT3.out.seen
        rw [ints_length, HNL.out] at e6 h3
        simp only [Value.slice.injEq] at e6
        obtain ⟨rfl, he6, rfl⟩ := e6
        clear he6
        obtain ⟨b, o, rfl, hbb, hcc⟩ := h3 (by omega)
        have HCC := Lib.hid hcc
        have c1 : wr.cell? ⟨b, o + i, none⟩ = some (.int .i64 ((T.getD i 0 : Nat) : Int)) := hcc i _ (by
          simp only [ints, List.getElem?_map, HNG.out i hlt, Option.map_some])
        have hlp : i < (str L).size := by rw [hLL]; exact hlt
        have gL := HLG.out i hlt hlp
        have HRT1 := Lib.hid (fun W => HRT.out (T.getD i 0) W htl)
        have hxl := HXL.out (T.getD i 0) htl
        have hxp : n - 1 < (str (rotL s (T.getD i 0))).size := by rw [hxl]; omega
        have gX := HXG.out (T.getD i 0) htl hxp
        have hbn := bne_byte (x := lastAt s (T.getD i 0)) (y := lastAt s (T.getD i 0)) false (by simp)
        generalize hkk : T.getD i 0 = k at *
        have hn1 : (n : Int) - 1 = ((n - 1 : Nat) : Int) := by omega
        have hnl1 : n - 1 < n := by omega
        generalize lastAt s k = y at *
        clear h3 hcc
        go_wp2_with fail
        refine (HRT1.out _).mono ?_
        rintro e w6 ⟨rfl, k6⟩
        have HK6 := Lib.hid (turn_trans HK.out k6 (by omega))
        have K6 := Lib.hid k6
        have hbw6 : b < w6.heap.size := by have := k6.size; omega
        clear k6
        go_wp2_with fail
        go_quiet (fail)
        have HK7 := Lib.hid (turn_trans HK6.out (turn_drewN w6 nq) (by omega))
        have K67 := Lib.hid (turn_trans K6.out (turn_drewN w6 nq) (by omega))
        generalize w6.drewN nq = w7 at *
        have HKK := Lib.hid hkk
        clear hkk c1 hbn gX gL
        rcases i with _ | j
        · go_wp2_with fail
          go_roundw
          case rel => exact ⟨1, by omega, by go_num, HK7⟩
          case measure => simp [intOf]; omega
        · have hj0 : (0 : Int) < (j : Int) + 1 := by omega
          have htj := hTLj.out j rfl
          have c2 : w7.cell? ⟨b, o + j, none⟩ = some (.int .i64 ((T.getD j 0 : Nat) : Int)) := by
            rw [World.cell?_of_block (K67.out.block b hbb (by omega))]
            refine HCC.out j _ ?_
            simp only [ints, List.getElem?_map, hNGj.out j rfl, Option.map_some]
          have HRT2 := Lib.hid (fun W => HRT.out (T.getD j 0) W htj)
          have hnb := HNB2.out j rfl
          rw [HKK.out] at hnb
          generalize T.getD j 0 = kj at *
          have hji : (j : Int) < (n : Int) := by omega
          rcases hnb with ⟨ha1, ha2⟩ | ⟨hb1, hb2, hb3⟩
          · have hA1 : Op.bytesLess (str (rotL s kj)).toList (str (rotL s k)).toList = true := by rw [str_toList, str_toList]; exact ha1
            have hA2 : ((str (rotL s kj)).toList == (str (rotL s k)).toList) = false := by rw [str_toList, str_toList]; simpa using ha2
            clear ha1 ha2
            go_wp2_with fail
            refine (HRT2.out _).mono ?_
            rintro e w8 ⟨rfl, k8⟩
            have HK8 := Lib.hid (turn_trans HK7.out k8 (by omega))
            clear k8
            go_wp2_with fail
            go_roundw
            case rel => exact ⟨j + 1 + 1, by omega, by go_num, HK8⟩
            case measure => simp [intOf]; omega
          · have hA1 : Op.bytesLess (str (rotL s kj)).toList (str (rotL s k)).toList = false := by rw [str_toList, str_toList]; exact hb1
            have hA2 : ((str (rotL s kj)).toList == (str (rotL s k)).toList) = true := by rw [str_toList, str_toList, hb2]; simp
            have hb3i : ¬ (k : Int) ≤ (kj : Int) := by omega
            clear hb1 hb2
            go_wp2_with fail
            refine (HRT2.out _).mono ?_
            rintro e w8 ⟨rfl, k8⟩
            have HK8 := Lib.hid (turn_trans HK7.out k8 (by omega))
            have c3 : w8.cell? ⟨b, o + j, none⟩ = some (.int .i64 ((kj : Nat) : Int)) := by
              have := k8.block b (by have := K67.out.size; omega) (by omega)
              rw [World.cell?_of_block this]; exact c2
            clear k8
            go_wp2_with fail
            go_roundw
            case rel => exact ⟨j + 1 + 1, by omega, by go_num, HK8⟩
            case measure => simp [intOf]; omega
      · obtain rfl : i = n := by omega
        have hki : ¬ (i : Int) < (i : Int) := by omega
        have K6 := Lib.hid (turn_trans K5.out HK.out (by omega))
        clear HK
        by_cases hn0 : i = 0
        · have hn0i : ¬ (0 : Int) < (i : Int) := by omega
          go_wp2_with fail
          refine (HDR.out _ (HSU.out.touch K6.out)).mono ?_
          rintro e wA ⟨r, kk, rfl, hr, kA⟩
          have KA := Lib.hid (turn_trans K6.out kA (by omega))
          have HRI2 := Lib.hid (fun W => HRI.out r kk W hr)
          have HRS2 := Lib.hid (fun W => HRS.out r kk W hr)
          clear kA
          go_wp2_with fail
          refine (HRI2.out _).mono ?_
          rintro e wB ⟨rfl, kB⟩
          have KB := Lib.hid (turn_trans KA.out kB (by omega))
          clear kB
          go_wp2_with fail
          refine (HRS2.out _).mono ?_
          rintro e wC ⟨rfl, kC⟩
          have KC := Lib.hid (turn_trans KB.out kC (by omega))
          clear kC
          have hrr : ((str (rstR r kk)).toList == (str (rstR r kk)).toList) = true := by simp
          generalize rstR r kk = z at *
          generalize rstOk r kk = bo at *
          cases bo
          · go_wp2_with fail
            go_ret
            exact ⟨rfl, KC.out.to_below⟩
          · go_wp2_with fail
            go_ret
            exact ⟨rfl, KC.out.to_below⟩
        · have hn0i : (0 : Int) < (i : Int) := by omega
          go_wp2_with fail
          refine (numberOf_any _ m0 _ (HSU.out.touch K6.out)).mono ?_
          rintro e w7 ⟨x, hx1, rfl, rfl⟩
          obtain ⟨q, hq, hqm⟩ : ∃ q : Nat, q < i ∧ (x : Int) % (i : Int) = (q : Int) := ⟨x % i, Nat.mod_lt _ (by omega), by rw [← Int.natCast_emod]⟩
          have HR7 := Lib.hid (fun W => HRT.out q W hq)
          have HT7 := Lib.hid (fun W => HTR.out q W hq)
          go_wp2_with fail
          refine (HR7.out _).mono ?_
          rintro e w8 ⟨rfl, k8⟩
          have K8 := Lib.hid (turn_trans K6.out k8 (by omega))
          clear k8
          go_wp2_with fail
          refine (HT7.out _).mono ?_
          rintro e w9 ⟨X2, rfl, k9⟩
          have K9 := Lib.hid (turn_trans K8.out k9 (by omega))
          clear k9
          go_wp2_with fail
          refine (HDR.out _ (HSU.out.touch K9.out)).mono ?_
          rintro e wA ⟨r, kk, rfl, hr, kA⟩
          have KA := Lib.hid (turn_trans K9.out kA (by omega))
          have HRI2 := Lib.hid (fun W => HRI.out r kk W hr)
          have HRS2 := Lib.hid (fun W => HRS.out r kk W hr)
          clear kA
          go_wp2_with fail
          refine (HRI2.out _).mono ?_
          rintro e wB ⟨rfl, kB⟩
          have KB := Lib.hid (turn_trans KA.out kB (by omega))
          clear kB
          go_wp2_with fail
          refine (HRS2.out _).mono ?_
          rintro e wC ⟨rfl, kC⟩
          have KC := Lib.hid (turn_trans KB.out kC (by omega))
          clear kC
          have hrr : ((str (rstR r kk)).toList == (str (rstR r kk)).toList) = true := by simp
          generalize rstR r kk = z at *
          generalize rstOk r kk = bo at *
          cases bo
          · go_wp2_with fail
            go_ret
            exact ⟨rfl, KC.out.to_below⟩
          · go_wp2_with fail
            go_ret
            exact ⟨rfl, KC.out.to_below⟩
  · have hok2 : trnOk s = false := by simpa using hok
    rw [hok2, trfR_no hok2, trfX_no hok2] at HT1 HT2
    have hee : ((str []).toList == (str []).toList) = true := by simp
    clear hok hok2
    go_wp2_with fail
    refine (HT1.out _).mono ?_
    rintro e w2 ⟨rfl, k2⟩
    have K2 := Lib.hid (turn_trans K1.out k2 (by omega))
    clear k2
    go_wp2_with fail
    refine (HT2.out _).mono ?_
    rintro e w3 ⟨rfl, k3⟩
    have K3 := Lib.hid (turn_trans K2.out k3 (by omega))
    clear k3
    go_wp2_with fail
    refine (HDR.out _ (HSU.out.touch K3.out)).mono ?_
    rintro e wA ⟨r, kk, rfl, hr, kA⟩
    have KA := Lib.hid (turn_trans K3.out kA (by omega))
    have HRI2 := Lib.hid (fun W => HRI.out r kk W hr)
    have HRS2 := Lib.hid (fun W => HRS.out r kk W hr)
    clear kA
    go_wp2_with fail
    refine (HRI2.out _).mono ?_
    rintro e wB ⟨rfl, kB⟩
    have KB := Lib.hid (turn_trans KA.out kB (by omega))
    clear kB
    go_wp2_with fail
    refine (HRS2.out _).mono ?_
    rintro e wC ⟨rfl, kC⟩
    have KC := Lib.hid (turn_trans KB.out kC (by omega))
    clear kC
    have hrr : ((str (rstR r kk)).toList == (str (rstR r kk)).toList) = true := by simp
    generalize rstR r kk = z at *
    generalize rstOk r kk = bo at *
    cases bo
    · go_wp2_with fail
      go_ret
      exact ⟨rfl, KC.out.to_below⟩
    · go_wp2_with fail
      go_ret
      exact ⟨rfl, KC.out.to_below⟩

set_option maxRecDepth 100000 in
theorem walk_FnTurned : G294.LawWalk Try.prog 3 Try.f3 Rows.fnTurnedSpec.vars false (fun _ => True) := by
  intro H enc W base args ds gs before hval hW hX
  have hlt0 : ∀ p ∈ before, p.block < W.heap.size := fun p hp => hW.lt p hp
  obtain ⟨p, q, hA, hV, rfl, hfz, hnd⟩ := hW
  rw [Try.params3] at hA hval
  obtain ⟨u0, u1, d0, d1, p0, p1, rfl, rfl, rfl, t0, t1⟩ := Go.ChangeShapes.trodAll_two hA
  obtain ⟨l0, sn0⟩ := seen_bytes Try.underlying22 Try.underlying5 (by kernel_rfl) (hval 0 22 u0 rfl rfl) t0 (fun x hx => hlt0 x (by simp [hx]))
  obtain ⟨l1, sn1⟩ := seen_bytes Try.underlying22 Try.underlying5 (by kernel_rfl) (hval 1 22 u1 rfl rfl) t1 (fun x hx => hlt0 x (by simp [hx]))
  exact turned_walk u0 u1 l0 l1 W sn0 sn1

end Go.Proofs.Ytbfchebnooanjaa
