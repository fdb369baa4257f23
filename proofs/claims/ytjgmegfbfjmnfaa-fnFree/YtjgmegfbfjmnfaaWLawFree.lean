/- The walk of FnFree. -/
import Derived.Test.YtjgmegfbfjmnfaaRows
import Derived.Test.YtjgmegfbfjmnfaaBd08
import Derived.Test.YtjgmegfbfjmnfaaBd10
import Derived.Test.YtjgmegfbfjmnfaaBd09
import Derived.Test.YtjgmegfbfjmnfaaBd00
set_option linter.unusedSimpArgs false
set_option linter.unusedVariables false
namespace Go.Proofs.Ytjgmegfbfjmnfaa
open Go.ChangeShapes Go.WideShapes Go.ChangeAt Go.RowKit G294

theorem outs_at : ∀ q : Nat, q < 4 → (outOk (q : Int) 0 = true ∧ outS (q : Int) 0 = outN q 0 ∧ outX (q : Int) 0 = (nxtN q 0 : Int)) ∧ (outOk (q : Int) 1 = true ∧ outS (q : Int) 1 = outN q 1 ∧ outX (q : Int) 1 = (nxtN q 1 : Int)) := by decide +kernel

set_option maxRecDepth 100000 in
set_option maxHeartbeats 8000000 in
theorem free_walk (v u : Value) (l0 m0 : List UInt8) (w : World) (hv : Seen w v (bys l0)) (hu : Seen w u (bys m0)) :
    Calls Try.prog 4 #[v, u] w fun e w' => e = .returned (.bool true) ∧ Below w.heap.size w w' := by
  have HV := Lib.hid hv
  have HSU := Lib.hid hu
  obtain ⟨A, c, rfl, hlc, hcm, hx⟩ := hv
  obtain ⟨A', c', rfl, hlc', hcm', hx'⟩ := hu
  rw [bys_length] at hlc hlc' HV HSU hx'
  simp only [bys_length]
  have HX := Lib.hid hx'
  clear hx hx'
  unfold maxLen at hcm hcm'
  generalize l0.length = n1 at *
  obtain ⟨n2, hn2⟩ : ∃ n2, n2 = m0.length := ⟨_, rfl⟩
  have HN2 := Lib.hid hn2
  rw [← hn2] at hlc' HSU HX ⊢
  clear hn2
  by_cases hbig : 1048576 < wrap64 ((n1 : Int) + (n2 : Int))
  · go_enter Try.func4, Try.ntmps4
    go_wp2_with fail
    go_ret
    exact ⟨rfl, Below.refl _ _⟩
  go_enter Try.func4, Try.ntmps4
  go_wp2_with fail
  refine (drawEncodeBits_any _ l0 _ HV.out).mono ?_
  rintro e w1 ⟨s, rfl, hr, k1⟩
  have HEI := Lib.hid (fun W => encodeBits_own s W (by omega))
  have HES := Lib.hid (fun W => sEncodeBits_own s W (by omega))
  unfold RetStrOk at HEI HES
  have HK1 := Lib.hid k1
  clear k1 hr
  by_cases hok : encOk10 s = true
  · have HBS := Lib.hid (bitsOk_b hok)
    have HFA : Hid (∀ l : List Int, someOk l (encR10 s).length = true → l.length ≤ 3 → flpOk (encR10 s) l = true ∧ (flpR (encR10 s) l).length = (encR10 s).length ∧ dstOk (encR10 s) (flpR (encR10 s) l) = true ∧ dstR (encR10 s) (flpR (encR10 s) l) = (l.length : Int) ∧ recOk (flpR (encR10 s) l) = true ∧ dcdR (flpR (encR10 s) l) = (s, (l.length : Int))) := fun l h1 h2 => free_all hok h1 h2
    have hwl := encR10_len hok
    have HER := Lib.hid (fun k (hk : k < s.length + 2) => enc_round s (bitsOk_b hok).2 hk)
    have HEL := Lib.hid (enc_last hok)
    have hsl := (bitsOk_b hok).1
    rw [hok] at HEI HES
    generalize encR10 s = X at *
    obtain ⟨n, hn⟩ : ∃ n, n = s.length := ⟨_, rfl⟩
    have HSL : Hid (s.length = n) := hn.symm
    have hssz : (str s).size = n := by rw [str_size]; exact hn.symm
    rw [← hn] at hwl hsl HER HEL
    obtain ⟨N, hN⟩ : ∃ N, N = X.length := ⟨_, rfl⟩
    have hXsz : (str X).size = N := by rw [str_size]; exact hN.symm
    rw [← hN] at hwl HFA
    have hN96 : N ≤ 96 := by omega
    have hNX : X.length ≤ 96 := by omega
    clear hok hn hwl hN HBS
    go_wp2_with fail
    refine (HEI.out _).mono ?_
    rintro e w2 ⟨rfl, k2⟩
    have HK2 := Lib.hid (turn_trans HK1.out k2 (by omega))
    clear k2
    go_wp2_with fail
    refine (HES.out _).mono ?_
    rintro e w3 ⟨rfl, k3⟩
    have HK3 := Lib.hid (turn_trans HK2.out k3 (by omega))
    clear k3
    have s3 := HK3.out.size
    go_wp2_with fail
    go_loopw [10, 11, 12] (fun o a i wr => ∃ (k : Nat) (l : List Int) (z : Int), k ≤ 3 ∧ k ≤ n2 ∧ i = .int .i64 k ∧ a = .int .i64 z ∧ -1 ≤ z ∧ z ≤ 100 * (k : Int) ∧ l.length ≤ k ∧ Hid (someOk l N = true) ∧ Hid (∀ j, j < l.length → l.getD j 0 ≤ z) ∧ wr.ownsRow w3.heap.size 3 1 o l.length (ints l) ∧ TurnIn 0 0 w3 wr) (fun _ _ i _ => 3 - (intOf i).toNat)
    case atStart => exact ⟨0, [], -1, by omega, by omega, rfl, rfl, by omega, by omega, by simp, Lib.hid (by simp [someOk]), Lib.hid (fun j hj => by simp at hj), World.ownsRow_nil _ _ _ _, TurnIn.refl _⟩
    case round =>
      obtain ⟨k, l, z, hk3, hkn, rfl, rfl, hz0, hz1, hlk, HSO, HLE, hown, hT⟩ := hrel
      have sT := hT.size
      obtain ⟨A7, n7, c7, rfl⟩ := own_isSlice hown
      have hn7 : n7 = l.length := by
        rcases hown.2 with ⟨hh, h0⟩ | ⟨g', c', cur, hh, _⟩
        · simp at hh; omega
        · simp at hh; exact hh.2.1
      subst hn7
      generalize hzz : l.length = L at *
      have HL := Lib.hid hzz
      clear hzz
      by_cases hlt3 : k < 3
      · have hk2 : (k : Int) < 3 := by omega
        have hd2 : decide ((k : Int) < 3) = true := by simpa using hk2
        by_cases hltn : k < n2
        · have hk1 : (k : Int) < (n2 : Int) := by omega
          have hd1 : decide ((k : Int) < (n2 : Int)) = true := by simpa using hk1
          obtain ⟨b', off', rfl, hbl', hcell'⟩ := HX.out (by omega)
          have hpm : k < m0.length := by rw [← HN2.out]; exact hltn
          have hcu := (World.cell?_of_block (a := ⟨b', off' + k, none⟩) (hT.block b' (by omega) (by omega))).trans ((HK3.out.to_below.cell (p := ⟨b', off' + k, none⟩) hbl').trans (hcell' k _ (bys_get m0 k hpm)))
          generalize m0[k] = x at hcu
          have hx0 := x.toNat_lt
          obtain ⟨X1, hX1⟩ : ∃ X1 : Nat, X1 = x.toNat := ⟨_, rfl⟩
          rw [← hX1] at hcu hx0
          obtain ⟨m, hm⟩ : ∃ m : Nat, m = X1 % 8 := ⟨_, rfl⟩
          have hm7 : m ≤ 7 := by omega
          have hrem : (X1 : Int).tmod 8 = (m : Int) := by rw [Int.tmod_eq_emod_of_nonneg (by omega)]; omega
          obtain ⟨z1, hz1e⟩ : ∃ z1 : Int, z1 = z + (1 + (m : Int)) := ⟨_, rfl⟩
          have hadd : z + (1 + (m : Int)) = z1 := hz1e.symm
          have hzp : 0 ≤ z1 := by omega
          have hzl : z < z1 := by omega
          have hzu : z1 ≤ 100 * ((k + 1 : Nat) : Int) := by omega
          have hzu2 : z1 ≤ 1000 := by omega
          clear hm hX1 hz1e hcell'
          by_cases ha : z1 < (N : Int)
          · have had : decide (z1 < (N : Int)) = true := by simpa using ha
            have HSO2 := Lib.hid (some_snoc HSO.out (by rw [HL.out]; intro i hi; exact HLE.out i hi) hzl hzp ha)
            have HLE2 := Lib.hid (le_snoc (l := l) (by rw [HL.out]; intro i hi; exact HLE.out i hi) hzl)
            go_wp2_with (at_builtin; refine wpList_append1 rfl _ _ _ rfl w3.heap.size 3 _ _ Try.underlying36 infoInt rfl _ L _ rfl (hown.alloc _) wr.heap.size (.int .i64 z1) rfl ?c1 rfl ?c2 ?c3 ?c4 ?_)
            case c1 => simp
            case c2 => omega
            case c3 => omega
            case c4 => simp; omega
            intro v' w' hown' hg' _
            have ka := turn_alloc wr (.cells #[.int .i64 z1] 3)
            have ko := turn_own (hown.alloc (.cells #[.int .i64 z1] 3)) hg'
            have sA := ka.size
            have hl1 : (l ++ [z1]).length = L + 1 := by rw [List.length_append, HL.out]; rfl
            have HOW : Hid (w'.ownsRow w3.heap.size 3 1 v' (l ++ [z1]).length (ints (l ++ [z1]))) := by show World.ownsRow _ _ _ _ _ _ _; rw [hl1, ints_append]; exact hown'
            have HTW := Lib.hid (turn_trans (turn_trans hT ka (by omega)) ko (by omega))
            have hl2 : (l ++ [z1]).length ≤ k + 1 := by omega
            clear hown hown' hg' ka ko hT hl1 hcu
            go_wp2_with fail
            go_roundw
            case rel => exact ⟨k + 1, l ++ [z1], z1, by omega, by omega, by go_num, rfl, by omega, hzu, hl2, HSO2, HLE2, HOW.out, HTW.out⟩
            case measure => simp [intOf]; omega
          · have had : decide (z1 < (N : Int)) = false := by simpa using ha
            have HLE2 : Hid (∀ j, j < l.length → l.getD j 0 ≤ z1) := fun j hj => by
              have := HLE.out j (by rw [← HL.out]; exact hj)
              omega
            have hL2 : l.length ≤ k + 1 := by rw [HL.out]; omega
            have HOW : Hid (wr.ownsRow w3.heap.size 3 1 (.slice A7 L c7) l.length (ints l)) := by show World.ownsRow _ _ _ _ _ _ _; rw [HL.out]; exact hown
            have HTW := Lib.hid hT
            clear hown hT
            go_wp2_with fail
            go_roundw
            case rel => exact ⟨k + 1, l, z1, by omega, by omega, by go_num, rfl, by omega, hzu, hL2, HSO, HLE2, HOW.out, HTW.out⟩
            case measure => simp [intOf]; omega
        · have hk1 : ¬ (k : Int) < (n2 : Int) := by omega
          have hd1 : decide ((k : Int) < (n2 : Int)) = false := by simpa using hk1
          obtain ⟨f1, f2, f3, f4, f5, f6⟩ := HFA.out l HSO.out (by rw [HL.out]; omega)
          have hse : Seen wr (.slice A7 L c7) (ints l) := by
            have h := hown
            rw [← HL.out] at h
            have := Seen.of_own h
            rwa [HL.out] at this
          have HS := Lib.hid hse
          rw [HL.out] at f4 f6
          have HFB := Lib.hid (fun W (hs : Seen W (.slice A7 L c7) (ints l)) => flipBits_own _ X l W hs (by omega))
          rw [f1] at HFB
          generalize flpR X l = Y at *
          have HDB := Lib.hid (fun W => distanceBits_own X Y W (by omega) (by omega))
          rw [f3, f4] at HDB
          have HDC := Lib.hid (fun W => decodeBits_own Y W (by omega))
          rw [f5, f6] at HDC
          unfold RetStrOk at HFB
          unfold RetIntB at HDB
          unfold RetPtOk at HDC
          simp only at HDC
          have HKr := Lib.hid (turn_trans HK3.out hT (by omega))
          clear f1 f2 f3 f4 f5 f6 hse hown hT
          go_wp2_with fail
          refine (HFB.out _ HS.out).mono ?_
          rintro e w4 ⟨rfl, k4⟩
          have HK4 := Lib.hid (turn_trans HKr.out k4 (by omega))
          clear k4
          go_wp2_with fail
          refine (HDB.out _).mono ?_
          rintro e w5 ⟨rfl, k5⟩
          have HK5 := Lib.hid (turn_trans HK4.out k5 (by omega))
          clear k5
          go_wp2_with fail
          refine (HDC.out _).mono ?_
          rintro e w6 ⟨rfl, k6⟩
          have HK6 := Lib.hid (turn_trans (turn_trans HK5.out k6 (by omega)) (turn_alloc w6 (.cells #[.string (str s), .int .i64 (L : Int)] 25)) (by omega))
          have X6 := boxV2_new w6 (.string (str s)) (.int .i64 (L : Int)) 25
          have x60 := X6.c0
          have x61 := X6.c1
          have hLL : ((L : Int) != (L : Int)) = false := by simp
          clear k6 X6
          go_wp2_with fail
          generalize (w6.alloc (.cells #[.string (str s), .int .i64 (L : Int)] 25)) = w7 at *
          clear x60 x61 hLL
          go_loopw [19, 20, 21] (fun st o i wr => ∃ (k q : Nat) (O : List UInt8), k ≤ n + 2 ∧ i = .int .i64 k ∧ st = .int .i64 q ∧ o = .string (str O) ∧ Hid (encT 0 ((encS s).take k) = O) ∧ Hid (encE s k = q) ∧ Hid (TurnIn 0 0 w wr)) (fun _ _ i _ => n + 2 - (intOf i).toNat)
          case atStart => exact ⟨0, 0, [], by omega, rfl, rfl, rfl, Lib.hid rfl, Lib.hid rfl, HK6⟩
          case round =>
            obtain ⟨k, q, O, hk, rfl, rfl, rfl, HO, HQ0, HT2⟩ := hrel
            by_cases hlt : k < n + 2
            · have hki : (k : Int) < (n : Int) + 2 := by omega
              obtain ⟨b, hb2, hb49, hb0, hen, hes⟩ := HER.out k (by omega)
              have h4 := encE_lt s k
              have hol := encT_take_len s (k := k) (by rw [HSL.out]; omega)
              rw [HO.out] at hen hol
              rw [HQ0.out] at hen hes h4
              have hz1 : (str O).size ≤ 96 := by rw [str_size, hol]; omega
              have hz20 : (str (outN q 0)).size = 3 := by rw [str_size]; rfl
              have hz21 : (str (outN q 1)).size = 3 := by rw [str_size]; rfl
              have hz3 : ¬ 9223372036854775807 < (str O).size + 3 := by omega
              have hap0 : str O ++ str (outN q 0) = str (O ++ outN q 0) := str_append _ _
              have hap1 : str O ++ str (outN q 1) = str (O ++ outN q 1) := str_append _ _
              have HO0 := Lib.hid (fun W => outputsAt_own (q : Int) 0 W)
              have HO1 := Lib.hid (fun W => outputsAt_own (q : Int) 1 W)
              obtain ⟨⟨o1, o2, o3⟩, o4, o5, o6⟩ := outs_at q h4
              rw [o1, o2, o3] at HO0
              rw [o4, o5, o6] at HO1
              unfold RetOut3 at HO0 HO1
              clear o1 o2 o3 o4 o5 o6 hol
              by_cases hkn : k < n
              · have hkni : (k : Int) < (n : Int) := by omega
                have hknd : decide ((k : Int) < (n : Int)) = true := by simpa using hkni
                have hsg := str_get s k (by rw [hssz]; exact hkn)
                have h49 := hb49 hkn
                generalize s.getD k 0 = c at *
                by_cases hc : c = 49
                · rw [if_pos hc] at h49
                  subst hc
                  subst h49
                  have HE := Lib.hid hen
                  have HQ := Lib.hid hes
                  have hc9 : ((((49 : UInt8).toNat : Nat) : Int) == 49) = true := by decide
                  clear hen hes hb0 hb49 hap0 hz20 HO0
                  go_wp2_with fail
                  refine (HO1.out _).mono ?_
                  rintro e wq ⟨rfl, kq⟩
                  have HTq := Lib.hid (turn_trans HT2.out kq (by omega))
                  clear kq
                  go_wp2_with fail
                  go_roundw
                  case rel => exact ⟨k + 1, nxtN q 1, O ++ outN q 1, by omega, by go_num, by first | rfl | simp, by first | rfl | rw [hap1], HE, HQ, HTq⟩
                  case measure => simp [intOf]; omega
                · rw [if_neg hc] at h49
                  subst h49
                  have HE := Lib.hid hen
                  have HQ := Lib.hid hes
                  have hc9 : (((c.toNat : Nat) : Int) == 49) = false := by
                    rw [beq_eq_false_iff_ne]
                    intro e
                    exact hc (UInt8.toNat_inj.1 (by show c.toNat = 49; omega))
                  clear hen hes hb0 hb49 hap1 hz21 HO1 hc
                  go_wp2_with fail
                  refine (HO0.out _).mono ?_
                  rintro e wq ⟨rfl, kq⟩
                  have HTq := Lib.hid (turn_trans HT2.out kq (by omega))
                  clear kq
                  go_wp2_with fail
                  go_roundw
                  case rel => exact ⟨k + 1, nxtN q 0, O ++ outN q 0, by omega, by go_num, by first | rfl | simp, by first | rfl | rw [hap0], HE, HQ, HTq⟩
                  case measure => simp [intOf]; omega
              · have hkni : ¬ (k : Int) < (n : Int) := by omega
                have hknd : decide ((k : Int) < (n : Int)) = false := by simpa using hkni
                have h0 := hb0 hkn
                subst h0
                have HE := Lib.hid hen
                have HQ := Lib.hid hes
                clear hen hes hb0 hb49 hap1 hz21 HO1
                go_wp2_with fail
                refine (HO0.out _).mono ?_
                rintro e wq ⟨rfl, kq⟩
                have HTq := Lib.hid (turn_trans HT2.out kq (by omega))
                clear kq
                go_wp2_with fail
                go_roundw
                case rel => exact ⟨k + 1, nxtN q 0, O ++ outN q 0, by omega, by go_num, by first | rfl | simp, by first | rfl | rw [hap0], HE, HQ, HTq⟩
                case measure => simp [intOf]; omega
            · obtain rfl : k = n + 2 := by omega
              have hki : ¬ (((n + 2 : Nat) : Int)) < (n : Int) + 2 := by omega
              have e1 := HEL.out.1
              have e2 := HEL.out.2
              rw [HO.out] at e1
              rw [HQ0.out] at e2
              subst e1
              subst e2
              have HKt := HT2
              go_wp2_with fail
              refine (drawFlipBits_any _ m0 _ (HSU.out.below HKt.out.to_below)).mono ?_
              rintro e wa ⟨vf, rf, lf, rfl, hrf, hsf, ka⟩
              have KA := Lib.hid (turn_trans HKt.out ka (by omega))
              have SF := Lib.hid hsf
              have HFI := Lib.hid (fun W (hs : Seen W vf (ints lf)) => flipBits_own vf rf lf W hs (by omega))
              have HFS := Lib.hid (fun W (hs : Seen W vf (ints lf)) => sFlipBits_own vf rf lf W hs (by omega))
              have HFT : Hid (∀ Y : List UInt8, Y.length ≤ 1000 → ∀ W (hs : Seen W vf (ints lf)), Calls Try.prog 22 #[.string (str Y), vf] W (RetStrOk W (flpR Y lf) (flpOk Y lf))) := fun Y hY W hs => flipBits_own vf Y lf W hs (by omega)
              unfold RetStrOk at HFI HFS HFT
              clear hsf ka
              by_cases hfo : flpOk rf lf = true
              · obtain ⟨b1, b2⟩ := flip_back hfo
                have b3 := (flip_bits hfo).2
                have HFU := Lib.hid (HFT.out (flpR rf lf) (by omega))
                rw [b1, b2] at HFU
                rw [hfo] at HFI HFS
                generalize flpR rf lf = Yf at *
                clear b1 b2 b3 hfo hrf HFT
                go_wp2_with fail
                refine (HFI.out _ SF.out).mono ?_
                rintro e wb ⟨rfl, kb⟩
                have SFb := Lib.hid (SF.out.touch kb)
                have KB := Lib.hid (turn_trans KA.out kb (by omega))
                clear kb
                go_wp2_with fail
                refine (HFS.out _ SFb.out).mono ?_
                rintro e wc ⟨rfl, kc⟩
                have SFc := Lib.hid (SFb.out.touch kc)
                have KC := Lib.hid (turn_trans KB.out kc (by omega))
                clear kc
                go_wp2_with fail
                refine (HFU.out _ SFc.out).mono ?_
                rintro e wd ⟨rfl, kd⟩
                have KD := Lib.hid (turn_trans KC.out kd (by omega))
                clear kd
                go_wp2_with fail
                go_ret
                exact ⟨by first | rfl | simp, KD.out.to_below⟩
              · have hff : flpOk rf lf = false := by simpa using hfo
                have HFU := Lib.hid (HFT.out [] (by simp))
                rw [hff] at HFI HFS
                rw [show flpR rf lf = [] from if_neg hfo] at HFI HFS
                generalize flpOk [] lf = bf at *
                generalize flpR [] lf = Yf at *
                clear hfo hff hrf HFT
                go_wp2_with fail
                refine (HFI.out _ SF.out).mono ?_
                rintro e wb ⟨rfl, kb⟩
                have SFb := Lib.hid (SF.out.touch kb)
                have KB := Lib.hid (turn_trans KA.out kb (by omega))
                clear kb
                go_wp2_with fail
                refine (HFS.out _ SFb.out).mono ?_
                rintro e wc ⟨rfl, kc⟩
                have SFc := Lib.hid (SFb.out.touch kc)
                have KC := Lib.hid (turn_trans KB.out kc (by omega))
                clear kc
                go_wp2_with fail
                refine (HFU.out _ SFc.out).mono ?_
                rintro e wd ⟨rfl, kd⟩
                have KD := Lib.hid (turn_trans KC.out kd (by omega))
                clear kd
                go_wp2_with fail
                go_ret
                exact ⟨by first | rfl | simp, KD.out.to_below⟩
      · obtain rfl : k = 3 := by omega
        have hd2 : decide (((3 : Nat) : Int) < 3) = false := by decide
        by_cases hltn : 3 < n2
        · have hk1 : ((3 : Nat) : Int) < (n2 : Int) := by omega
          have hd1 : decide (((3 : Nat) : Int) < (n2 : Int)) = true := by simpa using hk1
          obtain ⟨f1, f2, f3, f4, f5, f6⟩ := HFA.out l HSO.out (by rw [HL.out]; omega)
          have hse : Seen wr (.slice A7 L c7) (ints l) := by
            have h := hown
            rw [← HL.out] at h
            have := Seen.of_own h
            rwa [HL.out] at this
          have HS := Lib.hid hse
          rw [HL.out] at f4 f6
          have HFB := Lib.hid (fun W (hs : Seen W (.slice A7 L c7) (ints l)) => flipBits_own _ X l W hs (by omega))
          rw [f1] at HFB
          generalize flpR X l = Y at *
          have HDB := Lib.hid (fun W => distanceBits_own X Y W (by omega) (by omega))
          rw [f3, f4] at HDB
          have HDC := Lib.hid (fun W => decodeBits_own Y W (by omega))
          rw [f5, f6] at HDC
          unfold RetStrOk at HFB
          unfold RetIntB at HDB
          unfold RetPtOk at HDC
          simp only at HDC
          have HKr := Lib.hid (turn_trans HK3.out hT (by omega))
          clear f1 f2 f3 f4 f5 f6 hse hown hT
          go_wp2_with fail
          refine (HFB.out _ HS.out).mono ?_
          rintro e w4 ⟨rfl, k4⟩
          have HK4 := Lib.hid (turn_trans HKr.out k4 (by omega))
          clear k4
          go_wp2_with fail
          refine (HDB.out _).mono ?_
          rintro e w5 ⟨rfl, k5⟩
          have HK5 := Lib.hid (turn_trans HK4.out k5 (by omega))
          clear k5
          go_wp2_with fail
          refine (HDC.out _).mono ?_
          rintro e w6 ⟨rfl, k6⟩
          have HK6 := Lib.hid (turn_trans (turn_trans HK5.out k6 (by omega)) (turn_alloc w6 (.cells #[.string (str s), .int .i64 (L : Int)] 25)) (by omega))
          have X6 := boxV2_new w6 (.string (str s)) (.int .i64 (L : Int)) 25
          have x60 := X6.c0
          have x61 := X6.c1
          have hLL : ((L : Int) != (L : Int)) = false := by simp
          clear k6 X6
          go_wp2_with fail
          generalize (w6.alloc (.cells #[.string (str s), .int .i64 (L : Int)] 25)) = w7 at *
          clear x60 x61 hLL
          go_loopw [19, 20, 21] (fun st o i wr => ∃ (k q : Nat) (O : List UInt8), k ≤ n + 2 ∧ i = .int .i64 k ∧ st = .int .i64 q ∧ o = .string (str O) ∧ Hid (encT 0 ((encS s).take k) = O) ∧ Hid (encE s k = q) ∧ Hid (TurnIn 0 0 w wr)) (fun _ _ i _ => n + 2 - (intOf i).toNat)
          case atStart => exact ⟨0, 0, [], by omega, rfl, rfl, rfl, Lib.hid rfl, Lib.hid rfl, HK6⟩
          case round =>
            obtain ⟨k, q, O, hk, rfl, rfl, rfl, HO, HQ0, HT2⟩ := hrel
            by_cases hlt : k < n + 2
            · have hki : (k : Int) < (n : Int) + 2 := by omega
              obtain ⟨b, hb2, hb49, hb0, hen, hes⟩ := HER.out k (by omega)
              have h4 := encE_lt s k
              have hol := encT_take_len s (k := k) (by rw [HSL.out]; omega)
              rw [HO.out] at hen hol
              rw [HQ0.out] at hen hes h4
              have hz1 : (str O).size ≤ 96 := by rw [str_size, hol]; omega
              have hz20 : (str (outN q 0)).size = 3 := by rw [str_size]; rfl
              have hz21 : (str (outN q 1)).size = 3 := by rw [str_size]; rfl
              have hz3 : ¬ 9223372036854775807 < (str O).size + 3 := by omega
              have hap0 : str O ++ str (outN q 0) = str (O ++ outN q 0) := str_append _ _
              have hap1 : str O ++ str (outN q 1) = str (O ++ outN q 1) := str_append _ _
              have HO0 := Lib.hid (fun W => outputsAt_own (q : Int) 0 W)
              have HO1 := Lib.hid (fun W => outputsAt_own (q : Int) 1 W)
              obtain ⟨⟨o1, o2, o3⟩, o4, o5, o6⟩ := outs_at q h4
              rw [o1, o2, o3] at HO0
              rw [o4, o5, o6] at HO1
              unfold RetOut3 at HO0 HO1
              clear o1 o2 o3 o4 o5 o6 hol
              by_cases hkn : k < n
              · have hkni : (k : Int) < (n : Int) := by omega
                have hknd : decide ((k : Int) < (n : Int)) = true := by simpa using hkni
                have hsg := str_get s k (by rw [hssz]; exact hkn)
                have h49 := hb49 hkn
                generalize s.getD k 0 = c at *
                by_cases hc : c = 49
                · rw [if_pos hc] at h49
                  subst hc
                  subst h49
                  have HE := Lib.hid hen
                  have HQ := Lib.hid hes
                  have hc9 : ((((49 : UInt8).toNat : Nat) : Int) == 49) = true := by decide
                  clear hen hes hb0 hb49 hap0 hz20 HO0
                  go_wp2_with fail
                  refine (HO1.out _).mono ?_
                  rintro e wq ⟨rfl, kq⟩
                  have HTq := Lib.hid (turn_trans HT2.out kq (by omega))
                  clear kq
                  go_wp2_with fail
                  go_roundw
                  case rel => exact ⟨k + 1, nxtN q 1, O ++ outN q 1, by omega, by go_num, by first | rfl | simp, by first | rfl | rw [hap1], HE, HQ, HTq⟩
                  case measure => simp [intOf]; omega
                · rw [if_neg hc] at h49
                  subst h49
                  have HE := Lib.hid hen
                  have HQ := Lib.hid hes
                  have hc9 : (((c.toNat : Nat) : Int) == 49) = false := by
                    rw [beq_eq_false_iff_ne]
                    intro e
                    exact hc (UInt8.toNat_inj.1 (by show c.toNat = 49; omega))
                  clear hen hes hb0 hb49 hap1 hz21 HO1 hc
                  go_wp2_with fail
                  refine (HO0.out _).mono ?_
                  rintro e wq ⟨rfl, kq⟩
                  have HTq := Lib.hid (turn_trans HT2.out kq (by omega))
                  clear kq
                  go_wp2_with fail
                  go_roundw
                  case rel => exact ⟨k + 1, nxtN q 0, O ++ outN q 0, by omega, by go_num, by first | rfl | simp, by first | rfl | rw [hap0], HE, HQ, HTq⟩
                  case measure => simp [intOf]; omega
              · have hkni : ¬ (k : Int) < (n : Int) := by omega
                have hknd : decide ((k : Int) < (n : Int)) = false := by simpa using hkni
                have h0 := hb0 hkn
                subst h0
                have HE := Lib.hid hen
                have HQ := Lib.hid hes
                clear hen hes hb0 hb49 hap1 hz21 HO1
                go_wp2_with fail
                refine (HO0.out _).mono ?_
                rintro e wq ⟨rfl, kq⟩
                have HTq := Lib.hid (turn_trans HT2.out kq (by omega))
                clear kq
                go_wp2_with fail
                go_roundw
                case rel => exact ⟨k + 1, nxtN q 0, O ++ outN q 0, by omega, by go_num, by first | rfl | simp, by first | rfl | rw [hap0], HE, HQ, HTq⟩
                case measure => simp [intOf]; omega
            · obtain rfl : k = n + 2 := by omega
              have hki : ¬ (((n + 2 : Nat) : Int)) < (n : Int) + 2 := by omega
              have e1 := HEL.out.1
              have e2 := HEL.out.2
              rw [HO.out] at e1
              rw [HQ0.out] at e2
              subst e1
              subst e2
              have HKt := HT2
              go_wp2_with fail
              refine (drawFlipBits_any _ m0 _ (HSU.out.below HKt.out.to_below)).mono ?_
              rintro e wa ⟨vf, rf, lf, rfl, hrf, hsf, ka⟩
              have KA := Lib.hid (turn_trans HKt.out ka (by omega))
              have SF := Lib.hid hsf
              have HFI := Lib.hid (fun W (hs : Seen W vf (ints lf)) => flipBits_own vf rf lf W hs (by omega))
              have HFS := Lib.hid (fun W (hs : Seen W vf (ints lf)) => sFlipBits_own vf rf lf W hs (by omega))
              have HFT : Hid (∀ Y : List UInt8, Y.length ≤ 1000 → ∀ W (hs : Seen W vf (ints lf)), Calls Try.prog 22 #[.string (str Y), vf] W (RetStrOk W (flpR Y lf) (flpOk Y lf))) := fun Y hY W hs => flipBits_own vf Y lf W hs (by omega)
              unfold RetStrOk at HFI HFS HFT
              clear hsf ka
              by_cases hfo : flpOk rf lf = true
              · obtain ⟨b1, b2⟩ := flip_back hfo
                have b3 := (flip_bits hfo).2
                have HFU := Lib.hid (HFT.out (flpR rf lf) (by omega))
                rw [b1, b2] at HFU
                rw [hfo] at HFI HFS
                generalize flpR rf lf = Yf at *
                clear b1 b2 b3 hfo hrf HFT
                go_wp2_with fail
                refine (HFI.out _ SF.out).mono ?_
                rintro e wb ⟨rfl, kb⟩
                have SFb := Lib.hid (SF.out.touch kb)
                have KB := Lib.hid (turn_trans KA.out kb (by omega))
                clear kb
                go_wp2_with fail
                refine (HFS.out _ SFb.out).mono ?_
                rintro e wc ⟨rfl, kc⟩
                have SFc := Lib.hid (SFb.out.touch kc)
                have KC := Lib.hid (turn_trans KB.out kc (by omega))
                clear kc
                go_wp2_with fail
                refine (HFU.out _ SFc.out).mono ?_
                rintro e wd ⟨rfl, kd⟩
                have KD := Lib.hid (turn_trans KC.out kd (by omega))
                clear kd
                go_wp2_with fail
                go_ret
                exact ⟨by first | rfl | simp, KD.out.to_below⟩
              · have hff : flpOk rf lf = false := by simpa using hfo
                have HFU := Lib.hid (HFT.out [] (by simp))
                rw [hff] at HFI HFS
                rw [show flpR rf lf = [] from if_neg hfo] at HFI HFS
                generalize flpOk [] lf = bf at *
                generalize flpR [] lf = Yf at *
                clear hfo hff hrf HFT
                go_wp2_with fail
                refine (HFI.out _ SF.out).mono ?_
                rintro e wb ⟨rfl, kb⟩
                have SFb := Lib.hid (SF.out.touch kb)
                have KB := Lib.hid (turn_trans KA.out kb (by omega))
                clear kb
                go_wp2_with fail
                refine (HFS.out _ SFb.out).mono ?_
                rintro e wc ⟨rfl, kc⟩
                have SFc := Lib.hid (SFb.out.touch kc)
                have KC := Lib.hid (turn_trans KB.out kc (by omega))
                clear kc
                go_wp2_with fail
                refine (HFU.out _ SFc.out).mono ?_
                rintro e wd ⟨rfl, kd⟩
                have KD := Lib.hid (turn_trans KC.out kd (by omega))
                clear kd
                go_wp2_with fail
                go_ret
                exact ⟨by first | rfl | simp, KD.out.to_below⟩
        · have hk1 : ¬ ((3 : Nat) : Int) < (n2 : Int) := by omega
          have hd1 : decide (((3 : Nat) : Int) < (n2 : Int)) = false := by simpa using hk1
          obtain ⟨f1, f2, f3, f4, f5, f6⟩ := HFA.out l HSO.out (by rw [HL.out]; omega)
          have hse : Seen wr (.slice A7 L c7) (ints l) := by
            have h := hown
            rw [← HL.out] at h
            have := Seen.of_own h
            rwa [HL.out] at this
          have HS := Lib.hid hse
          rw [HL.out] at f4 f6
          have HFB := Lib.hid (fun W (hs : Seen W (.slice A7 L c7) (ints l)) => flipBits_own _ X l W hs (by omega))
          rw [f1] at HFB
          generalize flpR X l = Y at *
          have HDB := Lib.hid (fun W => distanceBits_own X Y W (by omega) (by omega))
          rw [f3, f4] at HDB
          have HDC := Lib.hid (fun W => decodeBits_own Y W (by omega))
          rw [f5, f6] at HDC
          unfold RetStrOk at HFB
          unfold RetIntB at HDB
          unfold RetPtOk at HDC
          simp only at HDC
          have HKr := Lib.hid (turn_trans HK3.out hT (by omega))
          clear f1 f2 f3 f4 f5 f6 hse hown hT
          go_wp2_with fail
          refine (HFB.out _ HS.out).mono ?_
          rintro e w4 ⟨rfl, k4⟩
          have HK4 := Lib.hid (turn_trans HKr.out k4 (by omega))
          clear k4
          go_wp2_with fail
          refine (HDB.out _).mono ?_
          rintro e w5 ⟨rfl, k5⟩
          have HK5 := Lib.hid (turn_trans HK4.out k5 (by omega))
          clear k5
          go_wp2_with fail
          refine (HDC.out _).mono ?_
          rintro e w6 ⟨rfl, k6⟩
          have HK6 := Lib.hid (turn_trans (turn_trans HK5.out k6 (by omega)) (turn_alloc w6 (.cells #[.string (str s), .int .i64 (L : Int)] 25)) (by omega))
          have X6 := boxV2_new w6 (.string (str s)) (.int .i64 (L : Int)) 25
          have x60 := X6.c0
          have x61 := X6.c1
          have hLL : ((L : Int) != (L : Int)) = false := by simp
          clear k6 X6
          go_wp2_with fail
          generalize (w6.alloc (.cells #[.string (str s), .int .i64 (L : Int)] 25)) = w7 at *
          clear x60 x61 hLL
          go_loopw [19, 20, 21] (fun st o i wr => ∃ (k q : Nat) (O : List UInt8), k ≤ n + 2 ∧ i = .int .i64 k ∧ st = .int .i64 q ∧ o = .string (str O) ∧ Hid (encT 0 ((encS s).take k) = O) ∧ Hid (encE s k = q) ∧ Hid (TurnIn 0 0 w wr)) (fun _ _ i _ => n + 2 - (intOf i).toNat)
          case atStart => exact ⟨0, 0, [], by omega, rfl, rfl, rfl, Lib.hid rfl, Lib.hid rfl, HK6⟩
          case round =>
            obtain ⟨k, q, O, hk, rfl, rfl, rfl, HO, HQ0, HT2⟩ := hrel
            by_cases hlt : k < n + 2
            · have hki : (k : Int) < (n : Int) + 2 := by omega
              obtain ⟨b, hb2, hb49, hb0, hen, hes⟩ := HER.out k (by omega)
              have h4 := encE_lt s k
              have hol := encT_take_len s (k := k) (by rw [HSL.out]; omega)
              rw [HO.out] at hen hol
              rw [HQ0.out] at hen hes h4
              have hz1 : (str O).size ≤ 96 := by rw [str_size, hol]; omega
              have hz20 : (str (outN q 0)).size = 3 := by rw [str_size]; rfl
              have hz21 : (str (outN q 1)).size = 3 := by rw [str_size]; rfl
              have hz3 : ¬ 9223372036854775807 < (str O).size + 3 := by omega
              have hap0 : str O ++ str (outN q 0) = str (O ++ outN q 0) := str_append _ _
              have hap1 : str O ++ str (outN q 1) = str (O ++ outN q 1) := str_append _ _
              have HO0 := Lib.hid (fun W => outputsAt_own (q : Int) 0 W)
              have HO1 := Lib.hid (fun W => outputsAt_own (q : Int) 1 W)
              obtain ⟨⟨o1, o2, o3⟩, o4, o5, o6⟩ := outs_at q h4
              rw [o1, o2, o3] at HO0
              rw [o4, o5, o6] at HO1
              unfold RetOut3 at HO0 HO1
              clear o1 o2 o3 o4 o5 o6 hol
              by_cases hkn : k < n
              · have hkni : (k : Int) < (n : Int) := by omega
                have hknd : decide ((k : Int) < (n : Int)) = true := by simpa using hkni
                have hsg := str_get s k (by rw [hssz]; exact hkn)
                have h49 := hb49 hkn
                generalize s.getD k 0 = c at *
                by_cases hc : c = 49
                · rw [if_pos hc] at h49
                  subst hc
                  subst h49
                  have HE := Lib.hid hen
                  have HQ := Lib.hid hes
                  have hc9 : ((((49 : UInt8).toNat : Nat) : Int) == 49) = true := by decide
                  clear hen hes hb0 hb49 hap0 hz20 HO0
                  go_wp2_with fail
                  refine (HO1.out _).mono ?_
                  rintro e wq ⟨rfl, kq⟩
                  have HTq := Lib.hid (turn_trans HT2.out kq (by omega))
                  clear kq
                  go_wp2_with fail
                  go_roundw
                  case rel => exact ⟨k + 1, nxtN q 1, O ++ outN q 1, by omega, by go_num, by first | rfl | simp, by first | rfl | rw [hap1], HE, HQ, HTq⟩
                  case measure => simp [intOf]; omega
                · rw [if_neg hc] at h49
                  subst h49
                  have HE := Lib.hid hen
                  have HQ := Lib.hid hes
                  have hc9 : (((c.toNat : Nat) : Int) == 49) = false := by
                    rw [beq_eq_false_iff_ne]
                    intro e
                    exact hc (UInt8.toNat_inj.1 (by show c.toNat = 49; omega))
                  clear hen hes hb0 hb49 hap1 hz21 HO1 hc
                  go_wp2_with fail
                  refine (HO0.out _).mono ?_
                  rintro e wq ⟨rfl, kq⟩
                  have HTq := Lib.hid (turn_trans HT2.out kq (by omega))
                  clear kq
                  go_wp2_with fail
                  go_roundw
                  case rel => exact ⟨k + 1, nxtN q 0, O ++ outN q 0, by omega, by go_num, by first | rfl | simp, by first | rfl | rw [hap0], HE, HQ, HTq⟩
                  case measure => simp [intOf]; omega
              · have hkni : ¬ (k : Int) < (n : Int) := by omega
                have hknd : decide ((k : Int) < (n : Int)) = false := by simpa using hkni
                have h0 := hb0 hkn
                subst h0
                have HE := Lib.hid hen
                have HQ := Lib.hid hes
                clear hen hes hb0 hb49 hap1 hz21 HO1
                go_wp2_with fail
                refine (HO0.out _).mono ?_
                rintro e wq ⟨rfl, kq⟩
                have HTq := Lib.hid (turn_trans HT2.out kq (by omega))
                clear kq
                go_wp2_with fail
                go_roundw
                case rel => exact ⟨k + 1, nxtN q 0, O ++ outN q 0, by omega, by go_num, by first | rfl | simp, by first | rfl | rw [hap0], HE, HQ, HTq⟩
                case measure => simp [intOf]; omega
            · obtain rfl : k = n + 2 := by omega
              have hki : ¬ (((n + 2 : Nat) : Int)) < (n : Int) + 2 := by omega
              have e1 := HEL.out.1
              have e2 := HEL.out.2
              rw [HO.out] at e1
              rw [HQ0.out] at e2
              subst e1
              subst e2
              have HKt := HT2
              go_wp2_with fail
              refine (drawFlipBits_any _ m0 _ (HSU.out.below HKt.out.to_below)).mono ?_
              rintro e wa ⟨vf, rf, lf, rfl, hrf, hsf, ka⟩
              have KA := Lib.hid (turn_trans HKt.out ka (by omega))
              have SF := Lib.hid hsf
              have HFI := Lib.hid (fun W (hs : Seen W vf (ints lf)) => flipBits_own vf rf lf W hs (by omega))
              have HFS := Lib.hid (fun W (hs : Seen W vf (ints lf)) => sFlipBits_own vf rf lf W hs (by omega))
              have HFT : Hid (∀ Y : List UInt8, Y.length ≤ 1000 → ∀ W (hs : Seen W vf (ints lf)), Calls Try.prog 22 #[.string (str Y), vf] W (RetStrOk W (flpR Y lf) (flpOk Y lf))) := fun Y hY W hs => flipBits_own vf Y lf W hs (by omega)
              unfold RetStrOk at HFI HFS HFT
              clear hsf ka
              by_cases hfo : flpOk rf lf = true
              · obtain ⟨b1, b2⟩ := flip_back hfo
                have b3 := (flip_bits hfo).2
                have HFU := Lib.hid (HFT.out (flpR rf lf) (by omega))
                rw [b1, b2] at HFU
                rw [hfo] at HFI HFS
                generalize flpR rf lf = Yf at *
                clear b1 b2 b3 hfo hrf HFT
                go_wp2_with fail
                refine (HFI.out _ SF.out).mono ?_
                rintro e wb ⟨rfl, kb⟩
                have SFb := Lib.hid (SF.out.touch kb)
                have KB := Lib.hid (turn_trans KA.out kb (by omega))
                clear kb
                go_wp2_with fail
                refine (HFS.out _ SFb.out).mono ?_
                rintro e wc ⟨rfl, kc⟩
                have SFc := Lib.hid (SFb.out.touch kc)
                have KC := Lib.hid (turn_trans KB.out kc (by omega))
                clear kc
                go_wp2_with fail
                refine (HFU.out _ SFc.out).mono ?_
                rintro e wd ⟨rfl, kd⟩
                have KD := Lib.hid (turn_trans KC.out kd (by omega))
                clear kd
                go_wp2_with fail
                go_ret
                exact ⟨by first | rfl | simp, KD.out.to_below⟩
              · have hff : flpOk rf lf = false := by simpa using hfo
                have HFU := Lib.hid (HFT.out [] (by simp))
                rw [hff] at HFI HFS
                rw [show flpR rf lf = [] from if_neg hfo] at HFI HFS
                generalize flpOk [] lf = bf at *
                generalize flpR [] lf = Yf at *
                clear hfo hff hrf HFT
                go_wp2_with fail
                refine (HFI.out _ SF.out).mono ?_
                rintro e wb ⟨rfl, kb⟩
                have SFb := Lib.hid (SF.out.touch kb)
                have KB := Lib.hid (turn_trans KA.out kb (by omega))
                clear kb
                go_wp2_with fail
                refine (HFS.out _ SFb.out).mono ?_
                rintro e wc ⟨rfl, kc⟩
                have SFc := Lib.hid (SFb.out.touch kc)
                have KC := Lib.hid (turn_trans KB.out kc (by omega))
                clear kc
                go_wp2_with fail
                refine (HFU.out _ SFc.out).mono ?_
                rintro e wd ⟨rfl, kd⟩
                have KD := Lib.hid (turn_trans KC.out kd (by omega))
                clear kd
                go_wp2_with fail
                go_ret
                exact ⟨by first | rfl | simp, KD.out.to_below⟩
  · have hno : encOk10 s = false := by simpa using hok
    rw [hno, encR10_no hno] at HEI HES
    clear hok hno
    go_wp2_with fail
    refine (HEI.out _).mono ?_
    rintro e w2 ⟨rfl, k2⟩
    have HK2 := Lib.hid (turn_trans HK1.out k2 (by omega))
    clear k2
    go_wp2_with fail
    refine (HES.out _).mono ?_
    rintro e w3 ⟨rfl, k3⟩
    have HKt := Lib.hid (turn_trans HK2.out k3 (by omega))
    clear k3
    go_wp2_with fail
    refine (drawFlipBits_any _ m0 _ (HSU.out.below HKt.out.to_below)).mono ?_
    rintro e wa ⟨vf, rf, lf, rfl, hrf, hsf, ka⟩
    have KA := Lib.hid (turn_trans HKt.out ka (by omega))
    have SF := Lib.hid hsf
    have HFI := Lib.hid (fun W (hs : Seen W vf (ints lf)) => flipBits_own vf rf lf W hs (by omega))
    have HFS := Lib.hid (fun W (hs : Seen W vf (ints lf)) => sFlipBits_own vf rf lf W hs (by omega))
    have HFT : Hid (∀ Y : List UInt8, Y.length ≤ 1000 → ∀ W (hs : Seen W vf (ints lf)), Calls Try.prog 22 #[.string (str Y), vf] W (RetStrOk W (flpR Y lf) (flpOk Y lf))) := fun Y hY W hs => flipBits_own vf Y lf W hs (by omega)
    unfold RetStrOk at HFI HFS HFT
    clear hsf ka
    by_cases hfo : flpOk rf lf = true
    · obtain ⟨b1, b2⟩ := flip_back hfo
      have b3 := (flip_bits hfo).2
      have HFU := Lib.hid (HFT.out (flpR rf lf) (by omega))
      rw [b1, b2] at HFU
      rw [hfo] at HFI HFS
      generalize flpR rf lf = Yf at *
      clear b1 b2 b3 hfo hrf HFT
      go_wp2_with fail
      refine (HFI.out _ SF.out).mono ?_
      rintro e wb ⟨rfl, kb⟩
      have SFb := Lib.hid (SF.out.touch kb)
      have KB := Lib.hid (turn_trans KA.out kb (by omega))
      clear kb
      go_wp2_with fail
      refine (HFS.out _ SFb.out).mono ?_
      rintro e wc ⟨rfl, kc⟩
      have SFc := Lib.hid (SFb.out.touch kc)
      have KC := Lib.hid (turn_trans KB.out kc (by omega))
      clear kc
      go_wp2_with fail
      refine (HFU.out _ SFc.out).mono ?_
      rintro e wd ⟨rfl, kd⟩
      have KD := Lib.hid (turn_trans KC.out kd (by omega))
      clear kd
      go_wp2_with fail
      go_ret
      exact ⟨by first | rfl | simp, KD.out.to_below⟩
    · have hff : flpOk rf lf = false := by simpa using hfo
      have HFU := Lib.hid (HFT.out [] (by simp))
      rw [hff] at HFI HFS
      rw [show flpR rf lf = [] from if_neg hfo] at HFI HFS
      generalize flpOk [] lf = bf at *
      generalize flpR [] lf = Yf at *
      clear hfo hff hrf HFT
      go_wp2_with fail
      refine (HFI.out _ SF.out).mono ?_
      rintro e wb ⟨rfl, kb⟩
      have SFb := Lib.hid (SF.out.touch kb)
      have KB := Lib.hid (turn_trans KA.out kb (by omega))
      clear kb
      go_wp2_with fail
      refine (HFS.out _ SFb.out).mono ?_
      rintro e wc ⟨rfl, kc⟩
      have SFc := Lib.hid (SFb.out.touch kc)
      have KC := Lib.hid (turn_trans KB.out kc (by omega))
      clear kc
      go_wp2_with fail
      refine (HFU.out _ SFc.out).mono ?_
      rintro e wd ⟨rfl, kd⟩
      have KD := Lib.hid (turn_trans KC.out kd (by omega))
      clear kd
      go_wp2_with fail
      go_ret
      exact ⟨by first | rfl | simp, KD.out.to_below⟩

set_option maxRecDepth 100000 in
theorem walk_FnFree : G294.LawWalk Try.prog 4 Try.f4 Rows.fnFreeSpec.vars false (fun _ => True) := by
  intro H enc W base args ds gs before hval hW hX
  have hlt0 : ∀ p ∈ before, p.block < W.heap.size := fun p hp => hW.lt p hp
  obtain ⟨p, q, hA, hV, rfl, hfz, hnd⟩ := hW
  rw [Try.params4] at hA hval
  obtain ⟨u0, u1, d0, d1, p0, p1, rfl, rfl, rfl, t0, t1⟩ := trodAll_two hA
  obtain ⟨l0, sn0⟩ := seen_bytes Try.underlying22 Try.underlying5 (by kernel_rfl) (hval 0 22 u0 rfl rfl) t0 (fun x hx => hlt0 x (by simp [hx]))
  obtain ⟨l1, sn1⟩ := seen_bytes Try.underlying22 Try.underlying5 (by kernel_rfl) (hval 1 22 u1 rfl rfl) t1 (fun x hx => hlt0 x (by simp [hx]))
  exact free_walk u0 u1 l0 l1 W sn0 sn1

end Go.Proofs.Ytjgmegfbfjmnfaa
