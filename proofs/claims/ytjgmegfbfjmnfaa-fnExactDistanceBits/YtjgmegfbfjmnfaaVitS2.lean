/- Chapter 10: distances, costs, outputs at a state, flipped bits: the model's. -/
import Derived.Test.YtjgmegfbfjmnfaaVitS
set_option linter.unusedSimpArgs false
set_option linter.unusedVariables false
namespace G294
open Go Go.RowKit
theorem dl_take_same {a b : List UInt8} {k : Nat} (ha : k < a.length) (hb : k < b.length) (h : a.getD k 0 = b.getD k 0) : dl (a.take (k + 1)) (b.take (k + 1)) = dl (a.take k) (b.take k) := by
  rw [take_snocD a ha, take_snocD b hb, dl_append (by simp; omega), h]
  simp [dl]
theorem dl_take_more {a b : List UInt8} {k : Nat} (ha : k < a.length) (hb : k < b.length) (h : a.getD k 0 ≠ b.getD k 0) : dl (a.take (k + 1)) (b.take (k + 1)) = dl (a.take k) (b.take k) + 1 := by
  rw [take_snocD a ha, take_snocD b hb, dl_append (by simp; omega)]
  simp only [dl, if_neg h]
theorem cosR_no {s r : List UInt8} (h : cosOk s r = false) : cosR s r = 0 := if_neg (by rw [h]; decide)
theorem cosR_yes {s r : List UInt8} (h : cosOk s r = true) : cosR s r = (dl (encR10 s) r : Int) := if_pos h
theorem dstR_no {s r : List UInt8} (h : dstOk s r = false) : dstR s r = 0 := if_neg (by rw [h]; decide)
theorem dstR_yes {s r : List UInt8} (h : dstOk s r = true) : dstR s r = (dl s r : Int) := if_pos h
def RetIntB (w : World) (n : Int) (ok : Bool) (e : Ending) (w' : World) : Prop := e = .returned (.tuple #[.int .i64 n, .bool ok]) ∧ TurnIn 0 0 w w'
end G294
namespace Go.Proofs.Ytjgmegfbfjmnfaa
open Go.RowKit G294

set_option maxHeartbeats 1000000 in
theorem l10Unlike_own (a b : List UInt8) (w : World) (hl : a.length = b.length) (hn : a.length ≤ 1000000) : Calls Try.prog 64 #[.string (str a), .string (str b)] w (RetInt w (dl a b : Nat)) := by
  have hs1 : (str a).size = a.length := str_size a
  have hs2 : (str b).size = a.length := by rw [str_size, hl]
  have HS : Hid (∀ k, k < a.length → a.getD k 0 = b.getD k 0 → dl (a.take (k + 1)) (b.take (k + 1)) = dl (a.take k) (b.take k)) := fun k hk h => dl_take_same hk (by omega) h
  have HM : Hid (∀ k, k < a.length → a.getD k 0 ≠ b.getD k 0 → dl (a.take (k + 1)) (b.take (k + 1)) = dl (a.take k) (b.take k) + 1) := fun k hk h => dl_take_more hk (by omega) h
  have HL : Hid (∀ k, dl (a.take k) (b.take k) ≤ k) := fun k => Nat.le_trans dl_le (by rw [List.length_take]; omega)
  have HF : Hid (dl (a.take a.length) (b.take a.length) = dl a b) := by show _ = _; rw [List.take_length, hl, List.take_length]
  obtain ⟨D, hD⟩ : ∃ D, D = fun k => dl (a.take k) (b.take k) := ⟨_, rfl⟩
  have HD : Hid (∀ k, dl (a.take k) (b.take k) = D k) := fun k => by rw [hD]
  have HD0 : Hid (D 0 = 0) := by show _ = _; rw [hD]; rfl
  simp only [HD.out] at HS HM HL HF
  rw [← HF.out]
  have HG1 : Hid (∀ k (h : k < (str a).size), (str a)[k] = a.getD k 0) := fun k h => str_get a k h
  have HG2 : Hid (∀ k (h : k < (str b).size), (str b)[k] = b.getD k 0) := fun k h => str_get b k h
  generalize hnn : a.length = n at *
  clear hD HD HF hl hnn
  go_enter Try.func64, Try.ntmps64
  go_wp2_with fail
  go_loopw [5, 6] (fun d i wr => ∃ k : Nat, k ≤ n ∧ i = .int .i64 k ∧ d = .int .i64 (D k : Nat) ∧ Below w.heap.size w wr) (fun _ i _ => n - (intOf i).toNat)
  case atStart => exact ⟨0, Nat.zero_le _, rfl, by rw [HD0.out]; rfl, Below.refl _ _⟩
  case round =>
    obtain ⟨k, hk, rfl, rfl, hb⟩ := hrel
    by_cases hlt : k < n
    · have hki : (k : Int) < (n : Int) := by omega
      have hg1 := HG1.out k (by omega)
      have hg2 := HG2.out k (by omega)
      have hL := HL.out k
      have HS2 := Lib.hid (HS.out k hlt)
      have HM2 := Lib.hid (HM.out k hlt)
      generalize a.getD k 0 = x at *
      generalize b.getD k 0 = y at *
      by_cases hz : x = y
      · have hbb := bne_byte (x := x) (y := y) false (by simp [hz])
        have HK := Lib.hid (HS2.out hz)
        clear hz HS2 HM2
        generalize D k = z at *
        go_wp2_with fail
        go_quiet (fail)
        go_wp2_with fail
        go_roundw
        case rel => exact ⟨k + 1, by omega, by go_num, by rw [HK.out], below_drewN hb _⟩
        case measure => simp [intOf]; omega
      · have hbb := bne_byte (x := x) (y := y) true (by simpa using hz)
        have HK := Lib.hid (HM2.out hz)
        clear hz HS2 HM2
        generalize D k = z at *
        go_wp2_with fail
        go_quiet (fail)
        go_wp2_with fail
        go_roundw
        case rel => exact ⟨k + 1, by omega, by go_num, by rw [HK.out]; go_num, below_drewN hb _⟩
        case measure => simp [intOf]; omega
    · obtain rfl : k = n := by omega
      have hki : ¬ (k : Int) < (k : Int) := by omega
      go_wp2_with fail
      go_ret
      exact ⟨rfl, TurnIn.of_below hb⟩

set_option maxHeartbeats 1000000 in
theorem sDistanceBits_own (a b : List UInt8) (w : World) (ha : a.length ≤ 1000000000000) (hb : b.length ≤ 1000000000000) : Calls Try.prog 28 #[.string (str a), .string (str b)] w (RetIntB w (dstR a b) (dstOk a b)) := by
  have hs1 : (str a).size = a.length := str_size a
  have hs2 : (str b).size = b.length := str_size b
  have HD : Hid (dstOk a b = (bitsOk a 96 && (bitsOk b 96 && decide (a.length = b.length)))) := Lib.hid rfl
  have HNO : Hid (dstOk a b = false → dstR a b = 0) := dstR_no
  have HYES : Hid (dstOk a b = true → dstR a b = (dl a b : Int)) := dstR_yes
  have HA := Lib.hid (fun W => l10Bits_any a 96 W ha)
  have HB := Lib.hid (fun W => l10Bits_any b 96 W hb)
  have HU := Lib.hid (fun W (h : a.length = b.length) (h' : a.length ≤ 1000000) => l10Unlike_own a b W h h')
  have HAL : Hid (bitsOk a 96 = true → a.length ≤ 96) := fun h => (bitsOk_b h).1
  generalize hnn : a.length = n at *
  generalize hmm : b.length = m at *
  clear hnn hmm
  by_cases h1 : bitsOk a 96 = true
  · have H1 := Lib.hid h1
    by_cases h2 : bitsOk b 96 = true
    · have H2 := Lib.hid h2
      by_cases h3 : n = m
      · subst h3
        have HO : Hid (dstOk a b = true) := by show _ = _; rw [HD.out, h1, h2]; simp
        have HR := Lib.hid (HYES.out HO.out)
        have h3b : ((n : Int) != (n : Int)) = false := by simp
        have HU2 := Lib.hid (HU.out w rfl (by have := HAL.out h1; omega))
        clear h1 h2
        go_enter Try.func28, Try.ntmps28
        go_wp2_with fail
        refine (HA.out _).mono ?_
        rintro e w' ⟨rfl, rfl⟩
        rw [H1.out]
        go_wp2_with fail
        refine (HB.out _).mono ?_
        rintro e w' ⟨rfl, rfl⟩
        rw [H2.out]
        go_wp2_with fail
        refine HU2.out.mono ?_
        rintro e w1 ⟨rfl, k1⟩
        go_wp2_with fail
        go_ret2
        exact ⟨by rw [HR.out, HO.out]; rfl, k1⟩
      · have HO : Hid (dstOk a b = false) := by show _ = _; rw [HD.out]; simp [h3]
        have HR := Lib.hid (HNO.out HO.out)
        have h3b : ((n : Int) != (m : Int)) = true := by rw [bne_iff_ne]; omega
        clear h1 h2
        go_enter Try.func28, Try.ntmps28
        go_wp2_with fail
        refine (HA.out _).mono ?_
        rintro e w' ⟨rfl, rfl⟩
        rw [H1.out]
        go_wp2_with fail
        refine (HB.out _).mono ?_
        rintro e w' ⟨rfl, rfl⟩
        rw [H2.out]
        go_wp2_with fail
        go_ret2
        exact ⟨by rw [HR.out, HO.out]; rfl, TurnIn.refl _⟩
    · have H2 : Hid (bitsOk b 96 = false) := by show bitsOk b 96 = false; simpa using h2
      have HO : Hid (dstOk a b = false) := by show _ = _; rw [HD.out, H2.out]; simp
      have HR := Lib.hid (HNO.out HO.out)
      clear h1 h2
      go_enter Try.func28, Try.ntmps28
      go_wp2_with fail
      refine (HA.out _).mono ?_
      rintro e w' ⟨rfl, rfl⟩
      rw [H1.out]
      go_wp2_with fail
      refine (HB.out _).mono ?_
      rintro e w' ⟨rfl, rfl⟩
      rw [H2.out]
      go_wp2_with fail
      go_ret2
      exact ⟨by rw [HR.out, HO.out]; rfl, TurnIn.refl _⟩
  · have H1 : Hid (bitsOk a 96 = false) := by show bitsOk a 96 = false; simpa using h1
    have HO : Hid (dstOk a b = false) := by show _ = _; rw [HD.out, H1.out]; rfl
    have HR := Lib.hid (HNO.out HO.out)
    clear h1
    go_enter Try.func28, Try.ntmps28
    go_wp2_with fail
    refine (HA.out _).mono ?_
    rintro e w' ⟨rfl, rfl⟩
    rw [H1.out]
    go_wp2_with fail
    go_ret2
    exact ⟨by rw [HR.out, HO.out]; rfl, TurnIn.refl _⟩

set_option maxHeartbeats 1000000 in
theorem sCostOf_own (a b : List UInt8) (w : World) (ha : a.length ≤ 1000000000000) (hb : b.length ≤ 1000000000000) : Calls Try.prog 33 #[.string (str a), .string (str b)] w (RetIntB w (cosR a b) (cosOk a b)) := by
  have hs2 : (str b).size = b.length := str_size b
  have HNO : Hid (cosOk a b = false → cosR a b = 0) := cosR_no
  have HE := Lib.hid (sEncodeBits_own a w ha)
  have HB := Lib.hid (fun W => l10Bits_any b 96 W hb)
  by_cases h1 : encOk10 a = true
  · have H1 := Lib.hid h1
    have hel := encR10_len h1
    have hal := (bitsOk_b h1).1
    have hs1 : (str (encR10 a)).size = (encR10 a).length := str_size _
    have HEB := Lib.hid (encR10_bits h1)
    have HD : Hid (cosOk a b = (bitsOk b 96 && decide ((encR10 a).length = b.length))) := by
      show _ = _
      unfold cosOk dstOk
      rw [h1, HEB.out]; simp
    have HYES : Hid (cosOk a b = true → cosR a b = (dl (encR10 a) b : Int)) := cosR_yes
    have HU := Lib.hid (fun W (h : (encR10 a).length = b.length) => l10Unlike_own (encR10 a) b W h (by omega))
    have hnb : (encR10 a).length ≤ 96 := by omega
    clear hel hal
    generalize encR10 a = ea at *
    generalize hnn : ea.length = n at *
    generalize hmm : b.length = m at *
    clear hnn hmm
    by_cases h2 : bitsOk b 96 = true
    · have H2 := Lib.hid h2
      by_cases h3 : n = m
      · subst h3
        have HO : Hid (cosOk a b = true) := by show _ = _; rw [HD.out, h2]; simp
        have HR := Lib.hid (HYES.out HO.out)
        have h3b : ((n : Int) != (n : Int)) = false := by simp
        clear h1 h2
        go_enter Try.func33, Try.ntmps33
        go_wp2_with fail
        refine HE.out.mono ?_
        rintro e w1 ⟨rfl, k1⟩
        rw [H1.out]
        go_wp2_with fail
        refine (HB.out _).mono ?_
        rintro e w' ⟨rfl, rfl⟩
        rw [H2.out]
        go_wp2_with fail
        refine (HU.out _ (by first | rfl | trivial)).mono ?_
        rintro e w2 ⟨rfl, k2⟩
        go_wp2_with fail
        go_ret2
        exact ⟨by rw [HR.out, HO.out]; rfl, turn_trans k1 k2 (by omega)⟩
      · have HO : Hid (cosOk a b = false) := by show _ = _; rw [HD.out]; simp [h3]
        have HR := Lib.hid (HNO.out HO.out)
        have h3b : ((n : Int) != (m : Int)) = true := by rw [bne_iff_ne]; omega
        clear h1 h2
        go_enter Try.func33, Try.ntmps33
        go_wp2_with fail
        refine HE.out.mono ?_
        rintro e w1 ⟨rfl, k1⟩
        rw [H1.out]
        go_wp2_with fail
        refine (HB.out _).mono ?_
        rintro e w' ⟨rfl, rfl⟩
        rw [H2.out]
        go_wp2_with fail
        go_ret2
        exact ⟨by rw [HR.out, HO.out]; rfl, k1⟩
    · have H2 : Hid (bitsOk b 96 = false) := by show bitsOk b 96 = false; simpa using h2
      have HO : Hid (cosOk a b = false) := by show _ = _; rw [HD.out, H2.out]; rfl
      have HR := Lib.hid (HNO.out HO.out)
      clear h1 h2
      go_enter Try.func33, Try.ntmps33
      go_wp2_with fail
      refine HE.out.mono ?_
      rintro e w1 ⟨rfl, k1⟩
      rw [H1.out]
      go_wp2_with fail
      refine (HB.out _).mono ?_
      rintro e w' ⟨rfl, rfl⟩
      rw [H2.out]
      go_wp2_with fail
      go_ret2
      exact ⟨by rw [HR.out, HO.out]; rfl, k1⟩
  · have H1 : Hid (encOk10 a = false) := by show encOk10 a = false; simpa using h1
    have HO : Hid (cosOk a b = false) := by show _ = _; unfold cosOk; rw [H1.out]; rfl
    have HR := Lib.hid (HNO.out HO.out)
    clear h1
    go_enter Try.func33, Try.ntmps33
    go_wp2_with fail
    refine HE.out.mono ?_
    rintro e w1 ⟨rfl, k1⟩
    rw [H1.out]
    go_wp2_with fail
    go_ret2
    exact ⟨by rw [HR.out, HO.out]; rfl, k1⟩

set_option maxHeartbeats 1000000 in
theorem l1Some_all (v : Value) (l : List Int) (size : Nat) (w : World) (hv : Seen w v (ints l)) (hsz : size ≤ 1000) :
    Calls Try.prog 61 #[v, .int .i64 size] w fun e w' => e = .returned (.bool (someOk l size)) ∧ w = w' := by
  obtain ⟨A, c, rfl, hlc, hcm, hx⟩ := hv
  rw [ints_length] at hlc hx
  simp only [ints_length]
  unfold maxLen at hcm
  generalize hnn : l.length = n at *
  have HN := Lib.hid hnn
  have HX := Lib.hid hx
  clear hnn hx
  go_enter Try.func61, Try.ntmps61
  go_wp2_with fail
  go_loop [9] (fun i => ∃ k : Nat, k ≤ n ∧ i = .int .i64 k ∧ Hid (∀ i, i < k → okAt l size i)) (fun i => n - (intOf i).toNat)
  case atStart => exact ⟨0, Nat.zero_le _, rfl, fun i h => by omega⟩
  case round =>
    obtain ⟨k, hk, rfl, HK⟩ := hrel
    by_cases hlt : k < n
    · have hki : (k : Int) < (n : Int) := by omega
      have hkl : k < l.length := by rw [HN.out]; exact hlt
      obtain ⟨b, off, rfl, hbl, hcell⟩ := HX.out (by omega)
      have hcx := hcell k _ (ints_get l k hkl)
      obtain ⟨x, hxx⟩ : ∃ x, x = l[k] := ⟨_, rfl⟩
      rw [← hxx] at hcx
      have HXX : Hid (l.getD k 0 = x) := by show l.getD k 0 = x; rw [hxx]; simp [List.getD, hkl]
      clear hxx
      by_cases h1 : inB x 0 ((size : Int) - 1) = true
      · have H1 := Lib.hid h1
        have hin : 0 ≤ x ∧ x ≤ (size : Int) - 1 := by unfold inB at h1; simpa using h1
        clear h1
        by_cases hk0 : k = 0
        · have hkz : ¬ (0 : Int) < (k : Int) := by omega
          have hkd : decide ((0 : Int) < (k : Int)) = false := by simp; omega
          have HK2 : Hid (∀ i, i < k + 1 → okAt l size i) := fun i hi => by
            obtain rfl : i = k := by omega
            have e := HXX.out
            exact ⟨by omega, by omega, fun h => by omega⟩
          clear hcell hk0
          go_wp2_with fail
          refine (l1In_any _ _ _ _).mono ?_
          rintro e w' ⟨rfl, rfl⟩
          rw [H1.out]
          go_wp2_with fail
          go_round
          case rel => exact ⟨k + 1, by omega, by go_num, HK2⟩
          case measure => simp [intOf]; omega
        · have hkz : (0 : Int) < (k : Int) := by omega
          have hkd : decide ((0 : Int) < (k : Int)) = true := by simp; omega
          have hcy := hcell (k - 1) _ (ints_get l (k - 1) (by omega))
          obtain ⟨y, hyy⟩ : ∃ y, y = l[k - 1] := ⟨_, rfl⟩
          rw [← hyy] at hcy
          have HYY : Hid (l.getD (k - 1) 0 = y) := by
            show l.getD (k - 1) 0 = y
            rw [hyy]; simp [List.getD, show k - 1 < l.length by omega]
          have hk1 : (0 : Int) ≤ (k : Int) - 1 := by omega
          have hk1' : (1 : Int) ≤ (k : Int) := by omega
          have hk2 : (k : Int) - 1 < (n : Int) := by omega
          have hk3 : ((k : Int) - 1).toNat = k - 1 := by omega
          clear hyy hcell hk0
          by_cases h2 : x ≤ y
          · have hd : decide (x ≤ y) = true := by simpa using h2
            have HF := Lib.hid (someOk_no (l := l) (size := size) hkl (fun ho => by
              have e1 := HXX.out
              have e2 := HYY.out
              have := ho.2.2 (by omega)
              omega))
            go_wp2_with fail
            refine (l1In_any _ _ _ _).mono ?_
            rintro e w' ⟨rfl, rfl⟩
            rw [H1.out]
            go_wp2_with fail
            go_ret
            exact ⟨by rw [HF.out]; rfl, rfl⟩
          · have hd : decide (x ≤ y) = false := by simpa using h2
            have HK2 : Hid (∀ i, i < k + 1 → okAt l size i) := fun i hi => by
              by_cases e : i = k
              · subst e
                have e1 := HXX.out
                have e2 := HYY.out
                exact ⟨by omega, by omega, fun h => by omega⟩
              · exact HK.out i (by omega)
            go_wp2_with fail
            refine (l1In_any _ _ _ _).mono ?_
            rintro e w' ⟨rfl, rfl⟩
            rw [H1.out]
            go_wp2_with fail
            go_round
            case rel => exact ⟨k + 1, by omega, by go_num, HK2⟩
            case measure => simp [intOf]; omega
      · have H1 : Hid (inB x 0 ((size : Int) - 1) = false) := by show inB x 0 ((size : Int) - 1) = false; simpa using h1
        have hin : ¬ (0 ≤ x ∧ x ≤ (size : Int) - 1) := by unfold inB at h1; simpa using h1
        have HF := Lib.hid (someOk_no (l := l) (size := size) hkl (fun ho => by
          have e1 := HXX.out
          obtain ⟨o1, o2, _⟩ := ho
          omega))
        clear h1 hcell hin
        go_wp2_with fail
        refine (l1In_any _ _ _ _).mono ?_
        rintro e w' ⟨rfl, rfl⟩
        rw [H1.out]
        go_wp2_with fail
        go_ret
        exact ⟨by rw [HF.out]; rfl, rfl⟩
    · obtain rfl : k = n := by omega
      have hki : ¬ (k : Int) < (k : Int) := by omega
      have HF := Lib.hid ((someOk_iff l size).2 (fun i hi => HK.out i (by rw [← HN.out]; exact hi)))
      go_wp2_with fail
      go_ret
      exact ⟨by rw [HF.out]; rfl, rfl⟩


end Go.Proofs.Ytjgmegfbfjmnfaa
