/- Chapter 10: differences, distances, costs, flipped bits: the program's. -/
import Derived.Test.YtjgmegfbfjmnfaaVitE2
import Derived.Test.YtjgmegfbfjmnfaaPartWalks
set_option linter.unusedSimpArgs false
set_option linter.unusedVariables false
namespace Go.Proofs.Ytjgmegfbfjmnfaa
open Go.RowKit G294

set_option maxHeartbeats 1000000 in
theorem differences_own (v u : Value) (a b : List UInt8) (w : World) (hv : Seen w v (bys a)) (hu : Seen w u (bys b)) (hl : a.length = b.length) (hn : a.length ≤ 1000000) : Calls Try.prog 56 #[v, u] w (RetInt w (dl a b : Nat)) := by
  obtain ⟨A, c, rfl, hlc, hcm, hx⟩ := hv
  obtain ⟨A', c', rfl, hlc', hcm', hx'⟩ := hu
  rw [bys_length] at hlc hx hlc' hx'
  simp only [bys_length]
  unfold maxLen at hcm hcm'
  have HS : Hid (∀ k, k < a.length → a.getD k 0 = b.getD k 0 → dl (a.take (k + 1)) (b.take (k + 1)) = dl (a.take k) (b.take k)) := fun k hk h => dl_take_same hk (by omega) h
  have HM : Hid (∀ k, k < a.length → a.getD k 0 ≠ b.getD k 0 → dl (a.take (k + 1)) (b.take (k + 1)) = dl (a.take k) (b.take k) + 1) := fun k hk h => dl_take_more hk (by omega) h
  have HL : Hid (∀ k, dl (a.take k) (b.take k) ≤ k) := fun k => Nat.le_trans dl_le (by rw [List.length_take]; omega)
  have HF : Hid (dl (a.take a.length) (b.take a.length) = dl a b) := by show _ = _; rw [List.take_length, hl, List.take_length]
  have HC1 : Hid (∀ k, k < a.length → (bys a)[k]? = some (.int .u8 ((a.getD k 0).toNat : Int))) := fun k hk => by rw [bys_get a k hk, getD_len hk]
  have HC2 : Hid (∀ k, k < b.length → (bys b)[k]? = some (.int .u8 ((b.getD k 0).toNat : Int))) := fun k hk => by rw [bys_get b k hk, getD_len hk]
  obtain ⟨D, hD⟩ : ∃ D, D = fun k => dl (a.take k) (b.take k) := ⟨_, rfl⟩
  have HD : Hid (∀ k, dl (a.take k) (b.take k) = D k) := fun k => by rw [hD]
  have HD0 : Hid (D 0 = 0) := by show _ = _; rw [hD]; rfl
  simp only [HD.out] at HS HM HL HF
  rw [← HF.out]
  rw [← hl] at hx' HC2 hlc' ⊢
  generalize hnn : a.length = n at *
  have HX := Lib.hid hx
  have HX' := Lib.hid hx'
  clear hD HD HF hl hnn hx hx'
  go_enter Try.func56, Try.ntmps56
  go_wp2_with fail
  go_loopw [5, 9] (fun d i wr => ∃ k : Nat, k ≤ n ∧ i = .int .i64 k ∧ d = .int .i64 (D k : Nat) ∧ Below w.heap.size w wr) (fun _ i _ => n - (intOf i).toNat)
  case atStart => exact ⟨0, Nat.zero_le _, rfl, by rw [HD0.out]; rfl, Below.refl _ _⟩
  case round =>
    obtain ⟨k, hk, rfl, rfl, hb⟩ := hrel
    by_cases hlt : k < n
    · obtain ⟨p, off, rfl, hbl, hcell⟩ := HX.out (by omega)
      obtain ⟨p', off', rfl, hbl', hcell'⟩ := HX'.out (by omega)
      have hcx := (hb.cell (p := ⟨p, off + k, none⟩) hbl).trans (hcell k _ (HC1.out k hlt))
      have hcy := (hb.cell (p := ⟨p', off' + k, none⟩) hbl').trans (hcell' k _ (HC2.out k hlt))
      have hki : (k : Int) < (n : Int) := by omega
      have hL := HL.out k
      have HS2 := Lib.hid (HS.out k hlt)
      have HM2 := Lib.hid (HM.out k hlt)
      clear hcell hcell'
      generalize a.getD k 0 = x at *
      generalize b.getD k 0 = y at *
      by_cases hz : x = y
      · have hbb := bne_byte (x := x) (y := y) false (by simp [hz])
        have HK := Lib.hid (HS2.out hz)
        clear hz HS2 HM2
        generalize D k = z at *
        go_wp2_with fail
        go_quiet (fail)
        go_wp2_with fail
        go_roundw
        case rel => exact ⟨k + 1, by omega, by go_num, by rw [HK.out], below_drewN hb _⟩
        case measure => simp [intOf]; omega
      · have hbb := bne_byte (x := x) (y := y) true (by simpa using hz)
        have HK := Lib.hid (HM2.out hz)
        clear hz HS2 HM2
        generalize D k = z at *
        go_wp2_with fail
        go_quiet (fail)
        go_wp2_with fail
        go_roundw
        case rel => exact ⟨k + 1, by omega, by go_num, by rw [HK.out]; go_num, below_drewN hb _⟩
        case measure => simp [intOf]; omega
    · obtain rfl : k = n := by omega
      have hki : ¬ (k : Int) < (k : Int) := by omega
      go_wp2_with fail
      go_ret
      exact ⟨rfl, TurnIn.of_below hb⟩

set_option maxHeartbeats 1000000 in
theorem distanceBits_own (a b : List UInt8) (w : World) (ha : a.length ≤ 1000000000000) (hb : b.length ≤ 1000000000000) : Calls Try.prog 23 #[.string (str a), .string (str b)] w (RetIntB w (dstR a b) (dstOk a b)) := by
  have HD : Hid (dstOk a b = (bitsOk a 96 && (bitsOk b 96 && decide (a.length = b.length)))) := Lib.hid rfl
  have HNO : Hid (dstOk a b = false → dstR a b = 0) := dstR_no
  have HYES : Hid (dstOk a b = true → dstR a b = (dl a b : Int)) := dstR_yes
  have HA := Lib.hid (fun W => parsedBits_own a 96 W (by omega) ha)
  have HB := Lib.hid (fun W => parsedBits_own b 96 W (by omega) hb)
  have HAL : Hid (bitsOk a 96 = true → a.length ≤ 96) := fun h => (bitsOk_b h).1
  by_cases h1 : bitsOk a 96 = true
  · have H1 := Lib.hid h1
    have HPA := Lib.hid (prsR_yes h1)
    by_cases h2 : bitsOk b 96 = true
    · have H2 := Lib.hid h2
      have HPB := Lib.hid (prsR_yes h2)
      by_cases h3 : a.length = b.length
      · have HO : Hid (dstOk a b = true) := by show _ = _; rw [HD.out, h1, h2]; simpa using h3
        have HR := Lib.hid (HYES.out HO.out)
        have HU := Lib.hid (fun W v u (h : Seen W v (bys (raw a))) (h' : Seen W u (bys (raw b))) => differences_own v u (raw a) (raw b) W h h' (by simpa using h3) (by have := HAL.out h1; simp; omega))
        have HDL := Lib.hid (raw_dl a b)
        have hl1 : (raw a).length = a.length := raw_len a
        have hl2 : (raw b).length = a.length := by rw [raw_len, h3]
        have h3b : ((a.length : Int) != (a.length : Int)) = false := by simp
        rw [HDL.out] at HU
        clear h1 h2 h3
        generalize a.length = n at *
        go_enter Try.func23, Try.ntmps23
        go_wp2_with fail
        refine (HA.out _).mono ?_
        rintro e w1 ⟨v1, rfl, o1, k1⟩
        rw [H1.out]
        rw [HPA.out] at o1
        obtain ⟨A1, c1, hv1⟩ := own_slice o1.1
        rw [hl1] at hv1
        subst hv1
        have HO1 := Lib.hid o1
        clear o1
        go_wp2_with fail
        refine (HB.out _).mono ?_
        rintro e w2 ⟨v2, rfl, o2, k2⟩
        rw [H2.out]
        rw [HPB.out] at o2
        obtain ⟨A2, c2, hv2⟩ := own_slice o2.1
        rw [hl2] at hv2
        subst hv2
        have HU2 := Lib.hid (HU.out w2 _ _ (HO1.out.keep k2 (by omega)).seen o2.seen)
        clear o2
        go_wp2_with fail
        refine HU2.out.mono ?_
        rintro e w3 ⟨rfl, k3⟩
        go_wp2_with fail
        go_ret2
        exact ⟨by rw [HR.out, HO.out]; rfl, turn_trans (turn_trans k1 k2 (by omega)) k3 (by omega)⟩
      · have HO : Hid (dstOk a b = false) := by show _ = _; rw [HD.out]; simp [h3]
        have HR := Lib.hid (HNO.out HO.out)
        have hl1 : (raw a).length = a.length := raw_len a
        have hl2 : (raw b).length = b.length := raw_len b
        have h3b : ((a.length : Int) != (b.length : Int)) = true := by rw [bne_iff_ne]; omega
        clear h1 h2 h3
        generalize a.length = n at *
        generalize b.length = m at *
        go_enter Try.func23, Try.ntmps23
        go_wp2_with fail
        refine (HA.out _).mono ?_
        rintro e w1 ⟨v1, rfl, o1, k1⟩
        rw [H1.out]
        rw [HPA.out] at o1
        obtain ⟨A1, c1, hv1⟩ := own_slice o1.1
        rw [hl1] at hv1
        subst hv1
        clear o1
        go_wp2_with fail
        refine (HB.out _).mono ?_
        rintro e w2 ⟨v2, rfl, o2, k2⟩
        rw [H2.out]
        rw [HPB.out] at o2
        obtain ⟨A2, c2, hv2⟩ := own_slice o2.1
        rw [hl2] at hv2
        subst hv2
        clear o2
        go_wp2_with fail
        go_ret2
        exact ⟨by rw [HR.out, HO.out]; rfl, turn_trans k1 k2 (by omega)⟩
    · have H2 : Hid (bitsOk b 96 = false) := by show bitsOk b 96 = false; simpa using h2
      have HO : Hid (dstOk a b = false) := by show _ = _; rw [HD.out, H2.out]; simp
      have HR := Lib.hid (HNO.out HO.out)
      clear h1 h2
      go_enter Try.func23, Try.ntmps23
      go_wp2_with fail
      refine (HA.out _).mono ?_
      rintro e w1 ⟨v1, rfl, o1, k1⟩
      rw [H1.out]
      go_wp2_with fail
      refine (HB.out _).mono ?_
      rintro e w2 ⟨v2, rfl, o2, k2⟩
      rw [H2.out]
      go_wp2_with fail
      go_ret2
      exact ⟨by rw [HR.out, HO.out]; rfl, turn_trans k1 k2 (by omega)⟩
  · have H1 : Hid (bitsOk a 96 = false) := by show bitsOk a 96 = false; simpa using h1
    have HO : Hid (dstOk a b = false) := by show _ = _; rw [HD.out, H1.out]; rfl
    have HR := Lib.hid (HNO.out HO.out)
    clear h1
    go_enter Try.func23, Try.ntmps23
    go_wp2_with fail
    refine (HA.out _).mono ?_
    rintro e w1 ⟨v1, rfl, o1, k1⟩
    rw [H1.out]
    go_wp2_with fail
    go_ret2
    exact ⟨by rw [HR.out, HO.out]; rfl, k1⟩

set_option maxHeartbeats 1000000 in
theorem costOf_own (a b : List UInt8) (w : World) (ha : a.length ≤ 1000000000000) (hb : b.length ≤ 1000000000000) : Calls Try.prog 18 #[.string (str a), .string (str b)] w (RetIntB w (cosR a b) (cosOk a b)) := by
  have HE := Lib.hid (encodeBits_own a w ha)
  by_cases h1 : encOk10 a = true
  · have H1 := Lib.hid h1
    have hel := encR10_len h1
    have hal := (bitsOk_b h1).1
    have HD := Lib.hid (fun W => distanceBits_own (encR10 a) b W (by omega) hb)
    have HO : Hid (dstOk (encR10 a) b = cosOk a b) := by show _ = _; unfold cosOk; rw [h1]; rfl
    have HR : Hid (dstR (encR10 a) b = cosR a b) := by show _ = _; unfold dstR cosR; rw [HO.out]
    clear h1 hel hal
    go_enter Try.func18, Try.ntmps18
    go_wp2_with fail
    refine HE.out.mono ?_
    rintro e w1 ⟨rfl, k1⟩
    rw [H1.out]
    go_wp2_with fail
    refine (HD.out _).mono ?_
    rintro e w2 ⟨rfl, k2⟩
    rw [HO.out, HR.out]
    go_wp2_with fail
    go_ret2
    exact ⟨rfl, turn_trans k1 k2 (by omega)⟩
  · have H1 : Hid (encOk10 a = false) := by show encOk10 a = false; simpa using h1
    have HO : Hid (cosOk a b = false) := by show _ = _; unfold cosOk; rw [H1.out]; rfl
    have HR := Lib.hid (cosR_no HO.out)
    clear h1
    go_enter Try.func18, Try.ntmps18
    go_wp2_with fail
    refine HE.out.mono ?_
    rintro e w1 ⟨rfl, k1⟩
    rw [H1.out]
    go_wp2_with fail
    go_ret2
    exact ⟨by rw [HR.out, HO.out]; rfl, k1⟩

end Go.Proofs.Ytjgmegfbfjmnfaa
