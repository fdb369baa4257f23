/- Chapter 10: FlipBits: the program's. -/
import Derived.Test.YtjgmegfbfjmnfaaVitE4
set_option linter.unusedSimpArgs false
set_option linter.unusedVariables false
namespace Go.Proofs.Ytjgmegfbfjmnfaa
open Go.RowKit G294

set_option maxRecDepth 100000 in
set_option maxHeartbeats 2000000 in
theorem flipBits_own (v : Value) (s : List UInt8) (l : List Int) (w : World) (hv : Seen w v (ints l)) (hs : s.length ≤ 1000000000000) : Calls Try.prog 22 #[.string (str s), v] w (RetStrOk w (flpR s l) (flpOk s l)) := by
  have HV := Lib.hid hv
  obtain ⟨A, c, hvv⟩ := hv.len
  rw [ints_length] at hvv
  subst hvv
  clear hv
  have HD : Hid (flpOk s l = (bitsOk s 96 && someOk l s.length)) := Lib.hid rfl
  have HNO : Hid (flpOk s l = false → flpR s l = []) := fun h => if_neg (by rw [h]; decide)
  have HYES : Hid (flpOk s l = true → flpR s l = flipK s l l.length) := fun h => if_pos h
  have HP := Lib.hid (fun W => parsedBits_own s 96 W (by omega) hs)
  by_cases h1 : bitsOk s 96 = true
  · have H1 := Lib.hid h1
    have hl96 := (bitsOk_b h1).1
    have HPR := Lib.hid (prsR_yes h1)
    have HRL : Hid ((raw s).length = s.length) := raw_len s
    have HCH : Hid (chosen l s.length = (someOk l s.length && decide (0 < l.length))) := Lib.hid rfl
    have HGC := Lib.hid (fun W (hw : Seen W (.slice A l.length c) (ints l)) => goodChoice_any _ l s.length W hw (by omega))
    by_cases h2 : someOk l s.length = true
    · have H2 := Lib.hid h2
      have HO : Hid (flpOk s l = true) := by show _ = _; rw [HD.out, h1, h2]; rfl
      have HR := Lib.hid (HYES.out HO.out)
      have HIN : Hid (∀ k, k < l.length → 0 ≤ l.getD k 0 ∧ l.getD k 0 < (s.length : Int)) := fun k hk => by
        have := (someOk_iff l s.length).1 h2 k hk
        exact ⟨this.1, this.2.1⟩
      have hl := some_len h2
      have HTX : Hid (txt (flipK (raw s) l l.length) = flipK s l l.length) := by
        have := raw_flip s l (bitsOk_b h1).2 l.length (fun j hj => by have := HIN.out j hj; omega)
        show _ = _
        rw [← this.1, txt_raw]
      have HK : Hid (∀ k, flipK (raw s) l (k + 1) = (flipK (raw s) l k).set (l.getD k 0).toNat ((flipK (raw s) l k).getD (l.getD k 0).toNat 0 ^^^ 1)) := fun k => rfl
      have HKL : Hid (∀ k, (flipK (raw s) l k).length = s.length) := fun k => by rw [flipK_len, raw_len]
      have HK0 : Hid (raw s = flipK (raw s) l 0) := Lib.hid rfl
      rw [HR.out, ← HTX.out]
      obtain ⟨G, hG⟩ : ∃ G, G = flipK (raw s) l := ⟨_, rfl⟩
      rw [← hG] at HK HKL HK0 ⊢
      obtain ⟨A1, c1, hvv, hlc, hcm, hx⟩ := HV.out
      rw [ints_length] at hvv hlc hx
      simp only [Value.slice.injEq] at hvv
      obtain ⟨rfl, _, rfl⟩ := hvv
      have HX := Lib.hid hx
      unfold maxLen at hcm
      have hCH2 : chosen l s.length = decide (0 < l.length) := by rw [HCH.out, h2]; simp
      have HCH2 := Lib.hid hCH2
      generalize hnn : l.length = n at *
      generalize hmm : s.length = m at *
      have HN := Lib.hid hnn
      have hgt : decide ((0 : Int) < (n : Int)) = decide (0 < n) := by by_cases h : 0 < n <;> simp [h] <;> omega
      clear h1 h2 hG hx hnn hmm HCH hCH2
      have main : ∀ (w1 : World) (v1 : Value), OwnBytes 5 w1 w.heap.size w1.heap.size v1 (G 0) → TurnIn 0 0 w w1 → True := fun _ _ _ _ => trivial
      clear main
      by_cases hn0 : 0 < n
      · have hd0 : decide (0 < n) = true := by simpa using hn0
        have hd0i : decide ((0 : Int) < (n : Int)) = true := by rw [hgt]; exact hd0
        rw [hd0] at HCH2
        clear hgt hd0
        go_enter Try.func22, Try.ntmps22
        go_wp2_with fail
        refine (HP.out _).mono ?_
        rintro e w1 ⟨v1, rfl, o1, k1⟩
        rw [H1.out]
        rw [HPR.out, HK0.out] at o1
        have s1 := k1.size
        have hm0 : 0 < m := by have := HIN.out 0 hn0; omega
        obtain ⟨g, cap, hv1, hg1, hg2, hgc, hgm⟩ := o1.slice (by rw [HKL.out]; exact hm0)
        rw [HKL.out] at hv1 hgc
        subst hv1
        unfold maxLen at hgm
        have HO1 := Lib.hid o1
        have HV1 := Lib.hid (HV.out.below k1.to_below)
        have HK1 := Lib.hid k1
        clear o1 k1
        go_wp2_with fail
        refine (HGC.out _ HV1.out).mono ?_
        rintro e w' ⟨rfl, rfl⟩
        rw [HCH2.out]
        go_wp2_with fail
        go_loopw [31] (fun i wr => ∃ k : Nat, k ≤ n ∧ i = .int .i64 k ∧ Hid (OwnBytes 5 wr w.heap.size w1.heap.size (.slice (some ⟨g, 0, none⟩) m cap) (G k)) ∧ Hid (TurnIn w.heap.size w1.heap.size w1 wr)) (fun i _ => n - (intOf i).toNat)
        case atStart => exact ⟨0, Nat.zero_le _, rfl, HO1, ⟨rfl, rfl, rfl, Nat.le_refl _, fun _ _ _ => rfl⟩⟩
        case round =>
          obtain ⟨k, hk, rfl, HO2, HB⟩ := hrel
          have sB := HB.out.size
          by_cases hlt : k < n
          · have hki : (k : Int) < (n : Int) := by omega
            have hkl : k < l.length := by rw [HN.out]; exact hlt
            obtain ⟨b, off, rfl, hbl, hcell⟩ := HX.out (by omega)
            have hcx := (World.cell?_of_block (a := ⟨b, off + k, none⟩) (HB.out.block b (by omega) (by omega))).trans ((HK1.out.to_below.cell (p := ⟨b, off + k, none⟩) hbl).trans (hcell k _ (ints_get l k hkl)))
            rw [← getD_len hkl 0] at hcx
            have hin := HIN.out k hlt
            have hkk := HK.out k
            obtain ⟨q, hq⟩ := Int.eq_ofNat_of_zero_le hin.1
            rw [hq] at hcx hin hkk
            rw [Int.toNat_natCast] at hkk
            have hqm : q < m := by omega
            have hqi : (q : Int) < (m : Int) := by omega
            have hcs := HO2.out.cellAt (k := q) (by rw [HKL.out]; exact hqm)
            have hfr := HO2.out.frozenAt q
            generalize hgx : (G k).getD q 0 = x at hcs hkk
            have hxor := xor_one x
            have HO3 := Lib.hid (HO2.out.store (q := q) (x := x ^^^ 1) (HKL.out k) hkk.symm)
            have HB3 := Lib.hid (turn_trans HB.out (turn_setCell wr g q (.int .u8 ((x ^^^ 1).toNat : Int))) (by omega))
            clear hgx hkk hq hin hcell
            generalize x ^^^ 1 = y at *
            go_wp2_with fail
            go_roundw
            case rel => exact ⟨k + 1, by omega, by go_num, HO3, HB3⟩
            case measure => simp [intOf]; omega
          · obtain rfl : k = n := by omega
            have hki : ¬ (k : Int) < (k : Int) := by omega
            have HBT := Lib.hid (bitText_own _ (G k) wr HO2.out.seen (by rw [HKL.out]; omega))
            have HKR : Hid (TurnIn 0 0 w wr) := by
              have h1 := HK1.out
              have kr := HB.out
              exact ⟨kr.os.trans h1.os, kr.tape.trans h1.tape, kr.output.trans h1.output, by omega, fun i hi _ => (kr.block i (by have := h1.size; omega) (by omega)).trans (h1.block i hi (by omega))⟩
            go_wp2_with fail
            refine HBT.out.mono ?_
            rintro e w4 ⟨rfl, k4⟩
            go_wp2_with fail
            go_ret2
            exact ⟨by rw [HO.out]; rfl, turn_trans HKR.out k4 (by omega)⟩
      · obtain rfl : n = 0 := by omega
        have hd0i : decide ((0 : Int) < ((0 : Nat) : Int)) = false := by simp
        clear hgt hn0
        go_enter Try.func22, Try.ntmps22
        go_wp2_with fail
        refine (HP.out _).mono ?_
        rintro e w1 ⟨v1, rfl, o1, k1⟩
        rw [H1.out]
        rw [HPR.out, HK0.out] at o1
        have s1 := k1.size
        obtain ⟨A2, c2, hv2⟩ := own_slice o1.1
        rw [HKL.out] at hv2
        subst hv2
        have HBT := Lib.hid (bitText_own _ (G 0) w1 o1.seen (by rw [HKL.out]; omega))
        have HK1 := Lib.hid k1
        clear o1 k1
        go_wp2_with fail
        refine wp_loop_once ?_
        go_wp2_with fail
        refine HBT.out.mono ?_
        rintro e w4 ⟨rfl, k4⟩
        go_wp2_with fail
        go_ret2
        exact ⟨by rw [HO.out]; rfl, turn_trans HK1.out k4 (by omega)⟩
    · have H2 : Hid (someOk l s.length = false) := by show someOk l s.length = false; simpa using h2
      have HO : Hid (flpOk s l = false) := by show _ = _; rw [HD.out, H2.out]; simp
      have HR := Lib.hid (HNO.out HO.out)
      have hn0 : 0 < l.length := by
        rcases Nat.eq_zero_or_pos l.length with h | h
        · exact absurd ((someOk_iff l s.length).2 (fun i hi => by omega)) h2
        · exact h
      have HCH2 : Hid (chosen l s.length = false) := by show _ = _; rw [HCH.out, H2.out]; rfl
      generalize hnn : l.length = n at *
      generalize hmm : s.length = m at *
      have hd0i : decide ((0 : Int) < (n : Int)) = true := by simp; omega
      clear h1 h2 hnn hmm HCH
      go_enter Try.func22, Try.ntmps22
      go_wp2_with fail
      refine (HP.out _).mono ?_
      rintro e w1 ⟨v1, rfl, o1, k1⟩
      rw [H1.out]
      rw [HPR.out] at o1
      obtain ⟨A2, c2, hv2⟩ := own_slice o1.1
      rw [HRL.out] at hv2
      subst hv2
      have HV1 := Lib.hid (HV.out.below k1.to_below)
      clear o1
      go_wp2_with fail
      refine (HGC.out _ HV1.out).mono ?_
      rintro e w' ⟨rfl, rfl⟩
      rw [HCH2.out]
      go_wp2_with fail
      go_ret2
      exact ⟨by rw [HR.out, HO.out]; rfl, k1⟩
  · have H1 : Hid (bitsOk s 96 = false) := by show bitsOk s 96 = false; simpa using h1
    have HO : Hid (flpOk s l = false) := by show _ = _; rw [HD.out, H1.out]; rfl
    have HR := Lib.hid (HNO.out HO.out)
    clear h1
    go_enter Try.func22, Try.ntmps22
    go_wp2_with fail
    refine (HP.out _).mono ?_
    rintro e w1 ⟨v1, rfl, o1, k1⟩
    rw [H1.out]
    go_wp2_with fail
    go_ret2
    exact ⟨by rw [HR.out, HO.out]; rfl, k1⟩

end Go.Proofs.Ytjgmegfbfjmnfaa
