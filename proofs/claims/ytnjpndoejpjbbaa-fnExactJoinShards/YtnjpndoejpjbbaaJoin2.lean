/- JoinShards: the model's and the program's. -/
import Derived.Test.YtnjpndoejpjbbaaJoin
set_option linter.unusedSimpArgs false
set_option linter.unusedVariables false
namespace G294
open Go Go.RowKit
theorem str_extract0 (l : List UInt8) (b : Nat) : (str l).extract 0 b = str (l.take b) := by
  rw [extract_str]; simp
theorem flat_bound {L : List (List UInt8)} (h : textsOk L = true) (h8 : L.length ≤ 8) : L.flatten.length ≤ 320 := by
  rw [textsOk_flatten h]
  exact Nat.mul_le_mul h8 (textsOk_first h)
theorem joinR_no {L : List (List UInt8)} {z : Int} (h : joinOk L z = false) : joinR L z = [] := by unfold joinR; rw [if_neg (by rw [h]; simp)]
theorem joinR_yes {L : List (List UInt8)} {z : Nat} (h : joinOk L z = true) : joinR L z = L.flatten.take z := by unfold joinR; rw [if_pos h]; simp
theorem joinOk_z {L : List (List UInt8)} {z : Int} (h1 : dataOk L.length = true) (h2 : textsOk L = true) : joinOk L z = decide (0 ≤ z ∧ z ≤ L.flatten.length) := by unfold joinOk; rw [h1, h2]; simp
end G294
namespace Go.Proofs.Ytnjpndoejpjbbaa
open Go.RowKit G294

set_option maxHeartbeats 2000000 in
theorem sJoinShards_own (v : Value) (L : List (List UInt8)) (z : Int) (w : World) (hv : Seen w v (strs L)) : Calls Try.prog 14 #[v, .int .i64 z] w (RetStrOk w (joinR L z) (joinOk L z)) := by
  have HV := Lib.hid hv
  obtain ⟨A, c, rfl, hlc, hcm, hx⟩ := hv
  rw [strs_length] at hlc hx HV
  simp only [strs_length]
  unfold maxLen at hcm
  by_cases h : dataOk L.length = true
  · have HI : Hid (inB L.length 1 8 = true) := h
    have hb : 1 ≤ L.length ∧ L.length ≤ 8 := by have : 1 ≤ (L.length : Int) ∧ (L.length : Int) ≤ 8 := by simpa [dataOk] using h
                                                omega
    have HDO := Lib.hid h
    clear h
    by_cases h2 : textsOk L = true
    · have HT := Lib.hid h2
      have HJ := Lib.hid (joinOk_z (z := z) HDO.out h2)
      have HFB := Lib.hid (flat_bound h2 hb.2)
      clear h2
      generalize hnn : L.length = n at *
      have HN := Lib.hid hnn
      clear hnn
      go_enter Try.func14, Try.ntmps14
      go_wp2_with fail
      refine (l1In_any _ _ _ _).mono ?_
      rintro e w' ⟨rfl, rfl⟩
      rw [HI.out]
      go_wp2_with fail
      refine (l3Texts_any _ L _ HV.out).mono ?_
      rintro e w' ⟨rfl, rfl⟩
      rw [HT.out]
      go_wp2_with fail
      go_loop [6, 20] (fun o i => ∃ k : Nat, k ≤ n ∧ i = .int .i64 k ∧ o = .string (str (L.take k).flatten)) (fun _ i => n - (intOf i).toNat)
      case atStart => exact ⟨0, Nat.zero_le _, rfl, rfl⟩
      case round =>
        obtain ⟨k, hk, rfl, rfl⟩ := hrel
        by_cases hlt : k < n
        · have hki : (k : Int) < (n : Int) := by omega
          have hkl : k < L.length := by rw [HN.out]; exact hlt
          obtain ⟨b, off, rfl, hbl, hcell⟩ := hx (by omega)
          have hcx := hcell k _ (strs_get L k hkl)
          have HA := Lib.hid (flatten_take_succ L k hkl)
          have hle := flatten_take_le L (k + 1)
          rw [HA.out, List.length_append] at hle
          have hsm : ¬ 9223372036854775807 < (str (L.take k).flatten).size + (str L[k]).size := by rw [str_size, str_size]; have := HFB.out; omega
          clear hcell hx hle
          go_wp2_with fail
          go_round
          case rel => exact ⟨k + 1, by omega, by go_num, by rw [str_append, ← HA.out]⟩
          case measure => simp [intOf]; omega
        · obtain rfl : k = n := by omega
          have hki : ¬ (k : Int) < (k : Int) := by omega
          have HTA : Hid ((L.take k).flatten = L.flatten) := by show _ = _; rw [List.take_of_length_le (by rw [HN.out]; exact Nat.le_refl _)]
          rw [HTA.out]
          have hfs := str_size L.flatten
          generalize hfl : L.flatten.length = fl at *
          have HFL := Lib.hid hfl
          clear hfl
          by_cases hz : 0 ≤ z ∧ z ≤ fl
          · obtain ⟨q, rfl⟩ := Int.eq_ofNat_of_zero_le hz.1
            have HB : Hid (inB q 0 fl = true) := by show inB q 0 fl = true; simp [inB]; omega
            have HO : Hid (joinOk L q = true) := by show joinOk L q = true; rw [HJ.out]; simp; omega
            have HR := Lib.hid (joinR_yes HO.out)
            have hex := str_extract0 L.flatten q
            go_wp2_with fail
            refine (l1In_any _ _ _ _).mono ?_
            rintro e w' ⟨rfl, rfl⟩
            rw [HB.out]
            go_wp2_with fail
            go_ret2
            exact ⟨by rw [HO.out, HR.out]; rfl, TurnIn.refl _⟩
          · have HB : Hid (inB z 0 fl = false) := by show inB z 0 fl = false; simp [inB]; omega
            have HO : Hid (joinOk L z = false) := by show joinOk L z = false; rw [HJ.out]; simp; omega
            have HR := Lib.hid (joinR_no HO.out)
            go_wp2_with fail
            refine (l1In_any _ _ _ _).mono ?_
            rintro e w' ⟨rfl, rfl⟩
            rw [HB.out]
            go_wp2_with fail
            go_ret2
            exact ⟨by rw [HO.out, HR.out]; rfl, TurnIn.refl _⟩
    · have HT : Hid (textsOk L = false) := by show textsOk L = false; simpa using h2
      have HO : Hid (joinOk L z = false) := by show joinOk L z = false; simp [joinOk, HT.out]
      have HR := Lib.hid (joinR_no HO.out)
      clear h2
      generalize hnn : L.length = n at *
      go_enter Try.func14, Try.ntmps14
      go_wp2_with fail
      refine (l1In_any _ _ _ _).mono ?_
      rintro e w' ⟨rfl, rfl⟩
      rw [HI.out]
      go_wp2_with fail
      refine (l3Texts_any _ L _ HV.out).mono ?_
      rintro e w' ⟨rfl, rfl⟩
      rw [HT.out]
      go_wp2_with fail
      go_ret2
      exact ⟨by rw [HO.out, HR.out]; rfl, TurnIn.refl _⟩
  · have HI : Hid (inB L.length 1 8 = false) := by show inB L.length 1 8 = false; simpa [dataOk, inB] using h
    have HO : Hid (joinOk L z = false) := by show joinOk L z = false; simp [joinOk, h]
    have HR := Lib.hid (joinR_no HO.out)
    clear h
    generalize hnn : L.length = n at *
    go_enter Try.func14, Try.ntmps14
    go_wp2_with fail
    refine (l1In_any _ _ _ _).mono ?_
    rintro e w' ⟨rfl, rfl⟩
    rw [HI.out]
    go_wp2_with fail
    go_ret2
    exact ⟨by rw [HO.out, HR.out]; rfl, TurnIn.refl _⟩

set_option maxHeartbeats 4000000 in
theorem joinShards_own (v : Value) (L : List (List UInt8)) (z : Int) (w : World) (hv : Seen w v (strs L)) : Calls Try.prog 16 #[v, .int .i64 z] w (RetStrOk w (joinR L z) (joinOk L z)) := by
  obtain ⟨i0, hi0, hz0, hz1, hz2⟩ := info_parts infoByte
  have HV := Lib.hid hv
  obtain ⟨A, c, rfl, hlc, hcm, hx⟩ := hv
  rw [strs_length] at hlc hx HV
  simp only [strs_length]
  unfold maxLen at hcm
  by_cases h : dataOk L.length = true
  · have HI : Hid (dataOk L.length = true) := h
    have hb : 1 ≤ L.length ∧ L.length ≤ 8 := by have : 1 ≤ (L.length : Int) ∧ (L.length : Int) ≤ 8 := by simpa [dataOk] using h
                                                omega
    clear h
    by_cases h2 : textsOk L = true
    · have HT := Lib.hid h2
      have HJ := Lib.hid (joinOk_z (z := z) HI.out h2)
      have HFB := Lib.hid (flat_bound h2 hb.2)
      have HFM := Lib.hid (textsOk_flatten h2)
      have hf40 := textsOk_first h2
      obtain ⟨b, off, rfl, hbl, hcell⟩ := hx (by omega)
      have hc0 : w.cell? ⟨b, off, none⟩ = some (.string (str (L.getD 0 []))) := by
        have := hcell 0 _ (strs_get L 0 (by omega))
        rw [Nat.add_zero] at this
        rw [this]; simp [List.getD, show 0 < L.length by omega]
      have hs0 := str_size (L.getD 0 [])
      clear h2 hx
      have hmul : (L.length : Int) * ((L.getD 0 []).length : Int) = (L.flatten.length : Int) := by rw [HFM.out]; exact (Int.natCast_mul _ _).symm
      clear HFM
      generalize L.getD 0 [] = s0 at *
      generalize s0.length = n0 at *
      generalize hnn : L.length = n at *
      have HN := Lib.hid hnn
      clear hnn
      generalize hfl : L.flatten.length = fl at *
      have HFL := Lib.hid hfl
      have hflb := HFB.out
      clear hfl
      by_cases hz : 0 ≤ z ∧ z ≤ fl
      · obtain ⟨q, rfl⟩ := Int.eq_ofNat_of_zero_le hz.1
        have HO : Hid (joinOk L q = true) := by show joinOk L q = true; rw [HJ.out]; simp; omega
        have HR := Lib.hid (joinR_yes HO.out)
        have hqf : q ≤ fl := by omega
        have t1 : decide ((q : Int) < 0) = false := by simp
        have t2 : decide (fl < q) = false := by simp; omega
        go_enter Try.func16, Try.ntmps16
        go_wp2_with fail
        refine (goodDataCount_any _ _).mono ?_
        rintro e w' ⟨rfl, rfl⟩
        rw [HI.out]
        go_wp2_with fail
        refine (equallyLong_any _ L _ HV.out).mono ?_
        rintro e w' ⟨rfl, rfl⟩
        rw [HT.out]
        go_wp2_with fail
        go_loopw [6, 35] (fun o i wr => ∃ k : Nat, k ≤ n ∧ i = .int .i64 k ∧ OwnBytes 5 wr w.heap.size wr.heap.size o (L.take k).flatten ∧ Below w.heap.size w wr) (fun _ i _ => n - (intOf i).toNat)
        case atStart => exact ⟨0, Nat.zero_le _, rfl, OwnBytes.nil _ _ _, Below.refl _ _⟩
        case round =>
          obtain ⟨k, hk, rfl, hown, hbw⟩ := hrel
          by_cases hlt : k < n
          · have hki : (k : Int) < (n : Int) := by omega
            have hkl : k < L.length := by rw [HN.out]; exact hlt
            have hcx : wr.cell? ⟨b, off + k, none⟩ = some (.string (str L[k])) := (hbw.cell (p := ⟨b, off + k, none⟩) hbl).trans (hcell k _ (strs_get L k hkl))
            have HA := Lib.hid (flatten_take_succ L k hkl)
            have hle := flatten_take_le L (k + 1)
            rw [HA.out, List.length_append, HFL.out] at hle
            have hbs := hbw.size
            generalize (L.take k).flatten = acc at *
            have ho1 := hown.1
            clear hcell
            go_wp2_with (at_builtin; refine Lib.wpList_append_own_string _ rfl _ _ _ _ rfl w.heap.size 5 i0 Try.underlying36 Try.underlying9 hi0 hz0 hz1 hz2 _ acc.length _ rfl ho1 (str L[k]) rfl ?c1 ?c2 ?c3 ?_)
            case c1 => rw [str_size]; unfold maxLen; omega
            case c2 => rw [str_size]; omega
            case c3 => exact hbs
            intro v' w' hown' hg' _
            have hb' : Below w.heap.size w w' := below_append hbw ho1 hg' (Nat.le_refl _) hbs
            have hown2 : OwnBytes 5 w' w.heap.size w'.heap.size v' (L.take (k + 1)).flatten := by
              have e : Lib.strCells (str L[k]) = bys L[k] := by simp [Lib.strCells, str, bys]
              rw [e, str_size] at hown'
              refine ⟨?_, Nat.le_refl _, fun g hg => (hown'.lt g hg).2⟩
              rw [HA.out, bys_append, List.length_append]; exact hown'
            clear hown' hg'
            go_wp2_with fail
            go_roundw
            case rel => exact ⟨k + 1, by omega, by go_num, hown2, hb'⟩
            case measure => simp [intOf]; omega
          · obtain rfl : k = n := by omega
            have hki : ¬ (k : Int) < (k : Int) := by omega
            have HTA : Hid ((L.take k).flatten = L.flatten) := by show _ = _; rw [List.take_of_length_le (by rw [HN.out]; exact Nat.le_refl _)]
            rw [HTA.out] at hown
            rcases hown.1.2 with ⟨rfl, hn⟩ | ⟨g, cap, cur, rfl, hbg, hg, hnc, hcm2, hcs, ht⟩
            · have hf0 : fl = 0 := by rw [← HFL.out]; exact hn
              have hq0 : q = 0 := by omega
              subst hq0
              have hconv := run_string_seen (P := Try.prog) 36 5 9 Try.underlying36 Try.underlying5 Try.underlying9 (seen_part0 (w := wr) (A := none) (c := 0) (by unfold maxLen; omega) [] rfl)
              have HO0 : Hid (joinOk L 0 = true) := HO.out
              have HR0 : Hid (joinR L 0 = []) := by show joinR L 0 = []; have := HR.out; simpa using this
              clear hown hn HO HR
              go_wp2_with fail
              go_ret2
              exact ⟨by rw [HO0.out, HR0.out]; rfl, TurnIn.of_below hbw⟩
            · rw [HFL.out] at hown hnc
              unfold maxLen at hcm2
              have hconv := run_string_seen (P := Try.prog) 36 5 9 Try.underlying36 Try.underlying5 Try.underlying9 (seen_part (a := 0) (z := q) hown HFL.out (by unfold maxLen; omega) hnc (by omega))
              rw [Nat.sub_zero, List.drop_zero] at hconv
              rw [HFL.out]
              clear hown hg hcs ht
              go_wp2_with fail
              go_ret2
              exact ⟨by rw [HO.out, HR.out]; rfl, TurnIn.of_below hbw⟩
      · have HO : Hid (joinOk L z = false) := by show joinOk L z = false; rw [HJ.out]; simp; omega
        have HR := Lib.hid (joinR_no HO.out)
        by_cases hz1 : z < 0
        · have t1 : decide (z < 0) = true := by simpa using hz1
          go_enter Try.func16, Try.ntmps16
          go_wp2_with fail
          refine (goodDataCount_any _ _).mono ?_
          rintro e w' ⟨rfl, rfl⟩
          rw [HI.out]
          go_wp2_with fail
          refine (equallyLong_any _ L _ HV.out).mono ?_
          rintro e w' ⟨rfl, rfl⟩
          rw [HT.out]
          go_wp2_with fail
          go_ret2
          exact ⟨by rw [HO.out, HR.out]; rfl, TurnIn.refl _⟩
        · have t1 : decide (z < 0) = false := by simpa using hz1
          have hgt : (fl : Int) < z := by omega
          have t2 : decide ((fl : Int) < z) = true := by simpa using hgt
          go_enter Try.func16, Try.ntmps16
          go_wp2_with fail
          refine (goodDataCount_any _ _).mono ?_
          rintro e w' ⟨rfl, rfl⟩
          rw [HI.out]
          go_wp2_with fail
          refine (equallyLong_any _ L _ HV.out).mono ?_
          rintro e w' ⟨rfl, rfl⟩
          rw [HT.out]
          go_wp2_with fail
          go_ret2
          exact ⟨by rw [HO.out, HR.out]; rfl, TurnIn.refl _⟩
    · have HT : Hid (textsOk L = false) := by show textsOk L = false; simpa using h2
      have HO : Hid (joinOk L z = false) := by show joinOk L z = false; simp [joinOk, HT.out]
      have HR := Lib.hid (joinR_no HO.out)
      clear h2
      generalize hnn : L.length = n at *
      go_enter Try.func16, Try.ntmps16
      go_wp2_with fail
      refine (goodDataCount_any _ _).mono ?_
      rintro e w' ⟨rfl, rfl⟩
      rw [HI.out]
      go_wp2_with fail
      refine (equallyLong_any _ L _ HV.out).mono ?_
      rintro e w' ⟨rfl, rfl⟩
      rw [HT.out]
      go_wp2_with fail
      go_ret2
      exact ⟨by rw [HO.out, HR.out]; rfl, TurnIn.refl _⟩
  · have HI : Hid (dataOk L.length = false) := by show dataOk L.length = false; simpa using h
    have HO : Hid (joinOk L z = false) := by show joinOk L z = false; simp [joinOk, h]
    have HR := Lib.hid (joinR_no HO.out)
    clear h
    generalize hnn : L.length = n at *
    go_enter Try.func16, Try.ntmps16
    go_wp2_with fail
    refine (goodDataCount_any _ _).mono ?_
    rintro e w' ⟨rfl, rfl⟩
    rw [HI.out]
    go_wp2_with fail
    go_ret2
    exact ⟨by rw [HO.out, HR.out]; rfl, TurnIn.refl _⟩

end Go.Proofs.Ytnjpndoejpjbbaa
