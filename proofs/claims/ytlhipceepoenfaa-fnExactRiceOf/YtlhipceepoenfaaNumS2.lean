/- Chapter 13: Delta and Rice codes: the model's. -/
import Derived.Test.YtlhipceepoenfaaNumS
import Derived.Test.YtlhipceepoenfaaGrewStr
import Derived.Test.YtlhipceepoenfaaSplitMath
import Derived.Lib.RabinKarpLaws
set_option linter.unusedSimpArgs false
set_option linter.unusedVariables false
namespace G294
open Go Go.RowKit
theorem binL_drop {n : Nat} (h : n < 2 ^ 63) (h1 : 1 ≤ n) : (binL n).drop 1 = lowL n (nd n - 1) := by rw [binL_cons h h1]; rfl
/-- the first of the last digits -/
theorem lowL_cons (m k : Nat) : lowL m (k + 1) = chB (m / 2 ^ k % 2) :: lowL m k := by
  induction k generalizing m with
  | zero => simp [lowL]
  | succ k ih =>
    rw [lowL, ih (m / 2), List.cons_append]
    rw [show lowL m (k + 1) = lowL (m / 2) k ++ [chB (m % 2)] from rfl, Nat.div_div_eq_div_mul, Nat.pow_succ, Nat.mul_comm 2]
end G294
namespace Go.Proofs.Ytlhipceepoenfaa
open Go.RowKit G294

set_option maxRecDepth 100000 in
set_option maxHeartbeats 1000000 in
theorem sDeltaOf_own (n : Int) (w : World) : Calls Try.prog 14 #[.int .i64 n] w (RetStrOk w (delR n) (okN n)) := by
  have HN := Lib.hid (l13Number_any n w)
  cases hk : okN n with
  | false =>
    have HR : Hid (delR n = []) := Lib.hid (by rw [delR, hk]; rfl)
    rw [hk] at HN
    rw [HR.out]
    clear hk
    go_enter Try.func14, Try.ntmps14
    go_wp2_with fail
    refine HN.out.mono ?_
    rintro e w1 ⟨rfl, rfl⟩
    go_wp2_with fail
    go_ret2
    exact ⟨rfl, TurnIn.refl _⟩
  | true =>
    obtain ⟨h1, h2⟩ := okN_iff.1 hk
    obtain ⟨m, rfl⟩ : ∃ m : Nat, n = (m : Int) := ⟨n.toNat, by omega⟩
    obtain ⟨h3, h4⟩ := nd_okN (n := m) (by omega) (by omega)
    have HR : Hid (gamL (nd m) ++ lowL m (nd m - 1) = delR m) := Lib.hid (by rw [delR, hk]; rfl)
    have HB := Lib.hid (l13Binary_own (m + 1) m w (by omega) (by omega) (by omega))
    have hz1 : (str (binL m)).size = nd m := by rw [str_size, binL, lowL_len]
    have hex := extract_str (binL m) 1 (nd m)
    have HD : Hid ((List.take (nd m - 1) (List.drop 1 (binL m))) = lowL m (nd m - 1)) := Lib.hid (by
      rw [binL_drop (by omega) (by omega), List.take_of_length_le (by rw [lowL_len]; exact Nat.le_refl _)])
    have HG := Lib.hid (fun W (p : Grew W) => grew_str (w := W) (p := p) (l13Gamma_own (nd m) p.at_ h3 (by omega)))
    have hz2 : (str (gamL (nd m))).size = (gamL (nd m)).length := str_size _
    have hl1 : (gamL (nd m)).length ≤ 60 := by
      rw [gamL_len]
      have := nd_le (n := nd m) (k := 5) (by omega) h3 (by omega)
      omega
    rw [HD.out] at hex
    have hz3 : (str (lowL m (nd m - 1))).size = nd m - 1 := by rw [str_size, lowL_len]
    rw [hk] at HN
    clear hk HD
    generalize delR m = R at *
    generalize gamL (nd m) = g at *
    generalize g.length = gl at *
    generalize lowL m (nd m - 1) = l at *
    generalize binL m = b at *
    generalize nd m = d at *
    have hd1 : (1 : Int) ≤ (d : Int) := by omega
    have hcat : ¬ 9223372036854775807 < gl + (d - 1) := by omega
    go_enter Try.func14, Try.ntmps14
    go_wp2_with fail
    refine HN.out.mono ?_
    rintro e w1 ⟨rfl, rfl⟩
    go_wp2_with fail
    refine HB.out.mono ?_
    rintro e w1 ⟨rfl, k1⟩
    have HG1 := Lib.hid (HG.out w1)
    clear HG HB
    go_wp2_with fail
    refine wp_region_grew (by kernel_rfl) (by kernel_rfl) ?_
    repeat (first | go_big_quiet_skip | quiet_step ((go_at_call 43; exact HG1.out _)))
    refine wpQuiet_nil ?_
    rintro _ ⟨p, rfl⟩
    go_wp2_with fail
    go_ret2
    exact ⟨by rw [← HR.out, ← str_append]; rfl, turn_trans k1 (TurnIn.of_below p.old) (by omega)⟩

set_option maxRecDepth 100000 in
set_option maxHeartbeats 2000000 in
theorem sRiceOf_own (n k : Int) (w : World) : Calls Try.prog 16 #[.int .i64 n, .int .i64 k] w (RetStrOk w (ricR n k) (okRice n k)) := by
  have HN := Lib.hid (l13Number_any n w)
  have HK := Lib.hid (l1In_any k 0 10 w)
  have HKE : Hid (inB k 0 10 = okK k) := Lib.hid (by unfold inB okK; simp)
  rw [HKE.out] at HK
  by_cases hn : okN n = true
  · obtain ⟨h1, h2⟩ := okN_iff.1 hn
    obtain ⟨n', rfl⟩ : ∃ m : Nat, n = (m : Int) := ⟨n.toNat, by omega⟩
    by_cases hk : okK k = true
    · obtain ⟨hk0, hk1⟩ : 0 ≤ k ∧ k ≤ 10 := by simpa [okK] using hk
      obtain ⟨q, rfl⟩ : ∃ q : Nat, k = (q : Int) := ⟨k.toNat, by omega⟩
      obtain ⟨m, hm⟩ : ∃ m, m = n' - 1 := ⟨_, rfl⟩
      have im : (n' : Int) - 1 = (m : Int) := by omega
      obtain ⟨o, ho⟩ : ∃ o, o = m / 2 ^ q := ⟨_, rfl⟩
      have io : (m : Int) / 2 ^ q = (o : Int) := by rw [ho]; simp
      have hom : o ≤ m := by rw [ho]; exact Nat.div_le_self _ _
      have iw : IntKind.u64.wrap (q : Int) = q := wrapUm (by omega)
      rw [hk] at HK
      rw [hn] at HN
      by_cases hb : o + 1 + q ≤ 2000
      · have hbi : ¬ (2000 : Int) < (o : Int) + 1 + (q : Int) := by omega
        have HO : Hid (okRice n' q = true) := Lib.hid (by
          have : ((n' : Int) - 1).toNat = m := by omega
          simp only [okRice, hn, this, Int.toNat_natCast, Bool.true_and, Bool.and_eq_true, decide_eq_true_eq]
          rw [← ho]; refine ⟨hk0, hk1, by omega⟩)
        have HR : Hid (ricR n' q = List.replicate o 49 ++ [48] ++ lowL m q) := Lib.hid (by
          rw [ricR, if_pos HO.out, ricL]; simp [hm, ho])
        have HM := Lib.hid (fun W => l13Many_own o 49 W (by omega))
        have HL := Lib.hid (fun d (h : d < 2) W => l10Bit_own d W h)
        have HS : Hid (∀ i, i < q → List.replicate o 49 ++ [48] ++ (lowL m q).take (q - (i + 1)) ++ [chB (m / 2 ^ i % 2)] = List.replicate o 49 ++ [48] ++ (lowL m q).take (q - i)) := Lib.hid (fun i hi => by
          rw [List.append_assoc (List.replicate o 49 ++ [48])]
          congr 1
          have e1 : q - i = (q - (i + 1)) + 1 := by omega
          have hl : q - (i + 1) < (lowL m q).length := by rw [lowL_len]; omega
          rw [e1, List.take_succ_eq_append_getElem hl]
          congr 1
          have := lowL_get q m (q - (i + 1)) (by omega)
          rw [List.getD_eq_getElem?_getD, List.getElem?_eq_getElem hl] at this
          rw [show q - 1 - (q - (i + 1)) = i from by omega] at this
          simp only [Option.getD_some] at this
          rw [this])
        have HZ : Hid (∀ i, i ≤ q → (List.replicate o 49 ++ [48] ++ (lowL m q).take (q - i)).length ≤ 3000) := Lib.hid (fun i hi => by simp; omega)
        have hz1 : (str (List.replicate o (49 : UInt8))).size = o := by rw [str_size, List.length_replicate]
        have HA : Hid (str (List.replicate o 49) ++ (⟨#[48]⟩ : ByteArray) = str (List.replicate o 49 ++ [48] ++ (lowL m q).take (q - q))) := Lib.hid (by
          rw [show (⟨#[48]⟩ : ByteArray) = str [48] from rfl, str_append, Nat.sub_self, List.take_zero, List.append_nil])
        have HF : Hid (List.replicate o 49 ++ [48] ++ (lowL m q).take (q - 0) = ricR n' q) := Lib.hid (by
          rw [HR.out, Nat.sub_zero, List.take_of_length_le (by rw [lowL_len]; exact Nat.le_refl _)])
        have HBIT : Hid (∀ i, bits BinOp.and IntKind.i64 ((m : Int) / 2 ^ i) 1 = ((m / 2 ^ i % 2 : Nat) : Int)) := Lib.hid (fun i => by
          have e : ((m : Int) / 2 ^ i) = ((m / 2 ^ i : Nat) : Int) := by simp
          rw [e]
          exact and_one _ (Nat.lt_of_le_of_lt (Nat.div_le_self _ _) (by omega)))
        rw [HO.out]
        clear HO HR hk hn hm ho
        generalize ricR n' q = RR at *
        generalize hT : (fun i => List.replicate o 49 ++ [48] ++ (lowL m q).take (q - i)) = T
        have HTe : Hid (∀ i, List.replicate o 49 ++ [48] ++ (lowL m q).take (q - i) = T i) := Lib.hid (fun i => by rw [← hT])
        simp only [HTe.out] at HS HZ HA HF
        clear hT HTe
        go_enter Try.func16, Try.ntmps16
        go_wp2_with fail
        refine HN.out.mono ?_
        rintro e w1 ⟨rfl, rfl⟩
        go_wp2_with fail
        refine HK.out.mono ?_
        rintro e w1 ⟨rfl, rfl⟩
        go_wp2_with fail
        refine (HM.out _).mono ?_
        rintro e w1 ⟨rfl, k1⟩
        go_wp2_with fail
        go_loopw [8, 9] (fun s i wr => ∃ j : Nat, j ≤ q ∧ i = .int .i64 ((j : Int) - 1) ∧ s = .string (str (T j)) ∧ TurnIn 0 0 w wr) (fun _ i _ => (intOf i + 1).toNat)
        case atStart => exact ⟨q, Nat.le_refl _, rfl, congrArg Value.string HA.out, k1⟩
        case round =>
          clear k1
          obtain ⟨j, hj, rfl, rfl, kk⟩ := hrel
          by_cases hj0 : j = 0
          · subst hj0
            have hneg : ¬ (0 : Int) ≤ ((0 : Nat) : Int) - 1 := by omega
            rw [HF.out]
            go_wp2_with fail
            go_ret2
            exact ⟨rfl, kk⟩
          · obtain ⟨i, rfl⟩ : ∃ i, j = i + 1 := ⟨j - 1, by omega⟩
            have ij : (((i + 1 : Nat) : Int) - 1) = (i : Int) := by omega
            rw [ij]
            have ii : (0 : Int) ≤ (i : Int) := by omega
            have iwi : IntKind.u64.wrap (i : Int) = i := wrapUm (by omega)
            have hbit := HBIT.out i
            have hdd : m / 2 ^ i % 2 < 2 := Nat.mod_lt _ (by decide)
            have HS1 := Lib.hid (HS.out i (by omega))
            have HZ1 := HZ.out (i + 1) (by omega)
            have hzT : (str (T (i + 1))).size = (T (i + 1)).length := str_size _
            have hzc : (str [chB (m / 2 ^ i % 2)]).size = 1 := rfl
            have HL1 := Lib.hid (HL.out _ hdd wr)
            generalize T (i + 1) = t at *
            generalize t.length = tl at *
            generalize m / 2 ^ i % 2 = d at *
            generalize [chB d] = cl at *
            go_wp2_with fail
            refine HL1.out.mono ?_
            rintro e w2 ⟨rfl, k2⟩
            have k3 := turn_trans kk k2 (by omega)
            clear k2 kk
            go_wp2_with fail
            go_roundw
            case rel => exact ⟨i, by omega, by go_num, congrArg Value.string (by rw [← HS1.out, ← str_append]), k3⟩
            case measure => simp [intOf]
      · have hbi : (2000 : Int) < (o : Int) + 1 + (q : Int) := by omega
        have HO : Hid (okRice n' q = false) := Lib.hid (by
          have : ((n' : Int) - 1).toNat = m := by omega
          simp only [okRice, hn, this, Int.toNat_natCast, Bool.true_and]
          rw [← ho]; simp; omega)
        have HR : Hid (ricR n' q = []) := Lib.hid (by rw [ricR, HO.out]; rfl)
        rw [HO.out, HR.out]
        clear HO HR hk hn hm ho
        go_enter Try.func16, Try.ntmps16
        go_wp2_with fail
        refine HN.out.mono ?_
        rintro e w1 ⟨rfl, rfl⟩
        go_wp2_with fail
        refine HK.out.mono ?_
        rintro e w1 ⟨rfl, rfl⟩
        go_wp2_with fail
        go_ret2
        exact ⟨rfl, TurnIn.refl _⟩
    · have hkf : okK k = false := by simpa using hk
      have HO : Hid (okRice n' k = false) := Lib.hid (by
        have : ¬ (0 ≤ k ∧ k ≤ 10) := fun h => hk (by simp [okK, h])
        simp only [okRice, hn, Bool.true_and]
        simp; omega)
      have HR : Hid (ricR n' k = []) := Lib.hid (by rw [ricR, HO.out]; rfl)
      rw [HO.out, HR.out]
      rw [hkf] at HK
      rw [hn] at HN
      clear HO HR hk hkf hn
      go_enter Try.func16, Try.ntmps16
      go_wp2_with fail
      refine HN.out.mono ?_
      rintro e w1 ⟨rfl, rfl⟩
      go_wp2_with fail
      refine HK.out.mono ?_
      rintro e w1 ⟨rfl, rfl⟩
      go_wp2_with fail
      go_ret2
      exact ⟨rfl, TurnIn.refl _⟩
  · have hnf : okN n = false := by simpa using hn
    have HO : Hid (okRice n k = false) := Lib.hid (by rw [okRice, hnf]; rfl)
    have HR : Hid (ricR n k = []) := Lib.hid (by rw [ricR, HO.out]; rfl)
    rw [HO.out, HR.out]
    rw [hnf] at HN
    clear HO HR hn hnf
    go_enter Try.func16, Try.ntmps16
    go_wp2_with fail
    refine HN.out.mono ?_
    rintro e w1 ⟨rfl, rfl⟩
    go_wp2_with fail
    go_ret2
    exact ⟨rfl, TurnIn.refl _⟩

end Go.Proofs.Ytlhipceepoenfaa
