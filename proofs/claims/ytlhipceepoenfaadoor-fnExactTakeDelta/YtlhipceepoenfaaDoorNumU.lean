/- Chapter 13: codes taken from the front: the model's. -/
import Derived.Test.YtlhipceepoenfaaDoorNumN
import Derived.Test.YtlhipceepoenfaaDoorNumT3
set_option linter.unusedSimpArgs false
set_option linter.unusedVariables false
namespace G294
open Go Go.RowKit
theorem ld_stop (c : UInt8) (l : List UInt8) : l.length = ldC c l ∨ (ldC c l < l.length ∧ l.getD (ldC c l) 0 ≠ c) := by
  have h1 := ldC_le c l
  rcases Nat.lt_or_ge (ldC c l) l.length with h | h
  · right
    have := ldC_next c l h
    rw [List.getD_eq_getElem?_getD, List.getElem?_eq_getElem h]
    exact ⟨h, this⟩
  · left; omega
theorem rdB_step {s : List UInt8} {c k : Nat} (h : k < s.length) (ha : (s.take k).all isBitC = true) (hb : isBitC (s.getD k 0) = true) : (s.take (k + 1)).all isBitC = true := by
  rw [take_snocD s h, List.all_append, ha]; simp only [List.all_cons, List.all_nil, hb]; rfl
theorem rdB_not {s : List UInt8} {c k m : Nat} (hc : c ≤ s.length) (h : k < c) (hb : isBitC (s.getD k 0) = false) : rdB s c m = false := by
  cases hr : rdB s c m with
  | false => rfl
  | true =>
    have h3 := (rdB_iff.1 hr).2.2
    have hk : k < (s.take c).length := by rw [List.length_take]; omega
    have := List.all_eq_true.1 h3 _ (List.getElem_mem hk)
    rw [List.getElem_take] at this
    rw [getD_len (by omega)] at hb
    rw [hb] at this; cases this
end G294
namespace Go.Proofs.YtlhipceepoenfaaDoor
open Go.RowKit G294

set_option maxRecDepth 100000 in
set_option maxHeartbeats 2000000 in
theorem l13Read_own (s : List UInt8) (c : Nat) (w : World) (hs : s.length ≤ 1000000000) (hcc : c ≤ 1000000001) (B : Bool) (N : Nat) (hBT : rdB s c 30 = true → N = rdN s c ∧ B = true) (hBF : rdB s c 30 = false → N = 0 ∧ B = false) : Calls Tryd.prog 25 #[.string (str s), .int .i64 c] w (fun e w' => e = .returned (.tuple #[.int .i64 (N : Nat), .bool B]) ∧ w = w') := by
  have hsz : (str s).size = s.length := str_size s
  have HBT := Lib.hid hBT
  have HBF := Lib.hid hBF
  clear hBT hBF
  by_cases hcl : c ≤ s.length
  · have hi1 : ¬ ((s.length : Nat) : Int) < (c : Int) := by omega
    by_cases h30 : c ≤ 30
    · have hi2 : ¬ (30 : Int) < (c : Int) := by omega
      have HGET : Hid (∀ k (h : k < (str s).size), (str s)[k] = s.getD k 0) := fun k h => str_get s k h
      have HV : Hid (∀ k, k < c → valL (s.take (k + 1)) = 2 * valL (s.take k) + bv (s.getD k 0)) := Lib.hid (fun k hk => valL_step (by omega))
      have HVB : Hid (∀ k, k ≤ c → valL (s.take k) < 2147483648) := Lib.hid (fun k hk => by
        have := valL_lt (s.take k)
        rw [List.length_take, Nat.min_eq_left (by omega)] at this
        have h3 : 2 ^ k ≤ 2 ^ 31 := Nat.pow_le_pow_right (by decide) (by omega)
        omega)
      have HST := Lib.hid (fun k (hk : k < c) => @rdB_step s c k (by omega))
      have HNO := Lib.hid (fun k (hk : k < c) => @rdB_not s c k 30 hcl hk)
      have HYES : Hid ((s.take c).all isBitC = true → rdB s c 30 = true) := Lib.hid (fun h => rdB_iff.2 ⟨hcl, h30, h⟩)
      have HRD : Hid (rdN s c = valL (s.take c)) := Lib.hid rfl
      have hkl : Hid (∀ k, k < c → k < s.length) := Lib.hid (fun k h => by omega)
      have HSZ := Lib.hid hsz
      generalize hnn : s.length = n at *
      clear hnn
      go_enter Tryd.func25, Tryd.ntmps25
      go_wp2_with fail
      go_loop [6, 7] (fun v i => ∃ k : Nat, k ≤ c ∧ i = .int .i64 k ∧ v = .int .i64 (valL (s.take k) : Nat) ∧ Hid ((s.take k).all isBitC = true)) (fun _ i => c - (intOf i).toNat)
      case atStart => exact ⟨0, Nat.zero_le _, rfl, rfl, Lib.hid rfl⟩
      case round =>
        obtain ⟨k, hk, rfl, rfl, HK⟩ := hrel
        by_cases hlt : k < c
        · have hki : (k : Int) < (c : Int) := by omega
          have hkn := hkl.out k hlt
          have hsg := HGET.out k (by omega)
          have hv := HV.out k hlt
          have hb1 := HVB.out k hk
          have hb2 := HVB.out (k + 1) hlt
          have HN1 := Lib.hid (HNO.out k hlt)
          have HS1 := Lib.hid (HST.out k hlt)
          have HVK := Lib.hid hv
          generalize s.getD k 0 = ch at *
          by_cases hc : isBitC ch = true
          · have HK2 := Lib.hid (HS1.out HK.out hc)
            have hbs := bv_sub ch hc
            have hbl := bv_le ch
            rw [hv] at hb2
            clear hv HN1 HS1
            generalize bv ch = d at *
            generalize valL (s.take k) = a at *
            rcases isBit_b0 hc with ⟨e1, e2, e3⟩ | ⟨e1, e2, e3, e4, e5⟩
            · clear hc e2 e3
              go_wp2_with fail
              go_round
              case rel => exact ⟨k + 1, by omega, by go_num, congrArg (Value.int .i64) (by rw [HVK.out]; omega), HK2⟩
              case measure => simp [intOf]; omega
            · clear hc e2 e4 e5
              go_wp2_with fail
              go_round
              case rel => exact ⟨k + 1, by omega, by go_num, congrArg (Value.int .i64) (by rw [HVK.out]; omega), HK2⟩
              case measure => simp [intOf]; omega
          · have hcf : isBitC ch = false := by simpa using hc
            have HF := Lib.hid (HN1.out hcf)
            obtain ⟨e1, e2, e3, e4⟩ := isBit_no hcf
            clear hc hcf HN1 HS1 e3 e4 hv hb2
            go_wp2_with fail
            go_ret2
            exact ⟨by obtain ⟨e1, e2⟩ := HBF.out HF.out; rw [e1, e2]; rfl, rfl⟩
        · obtain rfl : k = c := by omega
          have hki : ¬ (k : Int) < (k : Int) := by omega
          have HB := Lib.hid (HYES.out HK.out)
          go_wp2_with fail
          go_ret2
          exact ⟨by obtain ⟨e1, e2⟩ := HBT.out HB.out; rw [e1, e2, HRD.out]; rfl, rfl⟩
    · have hi2 : (30 : Int) < (c : Int) := by omega
      have HF : Hid (rdB s c 30 = false) := Lib.hid (by
        cases h : rdB s c 30 with
        | false => rfl
        | true => exact absurd (rdB_iff.1 h).2.1 h30)
      generalize s.length = n at *
      go_enter Tryd.func25, Tryd.ntmps25
      go_wp2_with fail
      go_ret2
      exact ⟨by obtain ⟨e1, e2⟩ := HBF.out HF.out; rw [e1, e2]; rfl, rfl⟩
  · have hi1 : ((s.length : Nat) : Int) < (c : Int) := by omega
    have HF : Hid (rdB s c 30 = false) := Lib.hid (by
      cases h : rdB s c 30 with
      | false => rfl
      | true => exact absurd (rdB_iff.1 h).1 hcl)
    generalize s.length = n at *
    go_enter Tryd.func25, Tryd.ntmps25
    go_wp2_with fail
    go_ret2
    exact ⟨by obtain ⟨e1, e2⟩ := HBF.out HF.out; rw [e1, e2]; rfl, rfl⟩

theorem l13Read_yes (s : List UInt8) (c : Nat) (w : World) (hs : s.length ≤ 1000000000) (hcc : c ≤ 1000000001) (h : rdB s c 30 = true) : Calls Tryd.prog 25 #[.string (str s), .int .i64 c] w (fun e w' => e = .returned (.tuple #[.int .i64 (rdN s c : Nat), .bool true]) ∧ w = w') := by
  exact l13Read_own s c w hs hcc true (rdN s c) (fun _ => ⟨rfl, rfl⟩) (fun h2 => by rw [h] at h2; cases h2)

theorem l13Read_no (s : List UInt8) (c : Nat) (w : World) (hs : s.length ≤ 1000000000) (hcc : c ≤ 1000000001) (h : rdB s c 30 = false) : Calls Tryd.prog 25 #[.string (str s), .int .i64 c] w (fun e w' => e = .returned (.tuple #[.int .i64 0, .bool false]) ∧ w = w') := by
  exact l13Read_own s c w hs hcc false 0 (fun h2 => by rw [h] at h2; cases h2) (fun _ => ⟨rfl, rfl⟩)

theorem l13Number_is (n : Int) (b : Bool) (w : World) (h : okN n = b) : Calls Tryd.prog 26 #[.int .i64 n] w (fun e w' => e = .returned (.bool b) ∧ w = w') := by
  subst h; exact l13Number_any n w

set_option maxRecDepth 100000 in
set_option maxHeartbeats 3000000 in
theorem l13TakeGamma_own (s : List UInt8) (w : World) (hs : s.length ≤ 1000000000) : Calls Tryd.prog 22 #[.string (str s)] w (fun e w' => e = .returned (.tuple #[.int .i64 (tkA (tkG s)), .int .i64 (tkB (tkG s)), .bool (tkO (tkG s))]) ∧ w = w') := by
  have hsz : (str s).size = s.length := str_size s
  have HGET : Hid (∀ k (h : k < (str s).size), (str s)[k] = s.getD k 0) := fun k h => str_get s k h
  have HBF := Lib.hid (fun j h => ldC_before 48 s j h)
  have HST := Lib.hid (ld_stop 48 s)
  have hle := ldC_le 48 s
  have hex := ext_from s (ldC 48 s) rfl
  have HRY := Lib.hid (fun W h => l13Read_yes (s.drop (ldC 48 s)) (ldC 48 s + 1) W (by rw [List.length_drop]; omega) (by omega) h)
  have HRN := Lib.hid (fun W h => l13Read_no (s.drop (ldC 48 s)) (ldC 48 s + 1) W (by rw [List.length_drop]; omega) (by omega) h)
  have HT : Hid (tkG s = if rdB (s.drop (ldC 48 s)) (ldC 48 s + 1) 30 = true ∧ okN (rdN (s.drop (ldC 48 s)) (ldC 48 s + 1)) = true then some (rdN (s.drop (ldC 48 s)) (ldC 48 s + 1), 2 * ldC 48 s + 1) else none) := Lib.hid rfl
  obtain ⟨c, hc⟩ : ∃ c, c = ldC 48 s + 1 := ⟨_, rfl⟩
  have ic : ((ldC 48 s : Nat) : Int) + 1 = (c : Int) := by omega
  have hcb : c ≤ 1000000001 := by omega
  rw [← hc] at HRY HRN HT
  generalize rdB (s.drop (ldC 48 s)) c 30 = B at *
  generalize rdN (s.drop (ldC 48 s)) c = N at *
  generalize s.drop (ldC 48 s) = d at *
  generalize ldC 48 s = z at *
  generalize s.length = n at *
  clear hc
  have HTN : Hid (B = false ∨ okN (N : Int) = false → tkG s = none) := Lib.hid (fun h => HT.out.trans (if_neg (fun h2 => by
    rcases h with h | h
    · rw [h] at h2; cases h2.1
    · rw [h] at h2; cases h2.2)))
  have HTY : Hid (B = true → okN (N : Int) = true → tkG s = some (N, 2 * z + 1)) := Lib.hid (fun h h2 => HT.out.trans (if_pos ⟨h, h2⟩))
  clear HT
  go_enter Tryd.func22, Tryd.ntmps22
  go_wp2_with fail
  go_loop [5] (fun i => ∃ k : Nat, k ≤ z ∧ i = .int .i64 k) (fun i => z - (intOf i).toNat)
  case atStart => exact ⟨0, Nat.zero_le _, rfl⟩
  case round =>
    obtain ⟨k, hk, rfl⟩ := hrel
    by_cases hlt : k < z
    · have hki : (k : Int) < (n : Int) := by omega
      have hsg := HGET.out k (by omega)
      rw [HBF.out k hlt] at hsg
      have h48 : (((48 : UInt8).toNat : Int) == 48) = true := rfl
      go_wp2_with fail
      go_round
      case rel => exact ⟨k + 1, by omega, by go_num⟩
      case measure => simp [intOf]; omega
    · obtain rfl : k = z := by omega
      rcases HST.out with h | ⟨h, h2⟩
      · have hki : ¬ (k : Int) < (n : Int) := by omega
        clear h
        cases B with
        | false =>
          have HR := Lib.hid (HRN.out w rfl)
          have HH := Lib.hid (HTN.out (.inl rfl))
          clear HRN HRY HTN HTY
          go_wp2_with fail
          refine HR.out.mono ?_
          rintro e w1 ⟨rfl, rfl⟩
          go_wp2_with fail
          go_ret3
          exact ⟨by rw [HH.out]; rfl, rfl⟩
        | true =>
          have HR := Lib.hid (HRY.out w rfl)
          by_cases ho : okN (N : Int) = true
          · have HNU := Lib.hid (l13Number_is N true w ho)
            have hh := HTY.out rfl ho
            obtain ⟨y, hy⟩ : ∃ y, y = 2 * k + 1 := ⟨_, rfl⟩
            have i2 : 2 * (k : Int) + 1 = (y : Int) := by omega
            rw [← hy] at hh
            have HH := Lib.hid hh
            clear HRN HRY HTN HTY ho hy hh
            go_wp2_with fail
            refine HR.out.mono ?_
            rintro e w1 ⟨rfl, rfl⟩
            go_wp2_with fail
            refine HNU.out.mono ?_
            rintro e w1 ⟨rfl, rfl⟩
            go_wp2_with fail
            go_ret3
            exact ⟨by rw [HH.out]; rfl, rfl⟩
          · have hof : okN (N : Int) = false := by simpa using ho
            have HNU := Lib.hid (l13Number_is N false w hof)
            have HH := Lib.hid (HTN.out (.inr hof))
            clear HRN HRY HTN HTY ho hof
            go_wp2_with fail
            refine HR.out.mono ?_
            rintro e w1 ⟨rfl, rfl⟩
            go_wp2_with fail
            refine HNU.out.mono ?_
            rintro e w1 ⟨rfl, rfl⟩
            go_wp2_with fail
            go_ret3
            exact ⟨by rw [HH.out]; rfl, rfl⟩
      · have hki : (k : Int) < (n : Int) := by omega
        have hsg := HGET.out k (by omega)
        generalize s.getD k 0 = ch at *
        have hne : ((ch.toNat : Int) == 48) = false := by
          rw [beq_eq_false_iff_ne]; intro h3; exact h2 (UInt8.toNat_inj.1 (by rw [show (48 : UInt8).toNat = 48 from rfl]; omega))
        cases B with
        | false =>
          have HR := Lib.hid (HRN.out w rfl)
          have HH := Lib.hid (HTN.out (.inl rfl))
          clear HRN HRY HTN HTY
          go_wp2_with fail
          refine HR.out.mono ?_
          rintro e w1 ⟨rfl, rfl⟩
          go_wp2_with fail
          go_ret3
          exact ⟨by rw [HH.out]; rfl, rfl⟩
        | true =>
          have HR := Lib.hid (HRY.out w rfl)
          by_cases ho : okN (N : Int) = true
          · have HNU := Lib.hid (l13Number_is N true w ho)
            have hh := HTY.out rfl ho
            obtain ⟨y, hy⟩ : ∃ y, y = 2 * k + 1 := ⟨_, rfl⟩
            have i2 : 2 * (k : Int) + 1 = (y : Int) := by omega
            rw [← hy] at hh
            have HH := Lib.hid hh
            clear HRN HRY HTN HTY ho hy hh
            go_wp2_with fail
            refine HR.out.mono ?_
            rintro e w1 ⟨rfl, rfl⟩
            go_wp2_with fail
            refine HNU.out.mono ?_
            rintro e w1 ⟨rfl, rfl⟩
            go_wp2_with fail
            go_ret3
            exact ⟨by rw [HH.out]; rfl, rfl⟩
          · have hof : okN (N : Int) = false := by simpa using ho
            have HNU := Lib.hid (l13Number_is N false w hof)
            have HH := Lib.hid (HTN.out (.inr hof))
            clear HRN HRY HTN HTY ho hof
            go_wp2_with fail
            refine HR.out.mono ?_
            rintro e w1 ⟨rfl, rfl⟩
            go_wp2_with fail
            refine HNU.out.mono ?_
            rintro e w1 ⟨rfl, rfl⟩
            go_wp2_with fail
            go_ret3
            exact ⟨by rw [HH.out]; rfl, rfl⟩

theorem tkG_bd {s : List UInt8} {b a : Nat} (h : tkG s = some (b, a)) : 1 ≤ b ∧ b ≤ 1000000 ∧ a ≤ s.length := by
  unfold tkG at h
  split at h
  · rename_i h2
    have h3 := okN_iff.1 h2.2
    have h4 := (rdB_iff.1 h2.1).1
    have h5 := ldC_le 48 s
    rw [List.length_drop] at h4
    simp only [Option.some.injEq, Prod.mk.injEq] at h
    omega
  · cases h

theorem del_eq {s : List UInt8} {b a : Nat} (h : tkG s = some (b, a)) : tkD s = if b ≤ 20 ∧ rdB (s.drop a) (b - 1) 30 = true ∧ okN ((rdN (s.drop a) (b - 1) + 2 ^ (b - 1) : Nat)) = true then some (rdN (s.drop a) (b - 1) + 2 ^ (b - 1), a + b - 1) else none := by
  rw [tkD, h]

set_option maxRecDepth 100000 in
set_option maxHeartbeats 2000000 in
theorem sTakeGamma_own (s : List UInt8) (w : World) (hs : s.length ≤ 1000000000) : Calls Tryd.prog 8 #[.string (str s)] w (fun e w' => e = .returned (.tuple #[.int .i64 (tkA (tkG s)), .int .i64 (tkB (tkG s)), .bool (tkO (tkG s))]) ∧ w = w') := by
  have HG := Lib.hid (l13TakeGamma_own s w hs)
  go_enter Tryd.func8, Tryd.ntmps8
  go_wp2_with fail
  refine HG.out.mono ?_
  rintro e w1 ⟨rfl, rfl⟩
  go_wp2_with fail
  go_ret3
  exact ⟨rfl, rfl⟩

set_option maxRecDepth 100000 in
set_option maxHeartbeats 2000000 in
theorem sTakeDelta_own (s : List UInt8) (w : World) (hs : s.length ≤ 1000000000) : Calls Tryd.prog 10 #[.string (str s)] w (fun e w' => e = .returned (.tuple #[.int .i64 (tkA (tkD s)), .int .i64 (tkB (tkD s)), .bool (tkO (tkD s))]) ∧ w = w') := by
  have HG := Lib.hid (l13TakeGamma_own s w hs)
  have hsz : (str s).size = s.length := str_size s
  rcases hg : tkG s with _ | ⟨b, a⟩
  · have HH : Hid (tkD s = none) := Lib.hid (by rw [tkD, hg])
    rw [hg] at HG
    change Hid (Calls _ _ _ _ (fun e w' => e = .returned (.tuple #[.int .i64 0, .int .i64 0, .bool false]) ∧ w = w')) at HG
    clear hg
    go_enter Tryd.func10, Tryd.ntmps10
    go_wp2_with fail
    refine HG.out.mono ?_
    rintro e w1 ⟨rfl, rfl⟩
    go_wp2_with fail
    go_ret3
    exact ⟨by rw [HH.out]; rfl, rfl⟩
  · have HE := Lib.hid (del_eq hg)
    obtain ⟨hb1, hb2, ha⟩ := tkG_bd hg
    rw [hg] at HG
    change Hid (Calls _ _ _ _ (fun e w' => e = .returned (.tuple #[.int .i64 (b : Nat), .int .i64 (a : Nat), .bool true]) ∧ w = w')) at HG
    clear hg
    by_cases h20 : b ≤ 20
    · have h20i : ¬ (20 : Int) < (b : Int) := by omega
      have hex := ext_from s a rfl
      have HRY := Lib.hid (fun W h => l13Read_yes (s.drop a) (b - 1) W (by rw [List.length_drop]; omega) (by omega) h)
      have HRN := Lib.hid (fun W h => l13Read_no (s.drop a) (b - 1) W (by rw [List.length_drop]; omega) (by omega) h)
      have HV : Hid (rdB (s.drop a) (b - 1) 30 = true → rdN (s.drop a) (b - 1) < 2 ^ (b - 1)) := Lib.hid (fun h => rdN_lt (rdB_iff.1 h).1)
      obtain ⟨c, hc⟩ : ∃ c, c = b - 1 := ⟨_, rfl⟩
      rw [← hc] at HE HRY HRN HV
      have ic : (b : Int) - 1 = (c : Int) := by omega
      have iw : IntKind.u64.wrap (c : Int) = c := wrapUm (by omega)
      have hc20 : c ≤ 20 := by omega
      have hpw : 2 ^ c ≤ 2 ^ 20 := Nat.pow_le_pow_right (by decide) hc20
      obtain ⟨p, hp⟩ : ∃ p, p = 2 ^ c := ⟨_, rfl⟩
      have ip : (2 : Int) ^ c = (p : Int) := by rw [hp]; simp
      rw [← hp] at hpw HE HV
      clear hp
      generalize rdB (s.drop a) c 30 = B at *
      generalize rdN (s.drop a) c = N at *
      generalize s.drop a = d at *
      generalize s.length = n at *
      obtain ⟨v, hv⟩ : ∃ v, v = a + b - 1 := ⟨_, rfl⟩
      have icb : (a : Int) + (b : Int) - 1 = (v : Int) := by omega
      rw [← hv] at HE
      clear hc hv
      cases B with
      | false =>
        have HR := Lib.hid (HRN.out w rfl)
        have HH : Hid (tkD s = none) := Lib.hid (HE.out.trans (if_neg (fun h => by cases h.2.1)))
        clear HRN HRY HE HV
        go_enter Tryd.func10, Tryd.ntmps10
        go_wp2_with fail
        refine HG.out.mono ?_
        rintro e w1 ⟨rfl, rfl⟩
        go_wp2_with fail
        refine HR.out.mono ?_
        rintro e w1 ⟨rfl, rfl⟩
        go_wp2_with fail
        go_ret3
        exact ⟨by rw [HH.out]; rfl, rfl⟩
      | true =>
        have HR := Lib.hid (HRY.out w rfl)
        have hN := HV.out rfl
        clear HRN HRY HV
        obtain ⟨y, hy⟩ : ∃ y, y = N + p := ⟨_, rfl⟩
        have iy : (N : Int) + (p : Int) = (y : Int) := by omega
        rw [← hy] at HE
        clear hy
        by_cases ho : okN (y : Int) = true
        · have HNU := Lib.hid (l13Number_is y true w ho)
          have HH : Hid (tkD s = some (y, v)) := Lib.hid (HE.out.trans (if_pos ⟨h20, rfl, ho⟩))
          clear HE ho
          go_enter Tryd.func10, Tryd.ntmps10
          go_wp2_with fail
          refine HG.out.mono ?_
          rintro e w1 ⟨rfl, rfl⟩
          go_wp2_with fail
          refine HR.out.mono ?_
          rintro e w1 ⟨rfl, rfl⟩
          go_wp2_with fail
          refine HNU.out.mono ?_
          rintro e w1 ⟨rfl, rfl⟩
          go_wp2_with fail
          go_ret3
          exact ⟨by rw [HH.out]; rfl, rfl⟩
        · have hof : okN (y : Int) = false := by simpa using ho
          have HNU := Lib.hid (l13Number_is y false w hof)
          have HH : Hid (tkD s = none) := Lib.hid (HE.out.trans (if_neg (fun h => ho h.2.2)))
          clear HE ho hof
          go_enter Tryd.func10, Tryd.ntmps10
          go_wp2_with fail
          refine HG.out.mono ?_
          rintro e w1 ⟨rfl, rfl⟩
          go_wp2_with fail
          refine HR.out.mono ?_
          rintro e w1 ⟨rfl, rfl⟩
          go_wp2_with fail
          refine HNU.out.mono ?_
          rintro e w1 ⟨rfl, rfl⟩
          go_wp2_with fail
          go_ret3
          exact ⟨by rw [HH.out]; rfl, rfl⟩
    · have h20i : (20 : Int) < (b : Int) := by omega
      have HH : Hid (tkD s = none) := Lib.hid (HE.out.trans (if_neg (fun h => h20 h.1)))
      clear HE
      go_enter Tryd.func10, Tryd.ntmps10
      go_wp2_with fail
      refine HG.out.mono ?_
      rintro e w1 ⟨rfl, rfl⟩
      go_wp2_with fail
      go_ret3
      exact ⟨by rw [HH.out]; rfl, rfl⟩

set_option maxRecDepth 100000 in
set_option maxHeartbeats 3000000 in
theorem sTakeRice_own (s : List UInt8) (k : Int) (w : World) (hs : s.length ≤ 1000000000) : Calls Tryd.prog 12 #[.string (str s), .int .i64 k] w (fun e w' => e = .returned (.tuple #[.int .i64 (tkA (tkRi s k)), .int .i64 (tkB (tkRi s k)), .bool (tkO (tkRi s k))]) ∧ w = w') := by
  have HI := Lib.hid (l1In_any k 0 10 w)
  have HIE : inB k 0 10 = okK k := by unfold inB okK; simp
  rw [HIE] at HI
  clear HIE
  by_cases hk : okK k = true
  · obtain ⟨hk0, hk1⟩ : 0 ≤ k ∧ k ≤ 10 := by simpa [okK] using hk
    obtain ⟨q, rfl⟩ : ∃ q : Nat, k = (q : Int) := ⟨k.toNat, by omega⟩
    have hq : q ≤ 10 := by omega
    have e1 : tkRi s q = tkR s q := by rw [tkRi, if_pos hk, Int.toNat_natCast]
    rw [hk] at HI
    rw [e1]
    have hsz : (str s).size = s.length := str_size s
    have HGET : Hid (∀ k (h : k < (str s).size), (str s)[k] = s.getD k 0) := fun k h => str_get s k h
    have HBF := Lib.hid (fun j h => ldC_before 49 s j h)
    have HST := Lib.hid (ld_stop 49 s)
    have hle := ldC_le 49 s
    have hex := ext_from s (ldC 49 s + 1) rfl
    have HRY := Lib.hid (fun W h => l13Read_yes (s.drop (ldC 49 s + 1)) q W (by rw [List.length_drop]; omega) (by omega) h)
    have HRN := Lib.hid (fun W h => l13Read_no (s.drop (ldC 49 s + 1)) q W (by rw [List.length_drop]; omega) (by omega) h)
    have HE : Hid (tkR s q = if ldC 49 s < s.length ∧ s.getD (ldC 49 s) 0 = 48 ∧ ldC 49 s + 1 + q ≤ 2000 ∧ rdB (s.drop (ldC 49 s + 1)) q 30 = true ∧ okN ((ldC 49 s * 2 ^ q + rdN (s.drop (ldC 49 s + 1)) q + 1 : Nat)) = true then some (ldC 49 s * 2 ^ q + rdN (s.drop (ldC 49 s + 1)) q + 1, ldC 49 s + 1 + q) else none) := Lib.hid rfl
    have HV : Hid (rdB (s.drop (ldC 49 s + 1)) q 30 = true → rdN (s.drop (ldC 49 s + 1)) q < 2 ^ q) := Lib.hid (fun h => rdN_lt (rdB_iff.1 h).1)
    obtain ⟨c, hc⟩ : ∃ c, c = ldC 49 s + 1 := ⟨_, rfl⟩
    have ic : ((ldC 49 s : Nat) : Int) + 1 = (c : Int) := by omega
    have hcb : c ≤ 1000000001 := by omega
    rw [← hc] at HRY HRN HE hex HV
    have iw : IntKind.u64.wrap (q : Int) = q := wrapUm (by omega)
    obtain ⟨p, hp⟩ : ∃ p, p = 2 ^ q := ⟨_, rfl⟩
    have hp1 : p ≤ 1024 := by rw [hp]; exact Nat.le_trans (Nat.pow_le_pow_right (by decide) hq) (by decide)
    have ip : (2 : Int) ^ q = (p : Int) := by rw [hp]; simp
    rw [← hp] at HE HV
    generalize rdB (s.drop c) q 30 = B at *
    generalize rdN (s.drop c) q = N at *
    generalize s.drop c = d at *
    generalize ldC 49 s = z at *
    have hpz : z + 1 + q ≤ 2000 → z * p ≤ 2000 * 1024 := fun h => Nat.mul_le_mul (by omega) hp1
    obtain ⟨y, hy⟩ : ∃ y, y = z * p := ⟨_, rfl⟩
    have iy : (z : Int) * (p : Int) = (y : Int) := by rw [hy]; simp
    rw [← hy] at HE hpz
    have HPZ := Lib.hid hpz
    have HCZ : Hid (c = z + 1) := Lib.hid hc
    obtain ⟨v, hv⟩ : ∃ v, v = c + q := ⟨_, rfl⟩
    have icq : (c : Int) + (q : Int) = (v : Int) := by omega
    rw [← hv] at HE
    have HCV : Hid (v = c + q) := Lib.hid hv
    generalize s.length = n at *
    clear hc hp hy hk e1 hk0 hk1 hpz hv
    go_enter Tryd.func12, Tryd.ntmps12
    go_wp2_with fail
    refine HI.out.mono ?_
    rintro e w1 ⟨rfl, rfl⟩
    go_wp2_with fail
    go_loop [7] (fun i => ∃ k : Nat, k ≤ z ∧ i = .int .i64 k) (fun i => z - (intOf i).toNat)
    case atStart => exact ⟨0, Nat.zero_le _, rfl⟩
    case round =>
      obtain ⟨k, hk, rfl⟩ := hrel
      by_cases hlt : k < z
      · have hki : (k : Int) < (n : Int) := by omega
        have hsg := HGET.out k (by omega)
        rw [HBF.out k hlt] at hsg
        have h49 : (((49 : UInt8).toNat : Int) == 49) = true := rfl
        go_wp2_with fail
        go_round
        case rel => exact ⟨k + 1, by omega, by go_num⟩
        case measure => simp [intOf]; omega
      · obtain rfl : k = z := by omega
        rcases HST.out with h | ⟨h, h2⟩
        · have hki : ¬ (k : Int) < (n : Int) := by omega
          have HH : Hid (tkR s q = none) := Lib.hid (HE.out.trans (if_neg (fun h2 => by omega)))
          have hkn : ((k : Int) == (n : Int)) = true := by rw [beq_iff_eq]; omega
          go_wp2_with fail
          go_ret3
          exact ⟨by rw [HH.out]; rfl, rfl⟩
        · have hki : (k : Int) < (n : Int) := by omega
          have hkn : ((k : Int) == (n : Int)) = false := by rw [beq_eq_false_iff_ne]; omega
          have hsg := HGET.out k (by omega)
          generalize hch : s.getD k 0 = ch at *
          have hne : ((ch.toNat : Int) == 49) = false := by
            rw [beq_eq_false_iff_ne]; intro h3; exact h2 (UInt8.toNat_inj.1 (by rw [show (49 : UInt8).toNat = 49 from rfl]; omega))
          by_cases h48 : ch = 48
          · have he : ((ch.toNat : Int) == 48) = true := by rw [h48]; rfl
            have hen : ((ch.toNat : Int) != 48) = false := by rw [h48]; rfl
            by_cases hb : k + 1 + q ≤ 2000
            · have hy1 := HPZ.out hb
              have hbi : ¬ (2000 : Int) < (v : Int) := by have := HCZ.out; have := HCV.out; omega
              cases B with
              | false =>
                have HR := Lib.hid (HRN.out w rfl)
                have HH : Hid (tkR s q = none) := Lib.hid (HE.out.trans (if_neg (fun h => by cases h.2.2.2.1)))
                clear HRN HRY HE HV h2 h48 hch
                go_wp2_with fail
                refine HR.out.mono ?_
                rintro e w1 ⟨rfl, rfl⟩
                go_wp2_with fail
                go_ret3
                exact ⟨by rw [HH.out]; rfl, rfl⟩
              | true =>
                have HR := Lib.hid (HRY.out w rfl)
                have hN := HV.out rfl
                obtain ⟨x, hx⟩ : ∃ x, x = y + N + 1 := ⟨_, rfl⟩
                have ix : (y : Int) + (N : Int) + 1 = (x : Int) := by omega
                rw [← hx] at HE
                clear hx HRN HRY HV
                by_cases ho : okN (x : Int) = true
                · have HNU := Lib.hid (l13Number_is x true w ho)
                  have HH : Hid (tkR s q = some (x, v)) := Lib.hid (HE.out.trans (if_pos ⟨h, h48, by have := HCZ.out; have := HCV.out; omega, rfl, ho⟩))
                  clear HE ho h48 h2 hch
                  go_wp2_with fail
                  refine HR.out.mono ?_
                  rintro e w1 ⟨rfl, rfl⟩
                  go_wp2_with fail
                  refine HNU.out.mono ?_
                  rintro e w1 ⟨rfl, rfl⟩
                  go_wp2_with fail
                  go_ret3
                  exact ⟨by rw [HH.out]; rfl, rfl⟩
                · have hof : okN (x : Int) = false := by simpa using ho
                  have HNU := Lib.hid (l13Number_is x false w hof)
                  have HH : Hid (tkR s q = none) := Lib.hid (HE.out.trans (if_neg (fun h => ho h.2.2.2.2)))
                  clear HE ho hof h48 h2 hch
                  go_wp2_with fail
                  refine HR.out.mono ?_
                  rintro e w1 ⟨rfl, rfl⟩
                  go_wp2_with fail
                  refine HNU.out.mono ?_
                  rintro e w1 ⟨rfl, rfl⟩
                  go_wp2_with fail
                  go_ret3
                  exact ⟨by rw [HH.out]; rfl, rfl⟩
            · have hbi : (2000 : Int) < (v : Int) := by have := HCZ.out; have := HCV.out; omega
              have HH : Hid (tkR s q = none) := Lib.hid (HE.out.trans (if_neg (fun h => hb (by have := HCZ.out; have := HCV.out; have := h.2.2.1; omega))))
              clear h48 hch h2 HE
              go_wp2_with fail
              go_ret3
              exact ⟨by rw [HH.out]; rfl, rfl⟩
          · have he : ((ch.toNat : Int) == 48) = false := by
              rw [beq_eq_false_iff_ne]; intro h3; exact h48 (UInt8.toNat_inj.1 (by rw [show (48 : UInt8).toNat = 48 from rfl]; omega))
            have hen : ((ch.toNat : Int) != 48) = true := by rw [bne, he]; rfl
            have HH : Hid (tkR s q = none) := Lib.hid (HE.out.trans (if_neg (fun h => h48 h.2.1)))
            clear h48 hch h2 HE
            go_wp2_with fail
            go_ret3
            exact ⟨by rw [HH.out]; rfl, rfl⟩
  · have hkf : okK k = false := by simpa using hk
    have HH : Hid (tkRi s k = none) := Lib.hid (if_neg hk)
    rw [hkf] at HI
    clear hk hkf
    go_enter Tryd.func12, Tryd.ntmps12
    go_wp2_with fail
    refine HI.out.mono ?_
    rintro e w1 ⟨rfl, rfl⟩
    go_wp2_with fail
    go_ret3
    exact ⟨by rw [HH.out]; rfl, rfl⟩

theorem sTakeGamma_tk (s : List UInt8) (w : World) (hs : s.length ≤ 1000000000) : Calls Tryd.prog 8 #[.string (str s)] w (RetTk w (tkG s)) :=
  (sTakeGamma_own s w hs).mono (by rintro e w1 ⟨rfl, rfl⟩; exact ⟨rfl, TurnIn.refl _⟩)

theorem sTakeDelta_tk (s : List UInt8) (w : World) (hs : s.length ≤ 1000000000) : Calls Tryd.prog 10 #[.string (str s)] w (RetTk w (tkD s)) :=
  (sTakeDelta_own s w hs).mono (by rintro e w1 ⟨rfl, rfl⟩; exact ⟨rfl, TurnIn.refl _⟩)

theorem sTakeRice_tk (s : List UInt8) (k : Int) (w : World) (hs : s.length ≤ 1000000000) : Calls Tryd.prog 12 #[.string (str s), .int .i64 k] w (RetTk w (tkRi s k)) :=
  (sTakeRice_own s k w hs).mono (by rintro e w1 ⟨rfl, rfl⟩; exact ⟨rfl, TurnIn.refl _⟩)

end Go.Proofs.YtlhipceepoenfaaDoor
