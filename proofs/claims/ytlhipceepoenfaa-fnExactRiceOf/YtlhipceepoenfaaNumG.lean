/- Chapter 13: Gamma, Delta and Rice codes: the program's. -/
import Derived.Test.YtlhipceepoenfaaNumB
import Derived.Test.YtlhipceepoenfaaRepLay
import Derived.Lib.Repeat
set_option linter.unusedSimpArgs false
set_option linter.unusedVariables false
namespace G294
open Go Go.RowKit
def gamR (n : Int) : List UInt8 := if okN n = true then gamL n.toNat else []
def delR (n : Int) : List UInt8 := if okN n = true then delL n.toNat else []
def ricR (n k : Int) : List UInt8 := if okRice n k = true then ricL n.toNat k.toNat else []
/-- a code in the text of a valid number -/
def CodeAt (P : Program) (g : Nat) (lb : Array Value) (n : Int) (s : List UInt8) (ok : Bool) (w : World) : Prop :=
  ∀ W : World, Below w.heap.size w W → Calls P g (#[.int .i64 n] ++ lb) W (RetStrOk W s ok)
theorem rep_str (c : UInt8) (k : Nat) : (⟨(Lib.repeatL (⟨#[c]⟩ : ByteArray).data.toList k).toArray⟩ : ByteArray) = str (List.replicate k c) := by
  have : (⟨#[c]⟩ : ByteArray).data.toList = List.replicate 1 c := rfl
  rw [this, Lib.repeatL_replicate, Nat.mul_one]; rfl
end G294
namespace Go.Proofs.Ytlhipceepoenfaa
open Go.RowKit G294

set_option maxRecDepth 100000 in
set_option maxHeartbeats 1000000 in
theorem codeBy_own (g : Nat) (lb : Array Value) (n : Int) (s : List UInt8) (ok : Bool) (w : World) (eg : ∀ args w, (callFunc g args).run Try.prog w = .ok (.enter g args) w)
    (hat : okN n = true → CodeAt Try.prog g lb n s ok w) (hno : okN n = false → s = [] ∧ ok = false) : Calls Try.prog 44 #[.func (.func g) #[] lb, .int .i64 n] w (RetStrOk w s ok) := by
  have HAT := Lib.hid hat
  have HNO := Lib.hid hno
  clear hat hno
  go_enter Try.func44, Try.ntmps44
  go_wp2_with fail
  refine (goodNumber_own n _).mono ?_
  rintro e w1 ⟨rfl, rfl⟩
  cases hk : okN n with
  | false =>
    obtain ⟨e1, e2⟩ := HNO.out hk
    subst e1 e2
    go_wp2_with fail
    go_ret2
    exact ⟨rfl, TurnIn.refl _⟩
  | true =>
    have HA := Lib.hid (HAT.out hk w (Below.refl _ _))
    go_wp2_with (go_at_fn g; refine HA.out.mono ?_)
    rintro e w1 ⟨rfl, k1⟩
    go_wp2_with fail
    go_ret2
    exact ⟨rfl, k1⟩

set_option maxRecDepth 100000 in
set_option maxHeartbeats 1000000 in
theorem gamma_own (n : Nat) (w : World) (hn : n ≤ 1000000) (h1 : 1 ≤ n) : Calls Try.prog 45 #[.int .i64 n] w (RetStrOk w (gamL n) true) := by
  obtain ⟨h2, h3⟩ := nd_okN h1 hn
  have HS := Lib.hid (size_own n w (by omega))
  obtain ⟨c, hc⟩ : ∃ c, c = 2 * nd n - 1 := ⟨_, rfl⟩
  have HL := Lib.hid (lowDigits_own n c w (by omega))
  have HG : Hid (lowL n c = gamL n) := Lib.hid (by rw [hc]; rfl)
  generalize nd n = d at *
  have ic : 2 * (d : Int) - 1 = (c : Int) := by omega
  clear hc
  go_enter Try.func45, Try.ntmps45
  go_wp2_with fail
  refine HS.out.mono ?_
  rintro e w1 ⟨rfl, rfl⟩
  go_wp2_with fail
  refine HL.out.mono ?_
  rintro e w1 ⟨rfl, k1⟩
  rw [HG.out]
  go_wp2_with fail
  go_ret2
  exact ⟨rfl, k1⟩

set_option maxRecDepth 100000 in
set_option maxHeartbeats 1000000 in
theorem delta_own (n : Nat) (w : World) (hn : n ≤ 1000000) (h1 : 1 ≤ n) : Calls Try.prog 47 #[.int .i64 n] w (RetStrOk w (delL n) true) := by
  obtain ⟨h2, h3⟩ := nd_okN h1 hn
  have HS := Lib.hid (size_own n w (by omega))
  have HM := Lib.hid (gamma_own (nd n) w (by omega) h2)
  obtain ⟨c, hc⟩ : ∃ c, c = nd n - 1 := ⟨_, rfl⟩
  have HL := Lib.hid (fun W => lowDigits_own n c W (by omega))
  have HG : Hid (gamL (nd n) ++ lowL n c = delL n) := Lib.hid (by rw [hc]; rfl)
  have hz1 : (str (gamL (nd n))).size = (gamL (nd n)).length := str_size _
  have hl1 : (gamL (nd n)).length ≤ 60 := by
    rw [gamL_len]
    have := nd_le (n := nd n) (k := 5) (by omega) h2 (by omega)
    omega
  have hz2 : (str (lowL n c)).size = c := by rw [str_size, lowL_len]
  generalize gamL (nd n) = g at *
  generalize lowL n c = l at *
  generalize g.length = gl at *
  generalize nd n = d at *
  have ic : (d : Int) - 1 = (c : Int) := by omega
  have hcc : c ≤ 20 := by omega
  clear hc
  go_enter Try.func47, Try.ntmps47
  go_wp2_with fail
  refine HS.out.mono ?_
  rintro e w1 ⟨rfl, rfl⟩
  go_wp2_with fail
  refine HM.out.mono ?_
  rintro e w1 ⟨rfl, k1⟩
  go_wp2_with fail
  refine (HL.out _).mono ?_
  rintro e w2 ⟨rfl, k2⟩
  have k12 := turn_trans k1 k2 (by omega)
  clear k1 k2
  go_wp2_with fail
  go_ret2
  exact ⟨by rw [str_append, HG.out]; rfl, k12⟩

set_option maxRecDepth 100000 in
set_option maxHeartbeats 2000000 in
theorem rice_own (n : Nat) (k : Int) (w : World) (hn : n ≤ 1000000) (h1 : 1 ≤ n) : Calls Try.prog 52 #[.int .i64 n, .int .i64 k] w (RetStrOk w (ricR n k) (okRice n k)) := by
  have HN : Hid (okN (n : Int) = true) := Lib.hid (okN_iff.2 ⟨by omega, by omega⟩)
  have HP := Lib.hid (goodParameter_own k w)
  by_cases hk : okK k = true
  · obtain ⟨hk0, hk1⟩ : 0 ≤ k ∧ k ≤ 10 := by simpa [okK] using hk
    obtain ⟨q, rfl⟩ : ∃ q : Nat, k = (q : Int) := ⟨k.toNat, by omega⟩
    obtain ⟨m, hm⟩ : ∃ m, m = n - 1 := ⟨_, rfl⟩
    have im : (n : Int) - 1 = (m : Int) := by omega
    obtain ⟨o, ho⟩ : ∃ o, o = m / 2 ^ q := ⟨_, rfl⟩
    have io : (m : Int) / 2 ^ q = (o : Int) := by rw [ho]; simp
    have hom : o ≤ m := by rw [ho]; exact Nat.div_le_self _ _
    rw [hk] at HP
    by_cases hb : o + 1 + q ≤ 2000
    · have hbi : ¬ (2000 : Int) < (o : Int) + 1 + (q : Int) := by omega
      have HO : Hid (okRice n q = true) := Lib.hid (by
        have : ((n : Int) - 1).toNat = m := by omega
        simp only [okRice, HN.out, this, Int.toNat_natCast, Bool.true_and, Bool.and_eq_true, decide_eq_true_eq]
        rw [← ho]; refine ⟨hk0, hk1, by omega⟩)
      have HR : Hid (ricR n q = List.replicate o 49 ++ [48] ++ lowL m q) := Lib.hid (by
        rw [ricR, if_pos HO.out, ricL]; simp [hm, ho])
      have HREP := Lib.hid (fun W => Try.strings_Repeat (⟨#[49]⟩) o W (by omega) (by show 1 * o ≤ _; omega))
      rw [rep_str] at HREP
      have HL := Lib.hid (fun W => lowDigits_own m q W (by omega))
      have hz1 : (str (List.replicate o 49)).size = o := by rw [str_size, List.length_replicate]
      have hz2 : (str (lowL m q)).size = q := by rw [str_size, lowL_len]
      have hz3 : (str (List.replicate o 49) ++ (⟨#[48]⟩ : ByteArray)).size = o + 1 := by
        rw [show (⟨#[48]⟩ : ByteArray) = str [48] from rfl, str_append, str_size]; simp
      have HE : Hid (str (List.replicate o 49) ++ (⟨#[48]⟩ : ByteArray) ++ str (lowL m q) = str (ricR n q)) := Lib.hid (by
        rw [HR.out, show (⟨#[48]⟩ : ByteArray) = str [48] from rfl, str_append, str_append])
      rw [HO.out]
      clear HO HR hk hm ho
      generalize List.replicate o 49 = r at *
      generalize lowL m q = l at *
      go_enter Try.func52, Try.ntmps52
      go_wp2_with fail
      refine HP.out.mono ?_
      rintro e w1 ⟨rfl, rfl⟩
      go_wp2_with fail
      refine (HREP.out _).mono ?_
      rintro e w1 ⟨rfl, k1⟩
      go_wp2_with fail
      refine (HL.out _).mono ?_
      rintro e w2 ⟨rfl, k2⟩
      have k12 := turn_trans (TurnIn.of_below k1) k2 (by omega)
      clear k1 k2
      go_wp2_with fail
      go_ret2
      exact ⟨by rw [← HE.out]; rfl, k12⟩
    · have hbi : (2000 : Int) < (o : Int) + 1 + (q : Int) := by omega
      have HO : Hid (okRice n q = false) := Lib.hid (by
        have : ((n : Int) - 1).toNat = m := by omega
        simp only [okRice, HN.out, this, Int.toNat_natCast, Bool.true_and]
        rw [← ho]; simp; omega)
      have HR : Hid (ricR n q = []) := Lib.hid (by rw [ricR, HO.out]; rfl)
      rw [HO.out, HR.out]
      clear HO HR hk hm ho
      go_enter Try.func52, Try.ntmps52
      go_wp2_with fail
      refine HP.out.mono ?_
      rintro e w1 ⟨rfl, rfl⟩
      go_wp2_with fail
      go_ret2
      exact ⟨rfl, TurnIn.refl _⟩
  · have hkf : okK k = false := by simpa using hk
    have HO : Hid (okRice n k = false) := Lib.hid (by
      have : ¬ (0 ≤ k ∧ k ≤ 10) := fun h => hk (by simp [okK, h])
      simp only [okRice, HN.out, Bool.true_and]
      simp; omega)
    have HR : Hid (ricR n k = []) := Lib.hid (by rw [ricR, HO.out]; rfl)
    rw [HO.out, HR.out]
    rw [hkf] at HP
    clear HO HR
    go_enter Try.func52, Try.ntmps52
    go_wp2_with fail
    refine HP.out.mono ?_
    rintro e w1 ⟨rfl, rfl⟩
    go_wp2_with fail
    go_ret2
    exact ⟨rfl, TurnIn.refl _⟩

theorem gammaAt (n : Int) (w : World) (h : okN n = true) : CodeAt Try.prog 45 #[] n (gamR n) (okN n) w := by
  intro W _
  rw [gamR, if_pos h, h]
  obtain ⟨h1, h2⟩ := okN_iff.1 h
  have e : n = ((n.toNat : Nat) : Int) := by omega
  have := gamma_own n.toNat W (by omega) (by omega)
  rw [← e] at this; exact this

theorem deltaAt (n : Int) (w : World) (h : okN n = true) : CodeAt Try.prog 47 #[] n (delR n) (okN n) w := by
  intro W _
  rw [delR, if_pos h, h]
  obtain ⟨h1, h2⟩ := okN_iff.1 h
  have e : n = ((n.toNat : Nat) : Int) := by omega
  have := delta_own n.toNat W (by omega) (by omega)
  rw [← e] at this; exact this

set_option maxRecDepth 100000 in
set_option maxHeartbeats 1000000 in
theorem gammaOf_own (n : Int) (w : World) : Calls Try.prog 13 #[.int .i64 n] w (RetStrOk w (gamR n) (okN n)) := by
  have eg : ∀ args w, (callFunc 45 args).run Try.prog w = .ok (.enter 45 args) w := enters_of Try.func45 (by kernel_rfl) rfl
  have HC := Lib.hid (codeBy_own 45 #[] n (gamR n) (okN n) w eg (gammaAt n w) (fun h => ⟨by rw [gamR, h]; rfl, h⟩))
  go_enter Try.func13, Try.ntmps13
  go_wp2_with fail
  refine HC.out.mono ?_
  rintro e w1 ⟨rfl, k1⟩
  go_wp2_with fail
  go_ret2
  exact ⟨rfl, k1⟩

set_option maxRecDepth 100000 in
set_option maxHeartbeats 1000000 in
theorem deltaOf_own (n : Int) (w : World) : Calls Try.prog 15 #[.int .i64 n] w (RetStrOk w (delR n) (okN n)) := by
  have eg : ∀ args w, (callFunc 47 args).run Try.prog w = .ok (.enter 47 args) w := enters_of Try.func47 (by kernel_rfl) rfl
  have HC := Lib.hid (codeBy_own 47 #[] n (delR n) (okN n) w eg (deltaAt n w) (fun h => ⟨by rw [delR, h]; rfl, h⟩))
  go_enter Try.func15, Try.ntmps15
  go_wp2_with fail
  refine HC.out.mono ?_
  rintro e w1 ⟨rfl, k1⟩
  go_wp2_with fail
  go_ret2
  exact ⟨rfl, k1⟩

set_option maxRecDepth 100000 in
set_option maxHeartbeats 1000000 in
theorem riceBox_own (n : Nat) (k : Int) (B : Nat) (w : World) (hn : n ≤ 1000000) (h1 : 1 ≤ n) (hc : w.cell? ⟨B, 0, none⟩ = some (.int .i64 k)) : Calls Try.prog 51 #[.int .i64 n, .pointer (some ⟨B, 0, none⟩)] w (RetStrOk w (ricR n k) (okRice n k)) := by
  have HR := Lib.hid (rice_own n k w hn h1)
  go_enter Try.func51, Try.ntmps51
  go_wp2_with fail
  refine HR.out.mono ?_
  rintro e w1 ⟨rfl, k1⟩
  go_wp2_with fail
  go_ret2
  exact ⟨rfl, k1⟩

set_option maxRecDepth 100000 in
set_option maxHeartbeats 1000000 in
theorem riceOf_own (n k : Int) (w : World) : Calls Try.prog 17 #[.int .i64 n, .int .i64 k] w (RetStrOk w (ricR n k) (okRice n k)) := by
  have eg : ∀ args w, (callFunc 51 args).run Try.prog w = .ok (.enter 51 args) w := enters_of Try.func51 (by kernel_rfl) rfl
  have KA := Lib.hid (turn_alloc w (.cells #[.int .i64 k] 3))
  have hc : (w.alloc (.cells #[.int .i64 k] 3)).cell? ⟨w.heap.size, 0, none⟩ = some (.int .i64 k) := by simp
  have hl : w.heap.size < (w.alloc (.cells #[.int .i64 k] 3)).heap.size := by simp
  have HC := Lib.hid (codeBy_own 51 #[.pointer (some ⟨w.heap.size, 0, none⟩)] n (ricR n k) (okRice n k) (w.alloc (.cells #[.int .i64 k] 3)) eg (fun h W hb => by
    obtain ⟨h1, h2⟩ := okN_iff.1 h
    have e : n = ((n.toNat : Nat) : Int) := by omega
    have := riceBox_own n.toNat k w.heap.size W (by omega) (by omega) ((hb.cell (p := ⟨w.heap.size, 0, none⟩) hl).trans hc)
    rw [← e] at this; exact this) (fun h => by
      have : okRice n k = false := by simp [okRice, h]
      exact ⟨by rw [ricR, this]; rfl, this⟩))
  clear hc hl
  go_enter Try.func17, Try.ntmps17
  go_wp2_with fail
  refine HC.out.mono ?_
  rintro e w1 ⟨rfl, k1⟩
  go_wp2_with fail
  go_ret2
  exact ⟨rfl, turn_trans KA.out k1 (by omega)⟩

end Go.Proofs.Ytlhipceepoenfaa
