/- Chapter 13: Delta and Rice codes taken from the front: the program's. -/
import Derived.Test.YtlhipceepoenfaaDoorNumT2
set_option linter.unusedSimpArgs false
set_option linter.unusedVariables false
namespace Go.Proofs.YtlhipceepoenfaaDoor
open Go.RowKit G294

set_option maxRecDepth 100000 in
set_option maxHeartbeats 2000000 in
theorem rDelta_own (S : Nat) (l : List UInt8) (w : World) (hs : RdrB w S l) (hl : l.length ≤ 1000000000) : Calls Tryd.prog 27 #[.pointer (some ⟨S, 0, none⟩)] w (RetTkR w S l (tkD l)) := by
  have HG := Lib.hid (rGamma_own S l w hs hl)
  have hml := dgR_le (l.drop (ldC 48 l)) (ldC 48 l + 1)
  rw [List.length_drop] at hml
  by_cases hok : rdB (l.drop (ldC 48 l)) (ldC 48 l + 1) 20 = true
  · obtain ⟨b, hb⟩ : ∃ b, rdN (l.drop (ldC 48 l)) (ldC 48 l + 1) = b := ⟨_, rfl⟩
    obtain ⟨m, hm⟩ : ∃ m, dgR (l.drop (ldC 48 l)) (ldC 48 l + 1) = m := ⟨_, rfl⟩
    have hbp := gam_pos hok
    rw [hb] at hbp
    have e1 : dgN (l.drop (ldC 48 l)) (ldC 48 l + 1) = b := (if_pos hok).trans hb
    have HTK := Lib.hid (fun n hn => del_tk hok hb hm n hn)
    rw [e1, hok, hm] at HG
    rw [hm] at hml
    have HML : Hid (m.length ≤ 1000000000) := Lib.hid (by omega)
    have HRL : Hid ((dgR m (b - 1)).length ≤ 1000000000000) := Lib.hid (by have := dgR_le m (b - 1); omega)
    obtain ⟨c, hc⟩ : ∃ c, c = b - 1 := ⟨_, rfl⟩
    rw [← hc] at HTK HRL
    have ic : (b : Int) - 1 = (c : Int) := by omega
    have hcb : c ≤ 2097152 := by omega
    have HD := Lib.hid (fun W (h : RdrB W S m) => digits_own S c m W h (by omega) (by omega))
    have HDN : Hid (rdB m c 20 = true → dgN m c = rdN m c ∧ c ≤ 20 ∧ rdN m c < 2 ^ 20) := Lib.hid (fun h => ⟨if_pos h, (rdB_iff.1 h).2.1, Nat.lt_of_lt_of_le (rdN_lt (rdB_iff.1 h).1) (Nat.pow_le_pow_right (by decide) (rdB_iff.1 h).2.1)⟩)
    clear hc hb hm e1 hok hml hbp
    by_cases h2 : rdB m c 20 = true
    · have HTK2 := Lib.hid (fun n h => HTK.out n (fun _ => h))
      obtain ⟨d1, d2, d3⟩ := HDN.out h2
      rw [d1, h2] at HD
      rw [h2] at HTK2
      have hpw : 2 ^ c ≤ 2 ^ 20 := Nat.pow_le_pow_right (by decide) d2
      have hp0 : 0 < 2 ^ c := Nat.two_pow_pos c
      clear HTK HDN h2 d1
      generalize hN : rdN m c = N at *
      generalize hR : dgR m c = R at *
      obtain ⟨p, hp⟩ : ∃ p, p = 2 ^ c := ⟨_, rfl⟩
      have ip : (2 : Int) ^ c = (p : Int) := by rw [hp]; simp
      rw [← hp] at hpw hp0 HTK2
      clear hN hR hp
      go_enter Tryd.func27, Tryd.ntmps27
      go_wp2_with fail
      refine HG.out.mono ?_
      rintro e w1 ⟨rfl, R1, k1⟩
      have HD1 := Lib.hid (HD.out w1 R1)
      clear R1
      go_wp2_with fail
      refine HD1.out.mono ?_
      rintro e w2 ⟨rfl, R2, k2⟩
      have HK := Lib.hid (turn_trans k1 k2 (by omega))
      have HR2 := Lib.hid R2
      clear k1 k2 R2
      go_wp2_with fail
      go_ret2
      exact ⟨_, _, _, rfl, HR2.out, HK.out, HTK2.out _ (by simp), HRL.out⟩
    · have h2f : rdB m c 20 = false := by simpa using h2
      have HTK2 := Lib.hid (fun n => HTK.out n (fun h => absurd h h2))
      have hdn : dgN m c = 0 := if_neg h2
      rw [hdn, h2f] at HD
      rw [h2f] at HTK2
      clear HTK HDN h2 hdn h2f
      generalize hR : dgR m c = R at *
      clear hR
      go_enter Tryd.func27, Tryd.ntmps27
      go_wp2_with fail
      refine HG.out.mono ?_
      rintro e w1 ⟨rfl, R1, k1⟩
      have HD1 := Lib.hid (HD.out w1 R1)
      clear R1
      go_wp2_with fail
      refine HD1.out.mono ?_
      rintro e w2 ⟨rfl, R2, k2⟩
      have HK := Lib.hid (turn_trans k1 k2 (by omega))
      have HR2 := Lib.hid R2
      clear k1 k2 R2
      go_wp2_with fail
      go_ret2
      exact ⟨_, _, _, rfl, HR2.out, HK.out, HTK2.out _, HRL.out⟩
  · have hokf : rdB (l.drop (ldC 48 l)) (ldC 48 l + 1) 20 = false := by simpa using hok
    have HN := Lib.hid (del_no1 hokf)
    rw [hokf] at HG
    have HML : Hid ((dgR (l.drop (ldC 48 l)) (ldC 48 l + 1)).length ≤ 1000000000000) := Lib.hid (by omega)
    clear hok hokf hml
    generalize dgR (l.drop (ldC 48 l)) (ldC 48 l + 1) = R at *
    generalize dgN (l.drop (ldC 48 l)) (ldC 48 l + 1) = N at *
    go_enter Tryd.func27, Tryd.ntmps27
    go_wp2_with fail
    refine HG.out.mono ?_
    rintro e w1 ⟨rfl, R1, k1⟩
    have HR1 := Lib.hid R1
    have HK := Lib.hid k1
    clear R1 k1
    go_wp2_with fail
    go_ret2
    exact ⟨_, _, _, rfl, HR1.out, HK.out, .inr ⟨.inl rfl, HN.out⟩, HML.out⟩

set_option maxRecDepth 100000 in
set_option maxHeartbeats 2000000 in
theorem rRice_own (S : Nat) (l : List UInt8) (k : Int) (w : World) (hs : RdrB w S l) (hl : l.length ≤ 1000000000) : Calls Tryd.prog 30 #[.pointer (some ⟨S, 0, none⟩), .int .i64 k] w (RetTkR w S l (tkRi l k)) := by
  have HP := Lib.hid (goodParameter_own k w)
  have HS := Lib.hid hs
  have hle := ldC_le 49 l
  by_cases hk : okK k = true
  · obtain ⟨hk0, hk1⟩ : 0 ≤ k ∧ k ≤ 10 := by simpa [okK] using hk
    obtain ⟨q, rfl⟩ : ∃ q : Nat, k = (q : Int) := ⟨k.toNat, by omega⟩
    have hq : q ≤ 10 := by omega
    have e1 : tkRi l q = tkR l q := by rw [tkRi, if_pos hk, Int.toNat_natCast]
    rw [hk] at HP
    rw [e1]
    have HR := Lib.hid (run_own S 49 l w (by decide) hs (by omega))
    have hml : (l.drop (ldC 49 l)).length ≤ 1000000000 := by rw [List.length_drop]; omega
    by_cases hb : ldC 49 l + 1 + q ≤ 2000
    · have HTK := Lib.hid (ric_tk hq hb)
      have HRL : Hid ((dgR (l.drop (ldC 49 l)) (q + 1)).length ≤ 1000000000000) := Lib.hid (by have := dgR_le (l.drop (ldC 49 l)) (q + 1); omega)
      obtain ⟨c, hc⟩ : ∃ c, c = q + 1 := ⟨_, rfl⟩
      rw [← hc] at HTK HRL
      have ic : 1 + (q : Int) = (c : Int) := by omega
      have HD := Lib.hid (fun W (h : RdrB W S (l.drop (ldC 49 l))) => digits_own S c (l.drop (ldC 49 l)) W h (by omega) (by omega))
      have hN : dgN (l.drop (ldC 49 l)) c < 2097152 := by
        unfold dgN; split
        · rename_i h
          have h3 := rdN_lt (rdB_iff.1 h).1
          have : 2 ^ c ≤ 2 ^ 20 := Nat.pow_le_pow_right (by decide) (by omega)
          omega
        · omega
      have hbi : ¬ (2000 : Int) < ((ldC 49 l : Nat) : Int) + 1 + (q : Int) := by omega
      have hcc : c ≤ 11 := by omega
      obtain ⟨p, hp⟩ : ∃ p, p = 2 ^ q := ⟨_, rfl⟩
      have hp1 : p ≤ 1024 := by rw [hp]; exact Nat.le_trans (Nat.pow_le_pow_right (by decide) hq) (by decide)
      have ip : (2 : Int) ^ q = (p : Int) := by rw [hp]; simp
      rw [← hp] at HTK
      clear hc hk e1 hml hp hk0 hk1
      generalize dgN (l.drop (ldC 49 l)) c = N at *
      generalize rdB (l.drop (ldC 49 l)) c 20 = B at *
      generalize dgR (l.drop (ldC 49 l)) c = R at *
      generalize l.drop (ldC 49 l) = m at *
      have hz2 : ldC 49 l ≤ 2000 := by omega
      generalize hzz : ldC 49 l = z at *
      have hpz : z * p ≤ 2000 * 1024 := Nat.mul_le_mul hz2 hp1
      obtain ⟨y, hy⟩ : ∃ y, y = z * p := ⟨_, rfl⟩
      have iy : (z : Int) * (p : Int) = (y : Int) := by rw [hy]; simp
      rw [← hy] at HTK hpz
      clear hy hzz
      go_enter Tryd.func30, Tryd.ntmps30
      go_wp2_with fail
      refine HP.out.mono ?_
      rintro e w0 ⟨rfl, rfl⟩
      go_wp2_with fail
      refine HR.out.mono ?_
      rintro e w1 ⟨rfl, R1, k1⟩
      have HD1 := Lib.hid (HD.out w1 R1)
      clear R1
      go_wp2_with fail
      refine HD1.out.mono ?_
      rintro e w2 ⟨rfl, R2, k2⟩
      have HK := Lib.hid (turn_trans k1 k2 (by omega))
      have HR2 := Lib.hid R2
      clear k1 k2 R2
      go_wp2_with fail
      go_ret2
      exact ⟨_, _, _, rfl, HR2.out, HK.out, by have := HTK.out; simpa using this, HRL.out⟩
    · have HN := Lib.hid (ric_long hb)
      have hbi : (2000 : Int) < ((ldC 49 l : Nat) : Int) + 1 + (q : Int) := by omega
      have HML : Hid ((l.drop (ldC 49 l)).length ≤ 1000000000000) := Lib.hid (by omega)
      clear hk e1 hml hk0 hk1
      generalize l.drop (ldC 49 l) = m at *
      have hz9 : ldC 49 l ≤ 1000000000 := by omega
      generalize hzz : ldC 49 l = z at *
      clear hzz
      go_enter Tryd.func30, Tryd.ntmps30
      go_wp2_with fail
      refine HP.out.mono ?_
      rintro e w0 ⟨rfl, rfl⟩
      go_wp2_with fail
      refine HR.out.mono ?_
      rintro e w1 ⟨rfl, R1, k1⟩
      have HR1 := Lib.hid R1
      have HK := Lib.hid k1
      clear R1 k1
      go_wp2_with fail
      go_ret2
      exact ⟨_, _, _, rfl, HR1.out, HK.out, .inr ⟨.inl rfl, HN.out⟩, HML.out⟩
  · have hkf : okK k = false := by simpa using hk
    have HN : Hid (tkRi l k = none) := Lib.hid (if_neg hk)
    rw [hkf] at HP
    clear hk hkf
    go_enter Tryd.func30, Tryd.ntmps30
    go_wp2_with fail
    refine HP.out.mono ?_
    rintro e w0 ⟨rfl, rfl⟩
    go_wp2_with fail
    go_ret2
    exact ⟨_, _, l, rfl, HS.out, turn_any (TurnIn.refl _) _ _, .inr ⟨.inl rfl, HN.out⟩, by omega⟩

set_option maxRecDepth 100000 in
set_option maxHeartbeats 2000000 in
theorem takeDelta_own (l : List UInt8) (w : World) (hl : l.length ≤ 1000000000) : Calls Tryd.prog 11 #[.string (str l)] w (RetTk w (tkD l)) := by
  have eg : ∀ args w, (callFunc 27 args).run Tryd.prog w = .ok (.enter 27 args) w := enters_of Tryd.func27 (by kernel_rfl) rfl
  have HC := Lib.hid (takenBy_own 27 #[] l (tkD l) w eg (fun W S _ hr _ => rDelta_own S l W hr hl) hl)
  go_enter Tryd.func11, Tryd.ntmps11
  go_wp2_with fail
  refine HC.out.mono ?_
  rintro e w1 ⟨rfl, k1⟩
  go_wp2_with fail
  go_ret3
  exact ⟨rfl, k1⟩

set_option maxRecDepth 100000 in
set_option maxHeartbeats 1000000 in
theorem takeRiceBox_own (S : Nat) (l : List UInt8) (k : Int) (B : Nat) (w : World) (hs : RdrB w S l) (hl : l.length ≤ 1000000000) (hc : w.cell? ⟨B, 0, none⟩ = some (.int .i64 k)) : Calls Tryd.prog 29 #[.pointer (some ⟨S, 0, none⟩), .pointer (some ⟨B, 0, none⟩)] w (RetTkR w S l (tkRi l k)) := by
  have HR := Lib.hid (rRice_own S l k w hs hl)
  clear hs
  go_enter Tryd.func29, Tryd.ntmps29
  go_wp2_with fail
  refine HR.out.mono ?_
  rintro e w1 ⟨n, ok, l', rfl, h1, h2, h3, h4⟩
  have H := Lib.hid (And.intro h1 (And.intro h2 (And.intro h3 h4)))
  clear h1 h2 h3 h4
  go_wp2_with fail
  go_ret2
  exact ⟨_, _, _, rfl, H.out.1, H.out.2.1, H.out.2.2.1, H.out.2.2.2⟩

set_option maxRecDepth 100000 in
set_option maxHeartbeats 2000000 in
theorem takeRice_own (l : List UInt8) (k : Int) (w : World) (hl : l.length ≤ 1000000000) : Calls Tryd.prog 13 #[.string (str l), .int .i64 k] w (RetTk w (tkRi l k)) := by
  have eg : ∀ args w, (callFunc 29 args).run Tryd.prog w = .ok (.enter 29 args) w := enters_of Tryd.func29 (by kernel_rfl) rfl
  have KA := Lib.hid (turn_alloc w (.cells #[.int .i64 k] 3))
  have hc : (w.alloc (.cells #[.int .i64 k] 3)).cell? ⟨w.heap.size, 0, none⟩ = some (.int .i64 k) := by simp
  have hlt : w.heap.size < (w.alloc (.cells #[.int .i64 k] 3)).heap.size := by simp
  have HC := Lib.hid (takenBy_own 29 #[.pointer (some ⟨w.heap.size, 0, none⟩)] l (tkRi l k) (w.alloc (.cells #[.int .i64 k] 3)) eg (fun W S hb hr _ => takeRiceBox_own S l k w.heap.size W hr hl ((hb.cell (p := ⟨w.heap.size, 0, none⟩) hlt).trans hc)) hl)
  clear hc hlt
  go_enter Tryd.func13, Tryd.ntmps13
  go_wp2_with fail
  refine HC.out.mono ?_
  rintro e w1 ⟨rfl, k1⟩
  go_wp2_with fail
  go_ret3
  exact ⟨rfl, turn_trans KA.out k1 (by omega)⟩

end Go.Proofs.YtlhipceepoenfaaDoor
