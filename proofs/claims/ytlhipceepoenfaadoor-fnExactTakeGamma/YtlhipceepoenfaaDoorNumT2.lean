/- Chapter 13: codes taken from the front: the program's. -/
import Derived.Test.YtlhipceepoenfaaDoorNumT
import Derived.Test.YtlhipceepoenfaaDoorFibMath
import Derived.OwnWalk
set_option linter.unusedSimpArgs false
set_option linter.unusedVariables false
namespace G294
open Go Go.RowKit
def tkA : Option (Nat × Nat) → Int
  | none => 0
  | some p => (p.1 : Int)
def tkB : Option (Nat × Nat) → Int
  | none => 0
  | some p => (p.2 : Int)
def tkO (o : Option (Nat × Nat)) : Bool := o.isSome
/-- what a method takes, against what is to be taken -/
def TkR (l : List UInt8) (o : Option (Nat × Nat)) (n : Int) (ok : Bool) (l' : List UInt8) : Prop :=
  (ok = true ∧ okN n = true ∧ o = some (n.toNat, l.length - l'.length) ∧ l'.length ≤ l.length) ∨ ((ok = false ∨ okN n = false) ∧ o = none)
def RetTkR (w : World) (S : Nat) (l : List UInt8) (o : Option (Nat × Nat)) (e : Ending) (w' : World) : Prop :=
  ∃ (n : Int) (ok : Bool) (l' : List UInt8), e = .returned (.tuple #[.int .i64 n, .bool ok]) ∧ RdrB w' S l' ∧ TurnIn S (S + 1) w w' ∧ TkR l o n ok l' ∧ l'.length ≤ 1000000000000
def TkAt (P : Program) (g : Nat) (lb : Array Value) (l : List UInt8) (o : Option (Nat × Nat)) (w : World) : Prop :=
  ∀ (W : World) (S : Nat), Below w.heap.size w W → RdrB W S l → w.heap.size ≤ S → Calls P g (#[.pointer (some ⟨S, 0, none⟩)] ++ lb) W (RetTkR W S l o)
def RetTk (w : World) (o : Option (Nat × Nat)) (e : Ending) (w' : World) : Prop := e = .returned (.tuple #[.int .i64 (tkA o), .int .i64 (tkB o), .bool (tkO o)]) ∧ TurnIn 0 0 w w'
theorem dgR_len {l : List UInt8} {c : Nat} (h : rdB l c 20 = true) : (dgR l c).length = l.length - c := by
  rw [dgR, if_pos (rdB_iff.1 h).1, List.length_drop]
theorem dgR_le (l : List UInt8) (c : Nat) : (dgR l c).length ≤ l.length := by
  unfold dgR; split
  · rw [List.length_drop]; omega
  · exact Nat.le_refl _
theorem first_not (c : UInt8) (hc : c ≠ 0) (l : List UInt8) : (l.drop (ldC c l)).getD 0 0 ≠ c := by
  rcases drop_ld c l with h | h
  · rw [List.drop_of_length_le (by omega)]
    intro e; exact hc (by simpa using e.symm)
  · exact h
theorem gam_tk (l : List UInt8) : TkR l (tkG l) (dgN (l.drop (ldC 48 l)) (ldC 48 l + 1) : Nat) (rdB (l.drop (ldC 48 l)) (ldC 48 l + 1) 20) (dgR (l.drop (ldC 48 l)) (ldC 48 l + 1)) := by
  have h0 := first_not 48 (by decide) l
  have hrd := rd_20 (l := l.drop (ldC 48 l)) (c := ldC 48 l + 1) (.inr h0)
  have hle := ldC_le 48 l
  by_cases h1 : rdB (l.drop (ldC 48 l)) (ldC 48 l + 1) 20 = true
  · have e1 : dgN (l.drop (ldC 48 l)) (ldC 48 l + 1) = rdN (l.drop (ldC 48 l)) (ldC 48 l + 1) := if_pos h1
    rw [e1]
    by_cases h2 : okN (rdN (l.drop (ldC 48 l)) (ldC 48 l + 1) : Nat) = true
    · left
      rw [h1, h2] at hrd
      have h3 : rdB (l.drop (ldC 48 l)) (ldC 48 l + 1) 30 = true := by
        cases h : rdB (l.drop (ldC 48 l)) (ldC 48 l + 1) 30 with
        | true => rfl
        | false => rw [h] at hrd; cases hrd
      have h4 := (rdB_iff.1 h1).1
      rw [List.length_drop] at h4
      refine ⟨h1, h2, ?_, by rw [dgR_len h1, List.length_drop]; omega⟩
      rw [tkG, if_pos ⟨h3, h2⟩, dgR_len h1, List.length_drop, Int.toNat_natCast]
      congr 2; omega
    · right
      refine ⟨.inr (by simpa using h2), ?_⟩
      rw [tkG, if_neg (fun h => h2 h.2)]
  · right
    refine ⟨.inl (by simpa using h1), ?_⟩
    have h1f : rdB (l.drop (ldC 48 l)) (ldC 48 l + 1) 20 = false := by simpa using h1
    rw [h1f] at hrd
    rw [tkG, if_neg (fun h => by rw [h.1, h.2] at hrd; cases hrd)]
/-- the number of digits that a Gamma code tells is at least one -/
theorem gam_pos {l : List UInt8} (h : rdB (l.drop (ldC 48 l)) (ldC 48 l + 1) 20 = true) : 1 ≤ rdN (l.drop (ldC 48 l)) (ldC 48 l + 1) ∧ rdN (l.drop (ldC 48 l)) (ldC 48 l + 1) < 2097152 := by
  obtain ⟨h1, h2, h3⟩ := rdB_iff.1 h
  have h4 := val_big h1 h3 (first_not 48 (by decide) l)
  have h5 := rdN_lt h1
  have h6 : 2 ^ (ldC 48 l + 1) ≤ 2 ^ 20 := Nat.pow_le_pow_right (by decide) h2
  have h7 : 0 < 2 ^ ldC 48 l := Nat.two_pow_pos _
  omega
theorem rdB_30 {l : List UInt8} {c : Nat} (h : c ≤ 20) : rdB l c 30 = rdB l c 20 := by
  unfold rdB
  have e1 : decide (c ≤ 30) = true := by simp; omega
  have e2 : decide (c ≤ 20) = true := by simpa using h
  rw [e1, e2]
/-- Delta: where the Gamma code or the digits fail -/
theorem del_no1 {l : List UInt8} (h : rdB (l.drop (ldC 48 l)) (ldC 48 l + 1) 20 = false) : tkD l = none := by
  rcases gam_tk l with h1 | h1
  · rw [h] at h1; cases h1.1
  · rw [tkD, h1.2]
theorem del_tk {l : List UInt8} {b : Nat} {m : List UInt8} (h : rdB (l.drop (ldC 48 l)) (ldC 48 l + 1) 20 = true) (hb : rdN (l.drop (ldC 48 l)) (ldC 48 l + 1) = b) (hm : dgR (l.drop (ldC 48 l)) (ldC 48 l + 1) = m) (n : Int)
    (hn : rdB m (b - 1) 20 = true → n = ((2 ^ (b - 1) + rdN m (b - 1) : Nat) : Int)) : TkR l (tkD l) n (rdB m (b - 1) 20) (dgR m (b - 1)) := by
  have h4 := (rdB_iff.1 h).1
  rw [List.length_drop] at h4
  have hle := ldC_le 48 l
  have hml : m = l.drop (2 * ldC 48 l + 1) := by
    rw [← hm, dgR, if_pos (rdB_iff.1 h).1, List.drop_drop]; congr 1; omega
  have hbp := gam_pos h
  rw [hb] at hbp
  have e1 : dgN (l.drop (ldC 48 l)) (ldC 48 l + 1) = b := (if_pos h).trans hb
  have hg := gam_tk l
  rw [e1, h, hm] at hg
  by_cases h1 : rdB m (b - 1) 20 = true
  · have hn1 := hn h1
    have h2 := (rdB_iff.1 h1).2.1
    have h3 := rdN_lt (rdB_iff.1 h1).1
    rcases hg with hg | hg
    · obtain ⟨_, g1, g2, g3⟩ := hg
      rw [Int.toNat_natCast] at g2
      have hml2 : l.length - m.length = 2 * ldC 48 l + 1 := by rw [hml, List.length_drop]; omega
      rw [hml2] at g2
      by_cases h5 : b ≤ 20
      · by_cases h6 : okN n = true
        · left
          have h7 : rdB m (b - 1) 30 = true := by rw [rdB_30 (by omega), h1]
          refine ⟨h1, h6, ?_, by rw [dgR_len h1]; omega⟩
          rw [tkD, g2]
          simp only
          rw [← hml]
          have e2 : ((rdN m (b - 1) + 2 ^ (b - 1) : Nat) : Int) = n := by rw [hn1]; omega
          rw [e2, if_pos ⟨h5, h7, h6⟩]
          have e3 : rdN m (b - 1) + 2 ^ (b - 1) = n.toNat := by omega
          rw [e3, dgR_len h1]
          have h8 := (rdB_iff.1 h1).1
          rw [hml, List.length_drop] at h8 ⊢
          congr 2; omega
        · right
          refine ⟨.inr (by simpa using h6), ?_⟩
          rw [tkD, g2]
          simp only
          rw [← hml, if_neg]
          rintro ⟨_, _, h7⟩
          apply h6
          have e2 : ((rdN m (b - 1) + 2 ^ (b - 1) : Nat) : Int) = n := by rw [hn1]; omega
          rw [← e2]; exact h7
      · right
        obtain rfl : b = 21 := by omega
        refine ⟨.inr ?_, ?_⟩
        · cases hk : okN n with
          | false => rfl
          | true => have := okN_iff.1 hk; omega
        · rw [tkD, g2]
          simp
    · obtain ⟨g1, g2⟩ := hg
      exfalso
      rcases g1 with g1 | g1
      · cases g1
      · have : okN (b : Int) = true := okN_iff.2 ⟨by omega, by omega⟩
        rw [this] at g1; cases g1
  · right
    refine ⟨.inl (by simpa using h1), ?_⟩
    rcases hg with hg | hg
    · obtain ⟨_, g1, g2, g3⟩ := hg
      rw [Int.toNat_natCast] at g2
      have hml2 : l.length - m.length = 2 * ldC 48 l + 1 := by rw [hml, List.length_drop]; omega
      rw [hml2] at g2
      rw [tkD, g2]
      simp only
      rw [← hml, if_neg]
      rintro ⟨h5, h7, _⟩
      rw [rdB_30 (by omega)] at h7
      exact h1 h7
    · rw [tkD, hg.2]
/-- Rice -/
def tkRi (l : List UInt8) (k : Int) : Option (Nat × Nat) := if okK k = true then tkR l k.toNat else none
theorem rd_head {m : List UInt8} {k : Nat} (hk : k ≤ 10) (h49 : m.getD 0 0 ≠ 49) : rdB m (k + 1) 20 = (decide (0 < m.length) && (decide (m.getD 0 0 = 48) && rdB (m.drop 1) k 30)) ∧ (rdB m (k + 1) 20 = true → rdN m (k + 1) = rdN (m.drop 1) k) := by
  cases m with
  | nil => simp [rdB]
  | cons x m =>
    have hx : x ≠ 49 := by simpa using h49
    have e1 : (k + 1 ≤ m.length + 1) = (k ≤ m.length) := by simp
    have e2 : isBitC x = decide (x = 48) := by
      by_cases h : x = 48
      · subst h; rfl
      · simp [isBitC, h, hx]
    have e3 : decide (k + 1 ≤ 20) = true := by simp; omega
    have e4 : decide (k ≤ 30) = true := by simp; omega
    constructor
    · simp only [rdB, List.length_cons, List.take_succ_cons, List.all_cons, List.drop_succ_cons, List.drop_zero, e1, e2, e3, e4, List.getD_cons_zero]
      by_cases h : x = 48 <;> by_cases h' : k ≤ m.length <;> simp [h, h']
    · intro h
      have hb := (rdB_iff.1 h).2.2
      rw [List.take_succ_cons, List.all_cons, e2, Bool.and_eq_true, decide_eq_true_eq] at hb
      rw [rdN, List.take_succ_cons, hb.1, valL_cons]
      have : bv 48 = 0 := by decide
      rw [this]; simp [rdN]
theorem ric_long {l : List UInt8} {k : Nat} (h : ¬ ldC 49 l + 1 + k ≤ 2000) : tkR l k = none := by
  rw [tkR, if_neg (fun h2 => h h2.2.2.1)]
theorem ric_tk {l : List UInt8} {k : Nat} (hk : k ≤ 10) (h : ldC 49 l + 1 + k ≤ 2000) : TkR l (tkR l k) ((ldC 49 l * 2 ^ k + dgN (l.drop (ldC 49 l)) (k + 1) + 1 : Nat)) (rdB (l.drop (ldC 49 l)) (k + 1) 20) (dgR (l.drop (ldC 49 l)) (k + 1)) := by
  have hle := ldC_le 49 l
  obtain ⟨r1, r2⟩ := rd_head hk (first_not 49 (by decide) l)
  have e0 : (l.drop (ldC 49 l)).getD 0 0 = l.getD (ldC 49 l) 0 := by
    rw [List.getD_eq_getElem?_getD, List.getElem?_drop, Nat.add_zero, ← List.getD_eq_getElem?_getD]
  have e1 : (l.drop (ldC 49 l)).drop 1 = l.drop (ldC 49 l + 1) := by rw [List.drop_drop]
  rw [e0, e1, List.length_drop] at r1
  rw [e1] at r2
  by_cases h1 : rdB (l.drop (ldC 49 l)) (k + 1) 20 = true
  · have hn : dgN (l.drop (ldC 49 l)) (k + 1) = rdN (l.drop (ldC 49 l + 1)) k := (if_pos h1).trans (r2 h1)
    rw [hn]
    have h2 := h1
    rw [r1, Bool.and_eq_true, Bool.and_eq_true, decide_eq_true_eq, decide_eq_true_eq] at h2
    have h4 := (rdB_iff.1 h1).1
    rw [List.length_drop] at h4
    by_cases h3 : okN ((ldC 49 l * 2 ^ k + rdN (l.drop (ldC 49 l + 1)) k + 1 : Nat)) = true
    · left
      refine ⟨h1, h3, ?_, by rw [dgR_len h1, List.length_drop]; omega⟩
      rw [tkR, if_pos ⟨by omega, h2.2.1, h, h2.2.2, h3⟩, dgR_len h1, List.length_drop, Int.toNat_natCast]
      congr 2; omega
    · right
      refine ⟨.inr (by simpa using h3), ?_⟩
      rw [tkR, if_neg (fun h5 => h3 h5.2.2.2.2)]
  · right
    refine ⟨.inl (by simpa using h1), ?_⟩
    rw [tkR, if_neg]
    rintro ⟨h5, h6, _, h7, _⟩
    apply h1
    rw [r1, h7, h6]
    simp; omega
end G294
namespace Go.Proofs.YtlhipceepoenfaaDoor
open Go.RowKit G294

set_option maxRecDepth 100000 in
set_option maxHeartbeats 2000000 in
theorem rGamma_own (S : Nat) (l : List UInt8) (w : World) (hs : RdrB w S l) (hl : l.length ≤ 1000000000) : Calls Tryd.prog 24 #[.pointer (some ⟨S, 0, none⟩)] w (RetRd w S (.tuple #[.int .i64 (dgN (l.drop (ldC 48 l)) (ldC 48 l + 1) : Nat), .bool (rdB (l.drop (ldC 48 l)) (ldC 48 l + 1) 20)]) (dgR (l.drop (ldC 48 l)) (ldC 48 l + 1))) := by
  have hle := ldC_le 48 l
  have HR := Lib.hid (run_own S 48 l w (by decide) hs (by omega))
  have HD := Lib.hid (fun W (h : RdrB W S (l.drop (ldC 48 l))) => digits_own S (ldC 48 l + 1) (l.drop (ldC 48 l)) W h (by rw [List.length_drop]; omega) (by omega))
  obtain ⟨c, hc⟩ : ∃ c, c = ldC 48 l + 1 := ⟨_, rfl⟩
  have ic : ((ldC 48 l : Nat) : Int) + 1 = (c : Int) := by omega
  rw [← hc] at HD ⊢
  generalize dgN (l.drop (ldC 48 l)) c = N at *
  generalize rdB (l.drop (ldC 48 l)) c 20 = B at *
  generalize dgR (l.drop (ldC 48 l)) c = R at *
  have hcc : c ≤ 1000000001 := by omega
  clear hc
  generalize l.drop (ldC 48 l) = m at *
  generalize ldC 48 l = z at *
  go_enter Tryd.func24, Tryd.ntmps24
  go_wp2_with fail
  refine HR.out.mono ?_
  rintro e w1 ⟨rfl, R1, k1⟩
  have HD1 := Lib.hid (HD.out w1 R1)
  clear R1
  go_wp2_with fail
  refine HD1.out.mono ?_
  rintro e w2 ⟨rfl, R2, k2⟩
  have HK := Lib.hid (turn_trans k1 k2 (by omega))
  have HR2 := Lib.hid R2
  clear k1 k2 R2
  go_wp2_with fail
  go_ret2
  exact ⟨rfl, HR2.out, HK.out⟩

set_option maxRecDepth 100000 in
set_option maxHeartbeats 2000000 in
theorem takenBy_own (g : Nat) (lb : Array Value) (l : List UInt8) (o : Option (Nat × Nat)) (w : World) (eg : ∀ args w, (callFunc g args).run Tryd.prog w = .ok (.enter g args) w) (hat : TkAt Tryd.prog g lb l o w) (hl : l.length ≤ 1000000000) :
    Calls Tryd.prog 23 #[.func (.func g) #[] lb, .string (str l)] w (RetTk w o) := by
  have KA := Lib.hid (turn_alloc w (.cells #[.string (str l)] 54))
  have hlt : w.heap.size < (w.alloc (.cells #[.string (str l)] 54)).heap.size := by simp
  have R0 : RdrB (w.alloc (.cells #[.string (str l)] 54)) w.heap.size l := ⟨hlt, by simp, by simp⟩
  have HT := Lib.hid (hat (w.alloc (.cells #[.string (str l)] 54)) w.heap.size KA.out.to_below R0 (Nat.le_refl _))
  have hz1 : (str l).size = l.length := str_size _
  clear R0 hlt hat
  go_enter Tryd.func23, Tryd.ntmps23
  go_wp2_with (go_at_fn g; refine HT.out.mono ?_)
  rintro e w1 ⟨n, ok, l', rfl, R1, k1, htk, hll⟩
  have HK := Lib.hid (turn_trans KA.out k1 (.inr (.inl (Nat.le_refl _))))
  have HG := Lib.hid (goodNumber_own n w1)
  have hc1 := R1.cell
  have hz2 : (str l').size = l'.length := str_size _
  have HTK := Lib.hid htk
  clear k1 KA HT R1 htk
  cases ok with
  | false =>
    have HO : Hid (o = none) := Lib.hid (by
      rcases HTK.out with h | h
      · cases h.1
      · exact h.2)
    have ho := HO.out
    subst ho
    clear HO
    go_wp2_with fail
    go_ret3
    exact ⟨rfl, HK.out⟩
  | true =>
    by_cases hk : okN n = true
    · have HO : Hid (o = some (n.toNat, l.length - l'.length) ∧ l'.length ≤ l.length ∧ n = (n.toNat : Int)) := Lib.hid (by
        have := okN_iff.1 hk
        rcases HTK.out with h | h
        · exact ⟨h.2.2.1, h.2.2.2, by omega⟩
        · rcases h.1 with h1 | h1
          · cases h1
          · rw [hk] at h1; cases h1)
      rw [hk] at HG
      obtain ⟨ho, hle, hnn⟩ := HO.out
      subst ho
      have HNN := Lib.hid hnn
      clear HO hnn
      generalize l.length = a at *
      generalize l'.length = b at *
      have iab : (a : Int) - (b : Int) = ((a - b : Nat) : Int) := by omega
      clear hk
      go_wp2_with fail
      refine HG.out.mono ?_
      rintro e w2 ⟨rfl, rfl⟩
      go_wp2_with fail
      go_quiet (fail)
      go_wp2_with fail
      go_ret3
      exact ⟨by show _ = Ending.returned (Value.tuple #[Value.int IntKind.i64 ((n.toNat : Nat) : Int), _, _]); rw [← HNN.out]; rfl, by first | exact HK.out | exact turn_trans HK.out (TurnIn.of_below (below_drewN (Below.refl _ _) _)) (by omega)⟩
    · have hkf : okN n = false := by simpa using hk
      have HO : Hid (o = none) := Lib.hid (by
        rcases HTK.out with h | h
        · exact absurd h.2.1 hk
        · exact h.2)
      rw [hkf] at HG
      have ho := HO.out
      subst ho
      clear hk hkf HO
      go_wp2_with fail
      refine HG.out.mono ?_
      rintro e w2 ⟨rfl, rfl⟩
      go_wp2_with fail
      go_ret3
      exact ⟨rfl, HK.out⟩

set_option maxRecDepth 100000 in
set_option maxHeartbeats 2000000 in
theorem takeGamma_own (l : List UInt8) (w : World) (hl : l.length ≤ 1000000000) : Calls Tryd.prog 9 #[.string (str l)] w (RetTk w (tkG l)) := by
  have eg : ∀ args w, (callFunc 24 args).run Tryd.prog w = .ok (.enter 24 args) w := enters_of Tryd.func24 (by kernel_rfl) rfl
  have HC := Lib.hid (takenBy_own 24 #[] l (tkG l) w eg (fun W S _ hr _ => (rGamma_own S l W hr hl).mono (by
    rintro e w' ⟨rfl, h1, h2⟩
    exact ⟨_, _, _, rfl, h1, h2, gam_tk l, by have := dgR_le (l.drop (ldC 48 l)) (ldC 48 l + 1); rw [List.length_drop] at this; omega⟩)) hl)
  go_enter Tryd.func9, Tryd.ntmps9
  go_wp2_with fail
  refine HC.out.mono ?_
  rintro e w1 ⟨rfl, k1⟩
  go_wp2_with fail
  go_ret3
  exact ⟨rfl, k1⟩

end Go.Proofs.YtlhipceepoenfaaDoor
