/- Chapter 11: the merge of two sorted blocks in place. -/
import Derived.Test.YtbfchebnooanjaaStbIns
import Derived.Deep.CutRange
set_option linter.unusedSimpArgs false
set_option linter.unusedVariables false
namespace G294
open Go Go.RowKit
/-- the second half of a merge meets what the first half left -/
theorem two_after {R : Nat → Nat → Prop} {f1 f2 : Nat → Nat} {a mid e b : Nat} (h : Two R f1 mid e b) (hs : Srt R f1 f2 a mid) : Two R f2 mid e b :=
  ⟨h.am, h.mb, fun p q h1 h2 h3 => by rw [hs.out p (.inr h1), hs.out q (.inr (by omega))]; exact h.left p q h1 h2 h3,
    fun p q h1 h2 h3 => by have := h.am; rw [hs.out p (.inr (by omega)), hs.out q (.inr (by omega))]; exact h.right p q h1 h2 h3,
    fun p q h1 h2 h3 h4 => by have := h.am; rw [hs.out p (.inr h1), hs.out q (.inr (by omega))]; exact h.less p q h1 h2 h3 h4⟩
theorem srt_after {R : Nat → Nat → Prop} {f1 f2 : Nat → Nat} {a mid b : Nat} (h : ∀ p q, mid ≤ p → p < q → q < b → R (f1 p) (f1 q)) (hs : Srt R f1 f2 a mid) : Srt R f2 f2 mid b :=
  Srt.triv fun p q h1 h2 h3 => by rw [hs.out p (.inr h1), hs.out q (.inr (by omega))]; exact h p q h1 h2 h3
theorem srt_lts {N n : Nat} {R : Nat → Nat → Prop} {f f' : Nat → Nat} {a b : Nat} (hn : ∀ p, p < N → f p < n) (hb : b ≤ N) (h : Srt R f f' a b) : ∀ p, p < N → f' p < n := fun p hp => by
  by_cases x : a ≤ p ∧ p < b
  · obtain ⟨q, h1, h2, h3⟩ := h.src p x.1 x.2
    rw [h3]; exact hn q (by omega)
  · rw [h.out p (by omega)]; exact hn p hp
end G294
namespace Go.Proofs.Ytbfchebnooanjaa
open Go.RowKit G294

def SymAt (B N cp n g : Nat) (lb : Array Value) (s : List UInt8) (d : Nat) : Prop :=
  ∀ (a m b : Nat) (f0 : Nat → Nat) (w : World), b - a ≤ d → OwnInts 3 w B (B + 1) (.slice (some ⟨B, 0, none⟩) N cp) (lstF N f0) → CmpAt Try.prog g lb B n s w → Two (bef s) f0 a m b → b ≤ N → (∀ p, p < N → f0 p < n) →
    Calls Try.prog 66 #[.slice (some ⟨B, 0, none⟩) N cp, .int .i64 a, .int .i64 m, .int .i64 b, .func (.func g) #[] lb] w fun e w' => e = .returned (.tuple #[]) ∧ ∃ f, RowF 3 w w' B N cp f ∧ Srt (bef s) f0 f a b

set_option maxRecDepth 100000 in
set_option maxHeartbeats 4000000 in
theorem symLeft (B N cp n a m b g : Nat) (lb : Array Value) (s : List UInt8) (f0 : Nat → Nat) (w : World) (hr : OwnInts 3 w B (B + 1) (.slice (some ⟨B, 0, none⟩) N cp) (lstF N f0))
    (eg : ∀ args w, (callFunc g args).run Try.prog w = .ok (.enter g args) w) (hc : CmpAt Try.prog g lb B n s w) (h2 : Two (bef s) f0 a m b) (hbN : b ≤ N) (hN : N ≤ 1000) (hn : ∀ p, p < N → f0 p < n) (hm : m = a + 1) :
    Calls Try.prog 66 #[.slice (some ⟨B, 0, none⟩) N cp, .int .i64 a, .int .i64 m, .int .i64 b, .func (.func g) #[] lb] w fun e w' => e = .returned (.tuple #[]) ∧ ∃ f, RowF 3 w w' B N cp f ∧ Srt (bef s) f0 f a b := by
  have HR0 := Lib.hid (RowF.start hr)
  have HC0 := Lib.hid hc
  have HT := Lib.hid h2
  have HN := Lib.hid hn
  have hmb := h2.mb
  have e1 : (m : Int) - (a : Int) = 1 := by omega
  have ham : a < m := by omega
  have HM := Lib.hid hm
  clear hr hc h2 hn hm
  go_enter Try.func66, Try.ntmps66
  go_wp2_with fail
  go_loopw [10, 11] (fun x y wr => ∃ i j : Nat, m ≤ i ∧ i ≤ j ∧ j ≤ b ∧ x = .int .i64 i ∧ y = .int .i64 j ∧ Hid (RowF 3 w wr B N cp f0) ∧ Hid ((m < i → bef s (f0 (i - 1)) (f0 a)) ∧ (j < b → bef s (f0 a) (f0 j))))
    (fun x y _ => (intOf y).toNat - (intOf x).toNat)
  case atStart => exact ⟨m, b, Nat.le_refl _, by omega, Nat.le_refl _, rfl, rfl, HR0, Lib.hid ⟨fun h => by omega, fun h => by omega⟩⟩
  case round =>
    obtain ⟨i, j, hmi, hij, hjb, rfl, rfl, HR, HB⟩ := hrel
    clear HR0
    by_cases hlt : i < j
    · have hki : (i : Int) < (j : Int) := by omega
      obtain ⟨h, hh1, hh2, eh⟩ : ∃ h : Nat, i ≤ h ∧ h < j ∧ ((i : Int) + (j : Int)) / 2 = (h : Int) := ⟨(i + j) / 2, by omega, by omega, by omega⟩
      have c1 := HR.out.cell (show h < N by omega)
      have c2 := HR.out.cell (show a < N by omega)
      have HLT : Hid (f0 a < f0 h) := Lib.hid (HT.out.less a h (Nat.le_refl _) (by omega) (by omega) (by omega))
      have HC := Lib.hid (fun k => HC0.out (wr.drewN k) (f0 h) (f0 a) (turn_trans HR.out.turn (turn_drewN wr k) (by omega)) (HN.out _ (by omega)) (HN.out _ (by omega)))
      have HD : Hid (cmpZ s (f0 h) (f0 a) < 0 → bef s (f0 h) (f0 a)) := fun h => (bef_back HLT.out).2 ((cmpZ_lt _ _ _).1 h)
      have HE : Hid (¬ cmpZ s (f0 h) (f0 a) < 0 → bef s (f0 a) (f0 h)) := fun h => (bef_fore HLT.out).2 (cmpZ_ge h)
      have HRQ := Lib.hid (fun k => HR.out.drewN k)
      generalize cmpZ s (f0 h) (f0 a) = z at *
      clear HR HLT
      by_cases hz : z < 0
      · have HB2 : Hid ((m < h + 1 → bef s (f0 (h + 1 - 1)) (f0 a)) ∧ (j < b → bef s (f0 a) (f0 j))) := Lib.hid ⟨fun _ => HD.out hz, HB.out.2⟩
        clear HD HE HB
        go_wp2_with fail
        go_quiet ((go_at_fn g; exact quietC (HC.out _)))
        go_wp2_with fail
        go_roundw
        case rel => exact ⟨h + 1, j, by omega, by omega, hjb, by go_num, rfl, HRQ.out _, HB2⟩
        case measure => simp [intOf]; omega
      · have HB2 : Hid ((m < i → bef s (f0 (i - 1)) (f0 a)) ∧ (h < b → bef s (f0 a) (f0 h))) := Lib.hid ⟨HB.out.1, fun _ => HE.out hz⟩
        clear HD HE HB
        go_wp2_with fail
        go_quiet ((go_at_fn g; exact quietC (HC.out _)))
        go_wp2_with fail
        go_roundw
        case rel => exact ⟨i, h, hmi, hh1, by omega, rfl, rfl, HRQ.out _, HB2⟩
        case measure => simp [intOf]; omega
    · obtain rfl : i = j := by omega
      have hki : ¬ (i : Int) < (i : Int) := by omega
      have HS : Hid (Srt (bef s) f0 (shlF f0 a (i - 1)) a b) := by
        refine Srt.left bef_trans (fun p q h1 h2 h3 => HT.out.right p q (by rw [HM.out]; exact h1) h2 h3) (by have := HM.out; omega) hjb (fun h => HB.out.1 (by rw [HM.out]; exact h)) HB.out.2
      obtain ⟨i1, rfl⟩ : ∃ i1, i = i1 + 1 := ⟨i - 1, by omega⟩
      rw [Nat.add_sub_cancel] at HS
      have HRO : Hid (RowF 3 w wr B N cp (shlF f0 a a)) := Lib.hid (HR.out.congr (shlF_zero f0 a).symm)
      clear HR HB hlt hki
      go_wp2_with fail
      go_loopw [13] (fun x wr => ∃ k : Nat, a ≤ k ∧ k ≤ i1 ∧ x = .int .i64 k ∧ Hid (RowF 3 w wr B N cp (shlF f0 a k))) (fun x _ => i1 - (intOf x).toNat)
      case atStart => exact ⟨a, Nat.le_refl _, by omega, rfl, HRO⟩
      case round =>
        clear HRO
        obtain ⟨k, hak, hki, rfl, HR⟩ := hrel
        by_cases hlt : k < i1
        · have hkl : (k : Int) < (i1 : Int) := by omega
          have c1 := HR.out.cell (show k < N by omega)
          have c2 := HR.out.cell (show k + 1 < N by omega)
          have f1 := HR.out.frozen k
          have f2 := HR.out.frozen (k + 1)
          have HSW := Lib.hid ((HR.out.swap k (k + 1)).congr (shlF_succ f0 a k hak))
          generalize shlF f0 a k k = vx at *
          generalize shlF f0 a k (k + 1) = vy at *
          clear HR
          go_wp2_with fail
          go_region
          go_wp2_with fail
          go_roundw
          case rel => exact ⟨k + 1, by omega, by omega, by go_num, Lib.hid (HSW.out.drewN 1)⟩
          case measure => simp [intOf]; omega
        · obtain rfl : k = i1 := by omega
          have hkl : ¬ (k : Int) < (k : Int) := by omega
          go_wp2_with fail
          try simp only [Exit.inBlock, Exit.then]
          refine bodyPost_ret (results_none rfl _ _ _) rfl ?_
          exact ⟨rfl, _, HR.out, HS.out⟩

set_option maxRecDepth 100000 in
set_option maxHeartbeats 4000000 in
theorem symRight (B N cp n a m b g : Nat) (lb : Array Value) (s : List UInt8) (f0 : Nat → Nat) (w : World) (hr : OwnInts 3 w B (B + 1) (.slice (some ⟨B, 0, none⟩) N cp) (lstF N f0))
    (eg : ∀ args w, (callFunc g args).run Try.prog w = .ok (.enter g args) w) (hc : CmpAt Try.prog g lb B n s w) (h2 : Two (bef s) f0 a m b) (hbN : b ≤ N) (hN : N ≤ 1000) (hn : ∀ p, p < N → f0 p < n) (hm : m ≠ a + 1) (hb : b = m + 1) :
    Calls Try.prog 66 #[.slice (some ⟨B, 0, none⟩) N cp, .int .i64 a, .int .i64 m, .int .i64 b, .func (.func g) #[] lb] w fun e w' => e = .returned (.tuple #[]) ∧ ∃ f, RowF 3 w w' B N cp f ∧ Srt (bef s) f0 f a b := by
  have HR0 := Lib.hid (RowF.start hr)
  have HC0 := Lib.hid hc
  have HT := Lib.hid h2
  have HN := Lib.hid hn
  have ham := h2.am
  obtain ⟨ma, hma⟩ : ∃ ma, ma = m - a := ⟨_, rfl⟩
  have e1 : (m : Int) - (a : Int) = (ma : Int) := by omega
  have hmb : ((ma : Int) == 1) = false := by simp; omega
  have e2 : (b : Int) - (m : Int) = 1 := by omega
  have HM := Lib.hid hb
  have hmN : m < N := by omega
  clear hr hc h2 hn hm hma hb
  go_enter Try.func66, Try.ntmps66
  go_wp2_with fail
  go_loopw [14, 15] (fun x y wr => ∃ i j : Nat, a ≤ i ∧ i ≤ j ∧ j ≤ m ∧ x = .int .i64 i ∧ y = .int .i64 j ∧ Hid (RowF 3 w wr B N cp f0) ∧ Hid ((a < i → bef s (f0 (i - 1)) (f0 m)) ∧ (j < m → bef s (f0 m) (f0 j))))
    (fun x y _ => (intOf y).toNat - (intOf x).toNat)
  case atStart => exact ⟨a, m, Nat.le_refl _, by omega, Nat.le_refl _, rfl, rfl, HR0, Lib.hid ⟨fun h => by omega, fun h => by omega⟩⟩
  case round =>
    obtain ⟨i, j, hmi, hij, hjb, rfl, rfl, HR, HB⟩ := hrel
    clear HR0
    by_cases hlt : i < j
    · have hki : (i : Int) < (j : Int) := by omega
      obtain ⟨h, hh1, hh2, eh⟩ : ∃ h : Nat, i ≤ h ∧ h < j ∧ ((i : Int) + (j : Int)) / 2 = (h : Int) := ⟨(i + j) / 2, by omega, by omega, by omega⟩
      have c1 := HR.out.cell (show m < N by omega)
      have c2 := HR.out.cell (show h < N by omega)
      have HLT : Hid (f0 h < f0 m) := Lib.hid (HT.out.less h m (by omega) (by omega) (Nat.le_refl _) (by rw [HM.out]; omega))
      have HC := Lib.hid (fun k => HC0.out (wr.drewN k) (f0 m) (f0 h) (turn_trans HR.out.turn (turn_drewN wr k) (by omega)) (HN.out _ (by omega)) (HN.out _ (by omega)))
      have HD : Hid (cmpZ s (f0 m) (f0 h) < 0 → bef s (f0 m) (f0 h)) := fun h => (bef_back HLT.out).2 ((cmpZ_lt _ _ _).1 h)
      have HE : Hid (¬ cmpZ s (f0 m) (f0 h) < 0 → bef s (f0 h) (f0 m)) := fun h => (bef_fore HLT.out).2 (cmpZ_ge h)
      have HRQ := Lib.hid (fun k => HR.out.drewN k)
      generalize cmpZ s (f0 m) (f0 h) = z at *
      clear HR HLT
      by_cases hz : z < 0
      · have HB2 : Hid ((a < i → bef s (f0 (i - 1)) (f0 m)) ∧ (h < m → bef s (f0 m) (f0 h))) := Lib.hid ⟨HB.out.1, fun _ => HD.out hz⟩
        clear HD HE HB
        have hzb : decide (z < 0) = true := decide_eq_true hz
        go_wp2_with fail
        go_quiet ((go_at_fn g; exact quietC (HC.out _)))
        go_wp2_with fail
        go_roundw
        case rel => exact ⟨i, h, hmi, hh1, by omega, rfl, rfl, HRQ.out _, HB2⟩
        case measure => simp [intOf]; omega
      · have HB2 : Hid ((a < h + 1 → bef s (f0 (h + 1 - 1)) (f0 m)) ∧ (j < m → bef s (f0 m) (f0 j))) := Lib.hid ⟨fun _ => HE.out hz, HB.out.2⟩
        clear HD HE HB
        have hzb : decide (z < 0) = false := decide_eq_false hz
        go_wp2_with fail
        go_quiet ((go_at_fn g; exact quietC (HC.out _)))
        go_wp2_with fail
        go_roundw
        case rel => exact ⟨h + 1, j, by omega, by omega, hjb, by go_num, rfl, HRQ.out _, HB2⟩
        case measure => simp [intOf]; omega
    · obtain rfl : i = j := by omega
      have hki : ¬ (i : Int) < (i : Int) := by omega
      have HS : Hid (Srt (bef s) f0 (shrF f0 i m) a b) := by
        show Srt _ _ _ _ _
        rw [HM.out]
        exact Srt.right bef_trans HT.out.left hmi hjb HB.out.1 HB.out.2
      have HRO : Hid (RowF 3 w wr B N cp (shrF f0 m m)) := Lib.hid (HR.out.congr (shrF_zero f0 m).symm)
      clear HR HB hlt hki
      go_wp2_with fail
      go_loopw [17] (fun x wr => ∃ k : Nat, i ≤ k ∧ k ≤ m ∧ x = .int .i64 k ∧ Hid (RowF 3 w wr B N cp (shrF f0 k m))) (fun x _ => (intOf x).toNat)
      case atStart => exact ⟨m, hjb, Nat.le_refl _, rfl, HRO⟩
      case round =>
        clear HRO
        obtain ⟨k, hik, hkm, rfl, HR⟩ := hrel
        by_cases hlt : i < k
        · obtain ⟨q, rfl⟩ : ∃ q, k = q + 1 := ⟨k - 1, by omega⟩
          have hkl : (i : Int) < (q : Int) + 1 := by omega
          have c1 := HR.out.cell (show q + 1 < N by omega)
          have c2 := HR.out.cell (show q < N by omega)
          have f1 := HR.out.frozen (q + 1)
          have f2 := HR.out.frozen q
          have HSW := Lib.hid ((HR.out.swap (q + 1) q).congr (shrF_succ f0 q m (by omega)))
          generalize shrF f0 (q + 1) m (q + 1) = vx at *
          generalize shrF f0 (q + 1) m q = vy at *
          clear HR
          go_wp2_with fail
          go_region
          go_wp2_with fail
          go_roundw
          case rel => exact ⟨q, by omega, by omega, by go_num, Lib.hid (HSW.out.drewN 1)⟩
          case measure => simp [intOf] <;> omega
        · obtain rfl : k = i := by omega
          have hkl : ¬ (k : Int) < (k : Int) := by omega
          go_wp2_with fail
          try simp only [Exit.inBlock, Exit.then]
          refine bodyPost_ret (results_none rfl _ _ _) rfl ?_
          exact ⟨rfl, _, HR.out, HS.out⟩

set_option maxRecDepth 100000 in
set_option maxHeartbeats 4000000 in
theorem symMain (B N cp n a m b g d : Nat) (lb : Array Value) (s : List UInt8) (f0 : Nat → Nat) (w : World) (hr : OwnInts 3 w B (B + 1) (.slice (some ⟨B, 0, none⟩) N cp) (lstF N f0))
    (eg : ∀ args w, (callFunc g args).run Try.prog w = .ok (.enter g args) w) (hc : CmpAt Try.prog g lb B n s w) (h2 : Two (bef s) f0 a m b) (hbN : b ≤ N) (hN : N ≤ 1000) (hn : ∀ p, p < N → f0 p < n) (hm : m ≠ a + 1) (hb : b ≠ m + 1) (hd : b - a ≤ d + 1) (ih : SymAt B N cp n g lb s d) :
    Calls Try.prog 66 #[.slice (some ⟨B, 0, none⟩) N cp, .int .i64 a, .int .i64 m, .int .i64 b, .func (.func g) #[] lb] w fun e w' => e = .returned (.tuple #[]) ∧ ∃ f, RowF 3 w w' B N cp f ∧ Srt (bef s) f0 f a b := by
  have HR0 := Lib.hid (RowF.start hr)
  have HC0 := Lib.hid hc
  have HT := Lib.hid h2
  have HN := Lib.hid hn
  have ham := h2.am
  have hmb := h2.mb
  obtain ⟨ma, hma⟩ : ∃ ma, ma = m - a := ⟨_, rfl⟩
  have e1 : (m : Int) - (a : Int) = (ma : Int) := by omega
  have hb1 : ((ma : Int) == 1) = false := by simp; omega
  obtain ⟨bm, hbm⟩ : ∃ bm, bm = b - m := ⟨_, rfl⟩
  have e2 : (b : Int) - (m : Int) = (bm : Int) := by omega
  have hb2 : ((bm : Int) == 1) = false := by simp; omega
  obtain ⟨mid, hmid1, hmid2, e3⟩ : ∃ mid : Nat, 2 * mid ≤ a + b ∧ a + b ≤ 2 * mid + 1 ∧ ((a : Int) + (b : Int)) / 2 = (mid : Int) := ⟨(a + b) / 2, by omega, by omega, by omega⟩
  obtain ⟨nn, hnn1, hnn2⟩ : ∃ nn, nn ≤ mid + m ∧ mid + m ≤ nn := ⟨_, Nat.le_refl _, Nat.le_refl _⟩
  have e4 : (mid : Int) + (m : Int) = (nn : Int) := by omega
  obtain ⟨p, hp1, hp2⟩ : ∃ p, p + 1 ≤ nn ∧ nn ≤ p + 1 := ⟨nn - 1, by omega, by omega⟩
  have e5 : (nn : Int) - 1 = (p : Int) := by omega
  have HIH := Lib.hid ih
  have HRR := Lib.hid (fun st e f W hr h1 h2 h3 => rotate_own B N cp st m e f (.func (.func g) #[] lb) W hr h1 h2 h3 hN)
  have HL := Lib.hid hd
  clear hr hc h2 hn hm hb hma hbm ih
  have HL0 : Hid (∀ st0 r0, ((mid < m ∧ st0 + b = nn ∧ r0 = mid) ∨ (m ≤ mid ∧ st0 = a ∧ r0 = m)) → a ≤ st0 ∧ nn ≤ st0 + b ∧ st0 ≤ r0 ∧ r0 ≤ m ∧ r0 ≤ mid ∧
      (a < st0 → nn < st0 + b → bef s (f0 (st0 - 1)) (f0 (nn - st0))) ∧ (r0 < m → r0 < mid → bef s (f0 (nn - 1 - r0)) (f0 r0))) := fun st0 r0 h => by
    refine ⟨by omega, by omega, by omega, by omega, by omega, fun _ _ => by omega, fun _ _ => by omega⟩
  go_enter Try.func66, Try.ntmps66
  obtain ⟨st0, r0, hst, HST⟩ : ∃ st0 r0 : Nat, ((mid < m ∧ st0 + b = nn ∧ r0 = mid) ∨ (m ≤ mid ∧ st0 = a ∧ r0 = m)) ∧ Hid (a ≤ st0 ∧ nn ≤ st0 + b ∧ st0 ≤ r0 ∧ r0 ≤ m ∧ r0 ≤ mid ∧
      (a < st0 → nn < st0 + b → bef s (f0 (st0 - 1)) (f0 (nn - st0))) ∧ (r0 < m → r0 < mid → bef s (f0 (nn - 1 - r0)) (f0 r0))) := by
    by_cases h : mid < m
    · exact ⟨nn - b, mid, .inl ⟨h, by omega, rfl⟩, Lib.hid (HL0.out _ _ (.inl ⟨h, by omega, rfl⟩))⟩
    · exact ⟨a, m, .inr ⟨by omega, rfl, rfl⟩, Lib.hid (HL0.out _ _ (.inr ⟨by omega, rfl, rfl⟩))⟩
  clear HL0
  go_upto_if 140 with fail
  go_cut [20, 21] from 140 to 146 (fun x y wx => x = .int .i64 st0 ∧ y = .int .i64 r0 ∧ wx = w)
  case first =>
    rcases hst with ⟨h1, h2, h3⟩ | ⟨h1, h2, h3⟩
    · have h1i : (mid : Int) < (m : Int) := by omega
      have e6 : (nn : Int) - (b : Int) = (st0 : Int) := by omega
      have H3 := Lib.hid h3
      clear h3
      go_wp2_with fail
      go_meet
      exact ⟨rfl, by rw [H3.out], rfl⟩
    · have h1i : ¬ (mid : Int) < (m : Int) := by omega
      have H2 := Lib.hid h2
      have H3 := Lib.hid h3
      clear h2 h3
      go_wp2_with fail
      go_meet
      exact ⟨by rw [H2.out], by rw [H3.out], rfl⟩
  case rest =>
  obtain ⟨rfl, rfl, rfl⟩ := hcut
  clear hst
  go_wp2_with fail
  go_loopw [20, 21] (fun x y wr => ∃ st r : Nat, x = .int .i64 st ∧ y = .int .i64 r ∧ Hid (RowF 3 wc wr B N cp f0) ∧ Hid (a ≤ st ∧ nn ≤ st + b ∧ st ≤ r ∧ r ≤ m ∧ r ≤ mid ∧
      (a < st → nn < st + b → bef s (f0 (st - 1)) (f0 (nn - st))) ∧ (r < m → r < mid → bef s (f0 (nn - 1 - r)) (f0 r))))
    (fun x y _ => (intOf y).toNat - (intOf x).toNat)
  case atStart => exact ⟨st0, r0, rfl, rfl, HR0, HST⟩
  case round =>
    clear HR0 HST
    obtain ⟨st, r, rfl, rfl, HR, HB⟩ := hrel
    obtain ⟨g1, g2, g3, g4, g5, g6, g7⟩ := HB.out
    have HG6 := Lib.hid g6
    have HG7 := Lib.hid g7
    clear g6 g7 HB
    by_cases hlt : st < r
    · have hki : (st : Int) < (r : Int) := by omega
      obtain ⟨c, hh1, hh2, eh⟩ : ∃ c : Nat, st ≤ c ∧ c < r ∧ ((st : Int) + (r : Int)) / 2 = (c : Int) := ⟨(st + r) / 2, by omega, by omega, by omega⟩
      obtain ⟨pc, hpc1, hpc2⟩ : ∃ pc, pc + 1 + c ≤ nn ∧ nn ≤ pc + 1 + c := ⟨nn - 1 - c, by omega, by omega⟩
      have e6 : (p : Int) - (c : Int) = (pc : Int) := by omega
      have c1 := HR.out.cell (show pc < N by omega)
      have c2 := HR.out.cell (show c < N by omega)
      have HLT : Hid (f0 c < f0 pc) := Lib.hid (HT.out.less c pc (by omega) (by omega) (by omega) (by omega))
      have HC := Lib.hid (fun k => HC0.out (wr.drewN k) (f0 pc) (f0 c) (turn_trans HR.out.turn (turn_drewN wr k) (by omega)) (HN.out _ (by omega)) (HN.out _ (by omega)))
      have HD : Hid (cmpZ s (f0 pc) (f0 c) < 0 → bef s (f0 pc) (f0 c)) := fun h => (bef_back HLT.out).2 ((cmpZ_lt _ _ _).1 h)
      have HE : Hid (¬ cmpZ s (f0 pc) (f0 c) < 0 → bef s (f0 c) (f0 pc)) := fun h => (bef_fore HLT.out).2 (cmpZ_ge h)
      have HRQ := Lib.hid (fun k => HR.out.drewN k)
      generalize cmpZ s (f0 pc) (f0 c) = z at *
      clear HR HLT
      by_cases hz : z < 0
      · have HB2 : Hid (a ≤ st ∧ nn ≤ st + b ∧ st ≤ c ∧ c ≤ m ∧ c ≤ mid ∧
          (a < st → nn < st + b → bef s (f0 (st - 1)) (f0 (nn - st))) ∧ (c < m → c < mid → bef s (f0 (nn - 1 - c)) (f0 c))) := Lib.hid ⟨g1, g2, hh1, by omega, by omega, HG6.out, fun _ _ => by rw [show nn - 1 - c = pc by omega]; exact HD.out hz⟩
        clear HD HE HG6 HG7
        have hzb : decide (z < 0) = true := decide_eq_true hz
        go_wp2_with fail
        go_quiet ((go_at_fn g; exact quietC (HC.out _)))
        go_wp2_with fail
        go_roundw
        case rel => exact ⟨st, c, rfl, rfl, HRQ.out _, HB2⟩
        case measure => simp [intOf]; omega
      · have HB2 : Hid (a ≤ c + 1 ∧ nn ≤ c + 1 + b ∧ c + 1 ≤ r ∧ r ≤ m ∧ r ≤ mid ∧
          (a < c + 1 → nn < c + 1 + b → bef s (f0 (c + 1 - 1)) (f0 (nn - (c + 1)))) ∧ (r < m → r < mid → bef s (f0 (nn - 1 - r)) (f0 r))) := Lib.hid ⟨by omega, by omega, by omega, g4, g5, fun _ _ => by
            rw [show nn - (c + 1) = pc by omega]; exact HE.out hz, HG7.out⟩
        clear HD HE HG6 HG7
        have hzb : decide (z < 0) = false := decide_eq_false hz
        go_wp2_with fail
        go_quiet ((go_at_fn g; exact quietC (HC.out _)))
        go_wp2_with fail
        go_roundw
        case rel => exact ⟨c + 1, r, by go_num, rfl, HRQ.out _, HB2⟩
        case measure => simp [intOf]; omega
    · obtain rfl : st = r := by omega
      have hki : ¬ (st : Int) < (st : Int) := by omega
      obtain ⟨e, he1, he2⟩ : ∃ e, e + st ≤ nn ∧ nn ≤ e + st := ⟨nn - st, by omega, by omega⟩
      have e6 : (nn : Int) - (st : Int) = (e : Int) := by omega
      obtain ⟨K1, K2, K3, K4, K5, K6, K7⟩ := Two.halves (R := bef s) (f := f0) (a := a) (m := m) (b := b) (mid := mid) (s := st) (e := e) bef_trans HT.out (by omega) (by omega) g1 g4 (by omega) (by omega) (by omega)
        (fun h1 h2 => by rw [show e = nn - st by omega]; exact HG6.out h1 (by omega)) (fun h1 h2 => by rw [show e - 1 = nn - 1 - st by omega]; exact HG7.out h1 (by omega))
      have HO := Lib.hid (fun p h => rotF_out (f := f0) (a := a) (b := b) (m := m) (s := st) (e := e) g4 (by omega) g1 (by omega) p h)
      have HSC := Lib.hid (fun p h1 h2 => rotF_src (f := f0) (a := a) (b := b) (m := m) (s := st) (e := e) g4 (by omega) g1 (by omega) p h1 h2)
      have HV : Hid (∀ p, p < N → rotF f0 st m e p < n) := fun p hp => by
        by_cases x : a ≤ p ∧ p < b
        · obtain ⟨q, h1, h2, h3⟩ := HSC.out p x.1 x.2
          rw [h3]; exact HN.out q (by omega)
        · rw [HO.out p (by omega)]; exact HN.out p hp
      have HM1 : Hid (∀ W, RowF 3 wc W B N cp f0 → st < m → m < e → Calls Try.prog 82 #[.slice (some ⟨B, 0, none⟩) N cp, .int .i64 st, .int .i64 m, .int .i64 e, .func (.func g) #[] lb] W (RetRow 3 W B N cp (rotF f0 st m e))) :=
        fun W h h1 h2 => HRR.out st e f0 W h.own h1 h2 (by omega)
      have HN1 : Hid (¬ (st < m ∧ m < e) → f0 = rotF f0 st m e) := fun h => by
        by_cases x : st < m
        · have : e = m := by omega
          rw [this]; exact (rotF_right f0 st m g4).symm
        · have : st = m := by omega
          rw [this]; exact (rotF_left f0 m e (by omega)).symm
      have HM2 : Hid (∀ W, RowF 3 wc W B N cp (rotF f0 st m e) → a < st → st < mid → Calls Try.prog 66 #[.slice (some ⟨B, 0, none⟩) N cp, .int .i64 a, .int .i64 st, .int .i64 mid, .func (.func g) #[] lb] W fun e' w' => e' = .returned (.tuple #[]) ∧ ∃ f, RowF 3 W w' B N cp f ∧ Srt (bef s) (rotF f0 st m e) f a mid) :=
        fun W h h1 h2 => HIH.out a st mid _ W (by have := HL.out; omega) h.own (HC0.out.later h.turn) ⟨h1, h2, K2, K3, K4⟩ (by omega) HV.out
      have HN2 : Hid (¬ (a < st ∧ st < mid) → Srt (bef s) (rotF f0 st m e) (rotF f0 st m e) a mid) := fun h => Srt.triv fun p q h1 h2 h3 => by
        by_cases x : a < st
        · exact K2 p q h1 h2 (by omega)
        · exact K3 p q (by omega) h2 h3
      have HM3 : Hid (∀ W f2, RowF 3 wc W B N cp f2 → Srt (bef s) (rotF f0 st m e) f2 a mid → mid < e → e < b → Calls Try.prog 66 #[.slice (some ⟨B, 0, none⟩) N cp, .int .i64 mid, .int .i64 e, .int .i64 b, .func (.func g) #[] lb] W fun e' w' => e' = .returned (.tuple #[]) ∧ ∃ f, RowF 3 W w' B N cp f ∧ Srt (bef s) f2 f mid b) :=
        fun W f2 h hs h1 h2 => HIH.out mid e b _ W (by have := HL.out; omega) h.own (HC0.out.later h.turn) (two_after ⟨h1, h2, K5, K6, K7⟩ hs) hbN (srt_lts HV.out (by omega) hs)
      have HN3 : Hid (¬ (mid < e ∧ e < b) → ∀ f2, Srt (bef s) (rotF f0 st m e) f2 a mid → Srt (bef s) f2 f2 mid b) := fun h f2 hs => srt_after (fun p q h1 h2 h3 => by
        by_cases x : mid < e
        · exact K5 p q h1 h2 (by omega)
        · exact K6 p q (by omega) h2 h3) hs
      have HF : Hid (∀ f2 f3, Srt (bef s) (rotF f0 st m e) f2 a mid → Srt (bef s) f2 f3 mid b → Srt (bef s) f0 f3 a b) := fun f2 f3 h1 h2 => Srt.both (by omega) (by omega) HO.out HSC.out K1 h1 h2
      have HRO := HR
      clear K1 K2 K3 K4 K5 K6 K7 HR HG6 HG7 hlt hki
      by_cases d11 : st < m
      · have d11i : (st : Int) < (m : Int) := by omega
        have d11d : decide ((st : Int) < (m : Int)) = true := decide_eq_true d11i
        by_cases d12 : m < e
        · have d12i : (m : Int) < (e : Int) := by omega
          have HC1 := Lib.hid (HM1.out _ HRO.out d11 d12)
          go_wp2_with fail
          refine HC1.out.mono ?_
          rintro e w4 ⟨rfl, HR4⟩
          have HR1 := Lib.hid (HRO.out.trans HR4)
          clear HR4
          by_cases d21 : a < st
          · have d21i : (a : Int) < (st : Int) := by omega
            have d21d : decide ((a : Int) < (st : Int)) = true := decide_eq_true d21i
            by_cases d22 : st < mid
            · have d22i : (st : Int) < (mid : Int) := by omega
              have HC2 := Lib.hid (HM2.out _ HR1.out d21 d22)
              go_wp2_with fail
              refine HC2.out.mono ?_
              rintro e w5 ⟨rfl, f2, HR5, HS5⟩
              have HR2 := Lib.hid (HR1.out.trans HR5)
              have HS2 := Lib.hid HS5
              clear HR5 HS5
              by_cases d31 : mid < e
              · have d31i : (mid : Int) < (e : Int) := by omega
                have d31d : decide ((mid : Int) < (e : Int)) = true := decide_eq_true d31i
                by_cases d32 : e < b
                · have d32i : (e : Int) < (b : Int) := by omega
                  have HC3 := Lib.hid (HM3.out _ _ HR2.out HS2.out d31 d32)
                  go_wp2_with fail
                  refine HC3.out.mono ?_
                  rintro e w6 ⟨rfl, f3, HR6, HS6⟩
                  have HR3 := Lib.hid (HR2.out.trans HR6)
                  have HS3 := Lib.hid HS6
                  clear HR6 HS6
                  go_wp2_with fail
                  go_end0
                  exact ⟨rfl, _, HR3.out, HF.out _ _ HS2.out HS3.out⟩
                · have d32i : ¬ (e : Int) < (b : Int) := by omega
                  have HS3 := Lib.hid (HN3.out (by omega) _ HS2.out)
                  have HR3 := HR2
                  go_wp2_with fail
                  go_end0
                  exact ⟨rfl, _, HR3.out, HF.out _ _ HS2.out HS3.out⟩
              · have d31i : ¬ (mid : Int) < (e : Int) := by omega
                have d31d : decide ((mid : Int) < (e : Int)) = false := decide_eq_false d31i
                have HS3 := Lib.hid (HN3.out (by omega) _ HS2.out)
                have HR3 := HR2
                go_wp2_with fail
                go_end0
                exact ⟨rfl, _, HR3.out, HF.out _ _ HS2.out HS3.out⟩
            · have d22i : ¬ (st : Int) < (mid : Int) := by omega
              have HS2 := Lib.hid (HN2.out (by omega))
              have HR2 := HR1
              by_cases d31 : mid < e
              · have d31i : (mid : Int) < (e : Int) := by omega
                have d31d : decide ((mid : Int) < (e : Int)) = true := decide_eq_true d31i
                by_cases d32 : e < b
                · have d32i : (e : Int) < (b : Int) := by omega
                  have HC3 := Lib.hid (HM3.out _ _ HR2.out HS2.out d31 d32)
                  go_wp2_with fail
                  refine HC3.out.mono ?_
                  rintro e w6 ⟨rfl, f3, HR6, HS6⟩
                  have HR3 := Lib.hid (HR2.out.trans HR6)
                  have HS3 := Lib.hid HS6
                  clear HR6 HS6
                  go_wp2_with fail
                  go_end0
                  exact ⟨rfl, _, HR3.out, HF.out _ _ HS2.out HS3.out⟩
                · have d32i : ¬ (e : Int) < (b : Int) := by omega
                  have HS3 := Lib.hid (HN3.out (by omega) _ HS2.out)
                  have HR3 := HR2
                  go_wp2_with fail
                  go_end0
                  exact ⟨rfl, _, HR3.out, HF.out _ _ HS2.out HS3.out⟩
              · have d31i : ¬ (mid : Int) < (e : Int) := by omega
                have d31d : decide ((mid : Int) < (e : Int)) = false := decide_eq_false d31i
                have HS3 := Lib.hid (HN3.out (by omega) _ HS2.out)
                have HR3 := HR2
                go_wp2_with fail
                go_end0
                exact ⟨rfl, _, HR3.out, HF.out _ _ HS2.out HS3.out⟩
          · have d21i : ¬ (a : Int) < (st : Int) := by omega
            have d21d : decide ((a : Int) < (st : Int)) = false := decide_eq_false d21i
            have HS2 := Lib.hid (HN2.out (by omega))
            have HR2 := HR1
            by_cases d31 : mid < e
            · have d31i : (mid : Int) < (e : Int) := by omega
              have d31d : decide ((mid : Int) < (e : Int)) = true := decide_eq_true d31i
              by_cases d32 : e < b
              · have d32i : (e : Int) < (b : Int) := by omega
                have HC3 := Lib.hid (HM3.out _ _ HR2.out HS2.out d31 d32)
                go_wp2_with fail
                refine HC3.out.mono ?_
                rintro e w6 ⟨rfl, f3, HR6, HS6⟩
                have HR3 := Lib.hid (HR2.out.trans HR6)
                have HS3 := Lib.hid HS6
                clear HR6 HS6
                go_wp2_with fail
                go_end0
                exact ⟨rfl, _, HR3.out, HF.out _ _ HS2.out HS3.out⟩
              · have d32i : ¬ (e : Int) < (b : Int) := by omega
                have HS3 := Lib.hid (HN3.out (by omega) _ HS2.out)
                have HR3 := HR2
                go_wp2_with fail
                go_end0
                exact ⟨rfl, _, HR3.out, HF.out _ _ HS2.out HS3.out⟩
            · have d31i : ¬ (mid : Int) < (e : Int) := by omega
              have d31d : decide ((mid : Int) < (e : Int)) = false := decide_eq_false d31i
              have HS3 := Lib.hid (HN3.out (by omega) _ HS2.out)
              have HR3 := HR2
              go_wp2_with fail
              go_end0
              exact ⟨rfl, _, HR3.out, HF.out _ _ HS2.out HS3.out⟩
        · have d12i : ¬ (m : Int) < (e : Int) := by omega
          have HR1 := Lib.hid (HRO.out.congr (HN1.out (by omega)))
          by_cases d21 : a < st
          · have d21i : (a : Int) < (st : Int) := by omega
            have d21d : decide ((a : Int) < (st : Int)) = true := decide_eq_true d21i
            by_cases d22 : st < mid
            · have d22i : (st : Int) < (mid : Int) := by omega
              have HC2 := Lib.hid (HM2.out _ HR1.out d21 d22)
              go_wp2_with fail
              refine HC2.out.mono ?_
              rintro e w5 ⟨rfl, f2, HR5, HS5⟩
              have HR2 := Lib.hid (HR1.out.trans HR5)
              have HS2 := Lib.hid HS5
              clear HR5 HS5
              by_cases d31 : mid < e
              · have d31i : (mid : Int) < (e : Int) := by omega
                have d31d : decide ((mid : Int) < (e : Int)) = true := decide_eq_true d31i
                by_cases d32 : e < b
                · have d32i : (e : Int) < (b : Int) := by omega
                  have HC3 := Lib.hid (HM3.out _ _ HR2.out HS2.out d31 d32)
                  go_wp2_with fail
                  refine HC3.out.mono ?_
                  rintro e w6 ⟨rfl, f3, HR6, HS6⟩
                  have HR3 := Lib.hid (HR2.out.trans HR6)
                  have HS3 := Lib.hid HS6
                  clear HR6 HS6
                  go_wp2_with fail
                  go_end0
                  exact ⟨rfl, _, HR3.out, HF.out _ _ HS2.out HS3.out⟩
                · have d32i : ¬ (e : Int) < (b : Int) := by omega
                  have HS3 := Lib.hid (HN3.out (by omega) _ HS2.out)
                  have HR3 := HR2
                  go_wp2_with fail
                  go_end0
                  exact ⟨rfl, _, HR3.out, HF.out _ _ HS2.out HS3.out⟩
              · have d31i : ¬ (mid : Int) < (e : Int) := by omega
                have d31d : decide ((mid : Int) < (e : Int)) = false := decide_eq_false d31i
                have HS3 := Lib.hid (HN3.out (by omega) _ HS2.out)
                have HR3 := HR2
                go_wp2_with fail
                go_end0
                exact ⟨rfl, _, HR3.out, HF.out _ _ HS2.out HS3.out⟩
            · have d22i : ¬ (st : Int) < (mid : Int) := by omega
              have HS2 := Lib.hid (HN2.out (by omega))
              have HR2 := HR1
              by_cases d31 : mid < e
              · have d31i : (mid : Int) < (e : Int) := by omega
                have d31d : decide ((mid : Int) < (e : Int)) = true := decide_eq_true d31i
                by_cases d32 : e < b
                · have d32i : (e : Int) < (b : Int) := by omega
                  have HC3 := Lib.hid (HM3.out _ _ HR2.out HS2.out d31 d32)
                  go_wp2_with fail
                  refine HC3.out.mono ?_
                  rintro e w6 ⟨rfl, f3, HR6, HS6⟩
                  have HR3 := Lib.hid (HR2.out.trans HR6)
                  have HS3 := Lib.hid HS6
                  clear HR6 HS6
                  go_wp2_with fail
                  go_end0
                  exact ⟨rfl, _, HR3.out, HF.out _ _ HS2.out HS3.out⟩
                · have d32i : ¬ (e : Int) < (b : Int) := by omega
                  have HS3 := Lib.hid (HN3.out (by omega) _ HS2.out)
                  have HR3 := HR2
                  go_wp2_with fail
                  go_end0
                  exact ⟨rfl, _, HR3.out, HF.out _ _ HS2.out HS3.out⟩
              · have d31i : ¬ (mid : Int) < (e : Int) := by omega
                have d31d : decide ((mid : Int) < (e : Int)) = false := decide_eq_false d31i
                have HS3 := Lib.hid (HN3.out (by omega) _ HS2.out)
                have HR3 := HR2
                go_wp2_with fail
                go_end0
                exact ⟨rfl, _, HR3.out, HF.out _ _ HS2.out HS3.out⟩
          · have d21i : ¬ (a : Int) < (st : Int) := by omega
            have d21d : decide ((a : Int) < (st : Int)) = false := decide_eq_false d21i
            have HS2 := Lib.hid (HN2.out (by omega))
            have HR2 := HR1
            by_cases d31 : mid < e
            · have d31i : (mid : Int) < (e : Int) := by omega
              have d31d : decide ((mid : Int) < (e : Int)) = true := decide_eq_true d31i
              by_cases d32 : e < b
              · have d32i : (e : Int) < (b : Int) := by omega
                have HC3 := Lib.hid (HM3.out _ _ HR2.out HS2.out d31 d32)
                go_wp2_with fail
                refine HC3.out.mono ?_
                rintro e w6 ⟨rfl, f3, HR6, HS6⟩
                have HR3 := Lib.hid (HR2.out.trans HR6)
                have HS3 := Lib.hid HS6
                clear HR6 HS6
                go_wp2_with fail
                go_end0
                exact ⟨rfl, _, HR3.out, HF.out _ _ HS2.out HS3.out⟩
              · have d32i : ¬ (e : Int) < (b : Int) := by omega
                have HS3 := Lib.hid (HN3.out (by omega) _ HS2.out)
                have HR3 := HR2
                go_wp2_with fail
                go_end0
                exact ⟨rfl, _, HR3.out, HF.out _ _ HS2.out HS3.out⟩
            · have d31i : ¬ (mid : Int) < (e : Int) := by omega
              have d31d : decide ((mid : Int) < (e : Int)) = false := decide_eq_false d31i
              have HS3 := Lib.hid (HN3.out (by omega) _ HS2.out)
              have HR3 := HR2
              go_wp2_with fail
              go_end0
              exact ⟨rfl, _, HR3.out, HF.out _ _ HS2.out HS3.out⟩
      · have d11i : ¬ (st : Int) < (m : Int) := by omega
        have d11d : decide ((st : Int) < (m : Int)) = false := decide_eq_false d11i
        have HR1 := Lib.hid (HRO.out.congr (HN1.out (by omega)))
        by_cases d21 : a < st
        · have d21i : (a : Int) < (st : Int) := by omega
          have d21d : decide ((a : Int) < (st : Int)) = true := decide_eq_true d21i
          by_cases d22 : st < mid
          · have d22i : (st : Int) < (mid : Int) := by omega
            have HC2 := Lib.hid (HM2.out _ HR1.out d21 d22)
            go_wp2_with fail
            refine HC2.out.mono ?_
            rintro e w5 ⟨rfl, f2, HR5, HS5⟩
            have HR2 := Lib.hid (HR1.out.trans HR5)
            have HS2 := Lib.hid HS5
            clear HR5 HS5
            by_cases d31 : mid < e
            · have d31i : (mid : Int) < (e : Int) := by omega
              have d31d : decide ((mid : Int) < (e : Int)) = true := decide_eq_true d31i
              by_cases d32 : e < b
              · have d32i : (e : Int) < (b : Int) := by omega
                have HC3 := Lib.hid (HM3.out _ _ HR2.out HS2.out d31 d32)
                go_wp2_with fail
                refine HC3.out.mono ?_
                rintro e w6 ⟨rfl, f3, HR6, HS6⟩
                have HR3 := Lib.hid (HR2.out.trans HR6)
                have HS3 := Lib.hid HS6
                clear HR6 HS6
                go_wp2_with fail
                go_end0
                exact ⟨rfl, _, HR3.out, HF.out _ _ HS2.out HS3.out⟩
              · have d32i : ¬ (e : Int) < (b : Int) := by omega
                have HS3 := Lib.hid (HN3.out (by omega) _ HS2.out)
                have HR3 := HR2
                go_wp2_with fail
                go_end0
                exact ⟨rfl, _, HR3.out, HF.out _ _ HS2.out HS3.out⟩
            · have d31i : ¬ (mid : Int) < (e : Int) := by omega
              have d31d : decide ((mid : Int) < (e : Int)) = false := decide_eq_false d31i
              have HS3 := Lib.hid (HN3.out (by omega) _ HS2.out)
              have HR3 := HR2
              go_wp2_with fail
              go_end0
              exact ⟨rfl, _, HR3.out, HF.out _ _ HS2.out HS3.out⟩
          · have d22i : ¬ (st : Int) < (mid : Int) := by omega
            have HS2 := Lib.hid (HN2.out (by omega))
            have HR2 := HR1
            by_cases d31 : mid < e
            · have d31i : (mid : Int) < (e : Int) := by omega
              have d31d : decide ((mid : Int) < (e : Int)) = true := decide_eq_true d31i
              by_cases d32 : e < b
              · have d32i : (e : Int) < (b : Int) := by omega
                have HC3 := Lib.hid (HM3.out _ _ HR2.out HS2.out d31 d32)
                go_wp2_with fail
                refine HC3.out.mono ?_
                rintro e w6 ⟨rfl, f3, HR6, HS6⟩
                have HR3 := Lib.hid (HR2.out.trans HR6)
                have HS3 := Lib.hid HS6
                clear HR6 HS6
                go_wp2_with fail
                go_end0
                exact ⟨rfl, _, HR3.out, HF.out _ _ HS2.out HS3.out⟩
              · have d32i : ¬ (e : Int) < (b : Int) := by omega
                have HS3 := Lib.hid (HN3.out (by omega) _ HS2.out)
                have HR3 := HR2
                go_wp2_with fail
                go_end0
                exact ⟨rfl, _, HR3.out, HF.out _ _ HS2.out HS3.out⟩
            · have d31i : ¬ (mid : Int) < (e : Int) := by omega
              have d31d : decide ((mid : Int) < (e : Int)) = false := decide_eq_false d31i
              have HS3 := Lib.hid (HN3.out (by omega) _ HS2.out)
              have HR3 := HR2
              go_wp2_with fail
              go_end0
              exact ⟨rfl, _, HR3.out, HF.out _ _ HS2.out HS3.out⟩
        · have d21i : ¬ (a : Int) < (st : Int) := by omega
          have d21d : decide ((a : Int) < (st : Int)) = false := decide_eq_false d21i
          have HS2 := Lib.hid (HN2.out (by omega))
          have HR2 := HR1
          by_cases d31 : mid < e
          · have d31i : (mid : Int) < (e : Int) := by omega
            have d31d : decide ((mid : Int) < (e : Int)) = true := decide_eq_true d31i
            by_cases d32 : e < b
            · have d32i : (e : Int) < (b : Int) := by omega
              have HC3 := Lib.hid (HM3.out _ _ HR2.out HS2.out d31 d32)
              go_wp2_with fail
              refine HC3.out.mono ?_
              rintro e w6 ⟨rfl, f3, HR6, HS6⟩
              have HR3 := Lib.hid (HR2.out.trans HR6)
              have HS3 := Lib.hid HS6
              clear HR6 HS6
              go_wp2_with fail
              go_end0
              exact ⟨rfl, _, HR3.out, HF.out _ _ HS2.out HS3.out⟩
            · have d32i : ¬ (e : Int) < (b : Int) := by omega
              have HS3 := Lib.hid (HN3.out (by omega) _ HS2.out)
              have HR3 := HR2
              go_wp2_with fail
              go_end0
              exact ⟨rfl, _, HR3.out, HF.out _ _ HS2.out HS3.out⟩
          · have d31i : ¬ (mid : Int) < (e : Int) := by omega
            have d31d : decide ((mid : Int) < (e : Int)) = false := decide_eq_false d31i
            have HS3 := Lib.hid (HN3.out (by omega) _ HS2.out)
            have HR3 := HR2
            go_wp2_with fail
            go_end0
            exact ⟨rfl, _, HR3.out, HF.out _ _ HS2.out HS3.out⟩

theorem symMerge_own (B N cp n g : Nat) (lb : Array Value) (s : List UInt8) (eg : ∀ args w, (callFunc g args).run Try.prog w = .ok (.enter g args) w) (hN : N ≤ 1000) : ∀ d, SymAt B N cp n g lb s d
  | 0 => fun a m b f0 w hd hr hc h2 hbN hn => by have := h2.am; have := h2.mb; omega
  | d + 1 => fun a m b f0 w hd hr hc h2 hbN hn => by
    by_cases hm : m = a + 1
    · exact symLeft B N cp n a m b g lb s f0 w hr eg hc h2 hbN hN hn hm
    · by_cases hb : b = m + 1
      · exact symRight B N cp n a m b g lb s f0 w hr eg hc h2 hbN hN hn hm hb
      · exact symMain B N cp n a m b g d lb s f0 w hr eg hc h2 hbN hN hn hm hb hd (symMerge_own B N cp n g lb s eg hN d)
end Go.Proofs.Ytbfchebnooanjaa
