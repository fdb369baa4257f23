/- Chapter 11: the stable sort of a row by the rotations of a text. -/
import Derived.Test.YtbfchebnooanjaaStbSym
set_option linter.unusedSimpArgs false
set_option linter.unusedVariables false
namespace G294
open Go Go.RowKit
theorem blk_id {R : Nat → Nat → Prop} {f : Nat → Nat} {n z zz : Nat} (h : BlkB R f n (2 * z)) (e1 : zz ≤ 2 * z) (e2 : 2 * z ≤ zz) : BlkB R f n zz := by
  have e : 2 * z = zz := by omega
  rwa [e] at h
def sizeZ (z : Nat) : Prop := z = 20 ∨ z = 40 ∨ z = 80 ∨ z = 160
theorem sizeZ_one {z n : Nat} (h : sizeZ z) (h1 : z < n) (h2 : n ≤ 120) : oneZ z := by unfold sizeZ at h; unfold oneZ; omega
theorem sizeZ_two {z zz : Nat} (h : oneZ z) (e1 : zz ≤ 2 * z) (e2 : 2 * z ≤ zz) : sizeZ zz := by unfold oneZ at h; unfold sizeZ; omega
theorem oneZ_le {z : Nat} (h : oneZ z) : 20 ≤ z ∧ z ≤ 80 := by unfold oneZ at h; omega
theorem sizeZ_le {z : Nat} (h : sizeZ z) : 20 ≤ z ∧ z ≤ 160 := by unfold sizeZ at h; omega
end G294
namespace Go.Proofs.Ytbfchebnooanjaa
open Go.RowKit G294

set_option maxRecDepth 100000 in
set_option maxHeartbeats 4000000 in
theorem stable_own (B n cp g : Nat) (lb : Array Value) (s : List UInt8) (w : World) (hr : OwnInts 3 w B (B + 1) (.slice (some ⟨B, 0, none⟩) n cp) (lstF n id))
    (eg : ∀ args w, (callFunc g args).run Try.prog w = .ok (.enter g args) w) (hc : CmpAt Try.prog g lb B n s w) (hn : n ≤ 120) :
    Calls Try.prog 58 #[.slice (some ⟨B, 0, none⟩) n cp, .int .i64 n, .func (.func g) #[] lb] w fun e w' => e = .returned (.tuple #[]) ∧ ∃ f, RowF 3 w w' B n cp f ∧ (∀ p q, p < q → q < n → bef s (f p) (f q)) ∧ ∀ p, p < n → f p < n := by
  have HR0 := Lib.hid (RowF.start hr)
  have HC0 := Lib.hid hc
  have HINS := Lib.hid (fun a b f W hr hc hab hbn h1 h2 => insSort_own B n cp n a b g lb s f W hr eg hc hab hbn (by omega) h1 h2)
  have HSYM := Lib.hid (fun a m b f W hr hc h2 hbn h1 => symMerge_own B n cp n g lb s eg (by omega) (b - a) a m b f W (Nat.le_refl _) hr hc h2 hbn h1)
  have HI0 : Hid (InsB (bef s) id n 0) := Lib.hid InsB.start
  clear hr hc
  go_enter Try.func58, Try.ntmps58
  go_wp2_with fail
  go_loopw [7, 8] (fun x y wr => ∃ a : Nat, a ≤ n ∧ a % 20 = 0 ∧ x = .int .i64 a ∧ y = .int .i64 ((a + 20 : Nat) : Int) ∧ ∃ f, Hid (RowF 3 w wr B n cp f) ∧ Hid (InsB (bef s) f n a)) (fun x _ _ => n - (intOf x).toNat)
  case atStart => exact ⟨0, Nat.zero_le _, rfl, rfl, rfl, id, HR0, HI0⟩
  case round =>
    clear HR0 HI0
    obtain ⟨a, han, ham, rfl, rfl, f, HR, HI⟩ := hrel
    have HA := Lib.hid ham
    clear ham
    by_cases hlt : a + 20 ≤ n
    · have hki : (a : Int) + 20 ≤ (n : Int) := by omega
      have HC := Lib.hid (HINS.out a (a + 20) f wr HR.out.own (HC0.out.later HR.out.turn) (by omega) hlt (fun p hp => (HI.out.src p hp).2) (fun p q h1 h2 h3 => HI.out.up p q h1 h2))
      have HNX := Lib.hid (fun f' (hs : Srt (bef s) f f' a (a + 20)) => HI.out.next HA.out (by omega) hlt (by omega) hs)
      go_wp2_with fail
      refine HC.out.mono ?_
      rintro e w2 ⟨rfl, f2, HR2, HS2⟩
      have HR3 := Lib.hid (HR.out.trans HR2)
      have HI3 := Lib.hid (HNX.out f2 HS2)
      clear HR2 HS2
      go_wp2_with fail
      go_roundw
      case rel => exact ⟨a + 20, hlt, by have := HA.out; omega, by go_num, by go_num, f2, HR3, HI3⟩
      case measure => simp [intOf]; omega
    · have hki : ¬ (a : Int) + 20 ≤ (n : Int) := by omega
      have HC := Lib.hid (HINS.out a n f wr HR.out.own (HC0.out.later HR.out.turn) han (Nat.le_refl _) (fun p hp => (HI.out.src p hp).2) (fun p q h1 h2 h3 => HI.out.up p q h1 h2))
      have HNX := Lib.hid (fun f' (hs : Srt (bef s) f f' a n) => (HI.out.next HA.out han (Nat.le_refl _) (by omega) hs).blk)
      go_wp2_with fail
      refine HC.out.mono ?_
      rintro e w2 ⟨rfl, f2, HR2, HS2⟩
      have HR3 := Lib.hid (HR.out.trans HR2)
      have HI3 := Lib.hid (HNX.out f2 HS2)
      clear HR2 HS2 HR HI HC HNX hki hlt
      generalize wr = wo at *
      go_wp2_with fail
      go_loopw [6] (fun x wr => ∃ z : Nat, x = .int .i64 z ∧ Hid (sizeZ z) ∧ ∃ f, Hid (RowF 3 w wr B n cp f) ∧ Hid (BlkB (bef s) f n z)) (fun x _ => 200 - (intOf x).toNat)
      case atStart => exact ⟨20, rfl, Lib.hid (.inl rfl), f2, HR3, HI3⟩
      case round =>
        clear HR3 HI3
        obtain ⟨z, rfl, HZ, f, HR, HB⟩ := hrel
        obtain ⟨hz1, hz2⟩ := sizeZ_le HZ.out
        by_cases hlt : z < n
        · have hki : (z : Int) < (n : Int) := by omega
          have HZ1 := Lib.hid (sizeZ_one HZ.out hlt hn)
          obtain ⟨zz, e1, e2, e3, e4⟩ : ∃ zz : Nat, zz ≤ 2 * z ∧ 2 * z ≤ zz ∧ 2 * (z : Int) = (zz : Int) ∧ (z : Int) * 2 = (zz : Int) := ⟨2 * z, Nat.le_refl _, Nat.le_refl _, by omega, by omega⟩
          have HZZ := Lib.hid (And.intro e1 e2)
          have HE : Hid (2 * z = zz) := Lib.hid (by show 2 * z = zz; omega)
          have HM0 := Lib.hid (MrgB.start HZ1.out HB.out)
          have HRO := HR
          have hz80 := (oneZ_le HZ1.out).2
          clear HR HB HZ hz2
          generalize wr = wp at *
          go_wp2_with fail
          go_loopw [7, 8] (fun x y wr => ∃ a : Nat, a ≤ n ∧ x = .int .i64 a ∧ y = .int .i64 ((a + zz : Nat) : Int) ∧ Hid (a % (2 * z) = 0) ∧ ∃ f, Hid (RowF 3 w wr B n cp f) ∧ Hid (MrgB (bef s) f n z a)) (fun x _ _ => n - (intOf x).toNat)
          case atStart => exact ⟨0, Nat.zero_le _, rfl, by first | rfl | (rw [Nat.zero_add]), Lib.hid (Nat.zero_mod _), f, HRO, HM0⟩
          case round =>
            clear HRO HM0
            obtain ⟨a, han, rfl, rfl, HA, f, HR, HM⟩ := hrel
            have hzz0 : 0 < zz := by omega
            by_cases hlt2 : a + zz ≤ n
            · have hki2 : (a : Int) + (zz : Int) ≤ (n : Int) := by omega
              have HT := Lib.hid (HM.out.two HZ1.out HA.out (b := a + zz) (by omega) (by omega) hlt2)
              have HC := Lib.hid (HSYM.out a (a + z) (a + zz) f wr HR.out.own (HC0.out.later HR.out.turn) HT.out hlt2 (fun p hp => (HM.out.src p hp).2))
              have HNX := Lib.hid (fun f' (hs : Srt (bef s) f f' a (a + zz)) => HM.out.next HZ1.out HA.out (by omega) (by omega) (.inl (by omega)) hlt2 hs)
              go_wp2_with fail
              refine HC.out.mono ?_
              rintro e w3 ⟨rfl, f3, HR4, HS4⟩
              have HR5 := Lib.hid (HR.out.trans HR4)
              have HM5 := Lib.hid (HNX.out f3 HS4)
              clear HR4 HS4
              go_wp2_with fail
              go_roundw
              case rel => exact ⟨a + zz, hlt2, by go_num, by go_num, Lib.hid (by show (a + zz) % (2 * z) = 0; rw [← HE.out, Nat.add_mod_right]; exact HA.out), f3, HR5, HM5⟩
              case measure => simp [intOf]; omega
            · have hki2 : ¬ (a : Int) + (zz : Int) ≤ (n : Int) := by omega
              by_cases hlt3 : a + z < n
              · have hki3 : (a : Int) + (z : Int) < (n : Int) := by omega
                have HT := Lib.hid (HM.out.two HZ1.out HA.out (b := n) hlt3 (by omega) (Nat.le_refl _))
                have HC := Lib.hid (HSYM.out a (a + z) n f wr HR.out.own (HC0.out.later HR.out.turn) HT.out (Nat.le_refl _) (fun p hp => (HM.out.src p hp).2))
                have HNX := Lib.hid (fun f' (hs : Srt (bef s) f f' a n) => (HM.out.next HZ1.out HA.out (by omega) han (.inr rfl) (Nat.le_refl _) hs).full)
                go_wp2_with fail
                refine HC.out.mono ?_
                rintro e w3 ⟨rfl, f3, HR4, HS4⟩
                have HR5 := Lib.hid (HR.out.trans HR4)
                have HB5 := Lib.hid (blk_id (HNX.out f3 HS4) HZZ.out.1 HZZ.out.2)
                clear HR4 HS4
                go_wp2_with fail
                go_roundw
                case rel => exact ⟨zz, by go_num, Lib.hid (sizeZ_two HZ1.out HZZ.out.1 HZZ.out.2), f3, HR5, HB5⟩
                case measure => simp [intOf]; omega
              · have hki3 : ¬ (a : Int) + (z : Int) < (n : Int) := by omega
                have HB5 := Lib.hid (blk_id (HM.out.stop HZ1.out HA.out (by omega)) HZZ.out.1 HZZ.out.2)
                go_wp2_with fail
                go_roundw
                case rel => exact ⟨zz, by go_num, Lib.hid (sizeZ_two HZ1.out HZZ.out.1 HZZ.out.2), f, HR, HB5⟩
                case measure => simp [intOf]; omega
        · have hki : ¬ (z : Int) < (n : Int) := by omega
          have HF := Lib.hid (HB.out.all (by omega))
          go_wp2_with fail
          go_end0
          exact ⟨rfl, f, HR.out, HF.out.1, HF.out.2⟩

set_option maxHeartbeats 1000000 in
theorem sortStable_own (B n cp g : Nat) (lb : Array Value) (s : List UInt8) (w : World) (hr : OwnInts 3 w B (B + 1) (.slice (some ⟨B, 0, none⟩) n cp) (lstF n id))
    (eg : ∀ args w, (callFunc g args).run Try.prog w = .ok (.enter g args) w) (hc : CmpAt Try.prog g lb B n s w) (hn : n ≤ 120) :
    Calls Try.prog 42 #[.slice (some ⟨B, 0, none⟩) n cp, .func (.func g) #[] lb] w fun e w' => e = .returned (.tuple #[]) ∧ ∃ f, RowF 3 w w' B n cp f ∧ (∀ p q, p < q → q < n → bef s (f p) (f q)) ∧ ∀ p, p < n → f p < n := by
  have HS := Lib.hid (stable_own B n cp g lb s w hr eg hc hn)
  clear hr hc
  go_enter Try.func42, Try.ntmps42
  go_wp2_with fail
  refine HS.out.mono ?_
  rintro e w2 ⟨rfl, f, hR, h1, h2⟩
  have HR := Lib.hid hR
  have HF := Lib.hid (And.intro h1 h2)
  clear hR h1 h2
  go_wp2_with fail
  go_end0
  exact ⟨rfl, f, HR.out, HF.out.1, HF.out.2⟩
end Go.Proofs.Ytbfchebnooanjaa
