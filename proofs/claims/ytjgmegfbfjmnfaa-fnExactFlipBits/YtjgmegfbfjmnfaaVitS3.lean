/- Chapter 10: outputs at a state, flipped bits: the model's. -/
import Derived.Test.YtjgmegfbfjmnfaaVitS2
import Derived.Test.YtjgmegfbfjmnfaaBytIn
import Derived.StillTailTactics
set_option linter.unusedSimpArgs false
set_option linter.unusedVariables false
namespace G294
open Go Go.RowKit
def RetOut3 (w : World) (s : List UInt8) (n : Int) (ok : Bool) (e : Ending) (w' : World) : Prop := e = .returned (.tuple #[.string (str s), .int .i64 n, .bool ok]) ∧ TurnIn 0 0 w w'
/-- bits turned at the first k of some places -/
def flipK (s : List UInt8) (l : List Int) : Nat → List UInt8
  | 0 => s
  | k + 1 => (flipK s l k).set (l.getD k 0).toNat ((flipK s l k).getD (l.getD k 0).toNat 0 ^^^ 1)
@[simp] theorem flipK_len (s : List UInt8) (l : List Int) (k : Nat) : (flipK s l k).length = s.length := by
  induction k with
  | zero => rfl
  | succ k ih => simp [flipK, ih]
def flpOk (s : List UInt8) (l : List Int) : Bool := bitsOk s 96 && someOk l s.length
def flpR (s : List UInt8) (l : List Int) : List UInt8 := if flpOk s l = true then flipK s l l.length else []
theorem xor_one (x : UInt8) : bits BinOp.xor IntKind.u8 (x.toNat : Int) 1 = ((x ^^^ 1).toNat : Int) := xor_u8 x 1
end G294
namespace Go.Proofs.Ytjgmegfbfjmnfaa
open Go.RowKit G294
def outOk (st b : Int) : Bool := inB st 0 3 && inB b 0 1
def outS (st b : Int) : List UInt8 := if outOk st b = true then outN st.toNat b.toNat else []
def outX (st b : Int) : Int := if outOk st b = true then (nxtN st.toNat b.toNat : Int) else 0
theorem inB_b {n lo hi : Int} (h : inB n lo hi = true) : lo ≤ n ∧ n ≤ hi := by simpa [inB] using h

set_option maxHeartbeats 1000000 in
theorem sOutputsAt_own (st b : Int) (w : World) : Calls Try.prog 27 #[.int .i64 st, .int .i64 b] w (RetOut3 w (outS st b) (outX st b) (outOk st b)) := by
  have HD : Hid (outOk st b = (inB st 0 3 && inB b 0 1)) := Lib.hid rfl
  have HS : Hid (outOk st b = false → outS st b = [] ∧ outX st b = 0) := fun h => ⟨if_neg (by rw [h]; decide), if_neg (by rw [h]; decide)⟩
  have HY : Hid (outOk st b = true → outS st b = outN st.toNat b.toNat ∧ outX st b = (nxtN st.toNat b.toNat : Int)) := fun h => ⟨if_pos h, if_pos h⟩
  by_cases h1 : inB st 0 3 = true
  · have H1 := Lib.hid h1
    by_cases h2 : inB b 0 1 = true
    · have H2 := Lib.hid h2
      have HO : Hid (outOk st b = true) := by show _ = _; rw [HD.out, h1, h2]; rfl
      have HR := Lib.hid (HY.out HO.out)
      have b1 := inB_b h1
      have b2 := inB_b h2
      obtain ⟨n, rfl⟩ := Int.eq_ofNat_of_zero_le b1.1
      obtain ⟨m, rfl⟩ := Int.eq_ofNat_of_zero_le b2.1
      have HC := Lib.hid (l10Out_any n m w (by omega) (by omega))
      simp only [Int.toNat_natCast] at HR
      clear h1 h2 b1 b2 HS HY
      go_enter Try.func27, Try.ntmps27
      go_wp2_with fail
      refine (l1In_any _ _ _ _).mono ?_
      rintro e w' ⟨rfl, rfl⟩
      rw [H1.out]
      go_wp2_with fail
      refine (l1In_any _ _ _ _).mono ?_
      rintro e w' ⟨rfl, rfl⟩
      rw [H2.out]
      go_wp2_with fail
      refine HC.out.mono ?_
      rintro e w1 ⟨rfl, k1⟩
      go_wp2_with fail
      refine bodyPost_ret (v := .tuple #[.string (str (outN n m)), .int .i64 (nxtN n m : Nat), .bool true]) (by simp [results, Try.results27, go_sem]) rfl ?_
      exact ⟨by rw [HR.out.1, HR.out.2, HO.out], k1⟩
    · have H2 : Hid (inB b 0 1 = false) := by show inB b 0 1 = false; simpa using h2
      have HO : Hid (outOk st b = false) := by show _ = _; rw [HD.out, H2.out]; simp
      have HR := Lib.hid (HS.out HO.out)
      clear h1 h2
      go_enter Try.func27, Try.ntmps27
      go_wp2_with fail
      refine (l1In_any _ _ _ _).mono ?_
      rintro e w' ⟨rfl, rfl⟩
      rw [H1.out]
      go_wp2_with fail
      refine (l1In_any _ _ _ _).mono ?_
      rintro e w' ⟨rfl, rfl⟩
      rw [H2.out]
      go_wp2_with fail
      refine bodyPost_ret (v := .tuple #[.string (str []), .int .i64 0, .bool false]) (by simp [results, Try.results27, go_sem]; rfl) rfl ?_
      exact ⟨by rw [HR.out.1, HR.out.2, HO.out], TurnIn.refl _⟩
  · have H1 : Hid (inB st 0 3 = false) := by show inB st 0 3 = false; simpa using h1
    have HO : Hid (outOk st b = false) := by show _ = _; rw [HD.out, H1.out]; rfl
    have HR := Lib.hid (HS.out HO.out)
    clear h1
    go_enter Try.func27, Try.ntmps27
    go_wp2_with fail
    refine (l1In_any _ _ _ _).mono ?_
    rintro e w' ⟨rfl, rfl⟩
    rw [H1.out]
    go_wp2_with fail
    refine bodyPost_ret (v := .tuple #[.string (str []), .int .i64 0, .bool false]) (by simp [results, Try.results27, go_sem]; rfl) rfl ?_
    exact ⟨by rw [HR.out.1, HR.out.2, HO.out], TurnIn.refl _⟩

set_option maxRecDepth 100000 in
set_option maxHeartbeats 2000000 in
theorem sFlipBits_own (v : Value) (s : List UInt8) (l : List Int) (w : World) (hv : Seen w v (ints l)) (hs : s.length ≤ 1000000000000) : Calls Try.prog 26 #[.string (str s), v] w (RetStrOk w (flpR s l) (flpOk s l)) := by
  have hsz : (str s).size = s.length := str_size s
  have HV := Lib.hid hv
  obtain ⟨A, c, hvv⟩ := hv.len
  rw [ints_length] at hvv
  subst hvv
  clear hv
  have HD : Hid (flpOk s l = (bitsOk s 96 && someOk l s.length)) := Lib.hid rfl
  have HNO : Hid (flpOk s l = false → flpR s l = []) := fun h => if_neg (by rw [h]; decide)
  have HYES : Hid (flpOk s l = true → flpR s l = flipK s l l.length) := fun h => if_pos h
  by_cases h1 : bitsOk s 96 = true
  · have H1 := Lib.hid h1
    have hl96 := (bitsOk_b h1).1
    by_cases h2 : someOk l s.length = true
    · have H2 := Lib.hid h2
      have HO : Hid (flpOk s l = true) := by show _ = _; rw [HD.out, h1, h2]; rfl
      have HR := Lib.hid (HYES.out HO.out)
      obtain ⟨cp, w1, hcv, hc1, hc2, hO, hb1⟩ := bytes_of_str (P := Try.prog) w 9 22 5 s Try.underlying9 Try.underlying22 Try.underlying5 (by unfold maxLen; omega)
      have HM := Lib.hid hc2
      have HIN : Hid (∀ k, k < l.length → 0 ≤ l.getD k 0 ∧ l.getD k 0 < (s.length : Int)) := fun k hk => by
        have := (someOk_iff l s.length).1 h2 k hk
        exact ⟨this.1, this.2.1⟩
      have hl := some_len h2
      have HO0 : Hid (BytesIn w1 w.heap.size (flipK s l 0)) := hO
      have HB1 := Lib.hid hb1
      have HK : Hid (∀ k, flipK s l (k + 1) = (flipK s l k).set (l.getD k 0).toNat ((flipK s l k).getD (l.getD k 0).toNat 0 ^^^ 1)) := fun k => rfl
      have HKL : Hid (∀ k, (flipK s l k).length = s.length) := fun k => flipK_len s l k
      rw [HR.out]
      obtain ⟨G, hG⟩ : ∃ G, G = flipK s l := ⟨_, rfl⟩
      rw [← hG] at HO0 HK HKL ⊢
      obtain ⟨A1, c1, hvv, hlc, hcm, hx⟩ := HV.out
      rw [ints_length] at hvv hlc hx
      simp only [Value.slice.injEq] at hvv
      obtain ⟨rfl, _, rfl⟩ := hvv
      have HX := Lib.hid hx
      unfold maxLen at hcm hc2
      have HSO := Lib.hid (fun W (hw : Seen W (.slice A l.length c) (ints l)) => l1Some_all _ l s.length W hw (by omega))
      have HBO := Lib.hid (fun W => l10Bits_any s 96 W hs)
      generalize hnn : l.length = n at *
      generalize hmm : s.length = m at *
      have HN := Lib.hid hnn
      clear h1 h2 hO hb1 hG hx hnn hmm
      go_enter Try.func26, Try.ntmps26
      go_wp2_with fail
      refine (HBO.out _).mono ?_
      rintro e w' ⟨rfl, rfl⟩
      rw [H1.out]
      go_wp2_with fail
      refine (HSO.out _ HV.out).mono ?_
      rintro e w' ⟨rfl, rfl⟩
      rw [H2.out]
      go_wp2_with fail
      go_loopw [23] (fun i wr => ∃ k : Nat, k ≤ n ∧ i = .int .i64 k ∧ Hid (BytesIn wr w.heap.size (G k)) ∧ Hid (Below w.heap.size w wr)) (fun i _ => n - (intOf i).toNat)
      case atStart => exact ⟨0, Nat.zero_le _, rfl, HO0, HB1⟩
      case round =>
        obtain ⟨k, hk, rfl, HO1, HB⟩ := hrel
        clear HO0 HB1
        by_cases hlt : k < n
        · have hki : (k : Int) < (n : Int) := by omega
          have hkl : k < l.length := by rw [HN.out]; exact hlt
          obtain ⟨b, off, rfl, hbl, hcell⟩ := HX.out (by omega)
          have hcx := (HB.out.cell (p := ⟨b, off + k, none⟩) hbl).trans (hcell k _ (ints_get l k hkl))
          rw [← getD_len hkl 0] at hcx
          have hin := HIN.out k hlt
          have hkk := HK.out k
          obtain ⟨q, hq⟩ := Int.eq_ofNat_of_zero_le hin.1
          rw [hq] at hcx hin hkk
          rw [Int.toNat_natCast] at hkk
          have hqm : q < m := by omega
          have hqi : (q : Int) < (m : Int) := by omega
          have hcs := HO1.out.cell q (by rw [HKL.out]; exact hqm)
          have hfr := HO1.out.free q (by rw [HKL.out]; exact hqm)
          generalize hgx : (G k).getD q 0 = x at hcs hkk
          have hxor := xor_one x
          have HO3 := Lib.hid (HO1.out.store (q := q) (x := x ^^^ 1) (by rw [HKL.out]; exact hqm) hkk.symm)
          have HB3 := Lib.hid (HB.out.setCell (p := ⟨w.heap.size, q, none⟩) (Nat.le_refl _) (.int .u8 ((x ^^^ 1).toNat : Int)))
          clear hgx hkk hq hin hcell
          generalize x ^^^ 1 = y at *
          go_wp2_with fail
          go_roundw
          case rel => exact ⟨k + 1, by omega, by go_num, HO3, HB3⟩
          case measure => simp [intOf]; omega
        · obtain rfl : k = n := by omega
          have hki : ¬ (k : Int) < (k : Int) := by omega
          have hseen := HO1.out.seen (cp := cp) (by rw [HKL.out]; exact hc1) HM.out
          rw [HKL.out] at hseen
          have hconv := run_string_seen (P := Try.prog) 22 5 9 Try.underlying22 Try.underlying5 Try.underlying9 hseen
          clear hseen
          go_wp2_with fail
          go_ret2
          exact ⟨by rw [HO.out]; rfl, TurnIn.of_below HB.out⟩
    · have H2 : Hid (someOk l s.length = false) := by show someOk l s.length = false; simpa using h2
      have HO : Hid (flpOk s l = false) := by show _ = _; rw [HD.out, H2.out]; simp
      have HR := Lib.hid (HNO.out HO.out)
      have HSO := Lib.hid (fun W (hw : Seen W (.slice A l.length c) (ints l)) => l1Some_all _ l s.length W hw (by omega))
      have HBO := Lib.hid (fun W => l10Bits_any s 96 W hs)
      generalize hmm : s.length = m at *
      clear h1 h2 hmm
      go_enter Try.func26, Try.ntmps26
      go_wp2_with fail
      refine (HBO.out _).mono ?_
      rintro e w' ⟨rfl, rfl⟩
      rw [H1.out]
      go_wp2_with fail
      refine (HSO.out _ HV.out).mono ?_
      rintro e w' ⟨rfl, rfl⟩
      rw [H2.out]
      go_wp2_with fail
      go_ret2
      exact ⟨by rw [HR.out, HO.out]; rfl, TurnIn.refl _⟩
  · have H1 : Hid (bitsOk s 96 = false) := by show bitsOk s 96 = false; simpa using h1
    have HO : Hid (flpOk s l = false) := by show _ = _; rw [HD.out, H1.out]; rfl
    have HR := Lib.hid (HNO.out HO.out)
    have HBO := Lib.hid (fun W => l10Bits_any s 96 W hs)
    generalize hmm : s.length = m at *
    clear h1 hmm
    go_enter Try.func26, Try.ntmps26
    go_wp2_with fail
    refine (HBO.out _).mono ?_
    rintro e w' ⟨rfl, rfl⟩
    rw [H1.out]
    go_wp2_with fail
    go_ret2
    exact ⟨by rw [HR.out, HO.out]; rfl, TurnIn.refl _⟩

end Go.Proofs.Ytjgmegfbfjmnfaa
