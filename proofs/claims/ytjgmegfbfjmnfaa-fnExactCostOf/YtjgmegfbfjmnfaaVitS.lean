/- Chapter 10: bits, outputs, encoding, distances: the model's. -/
import Derived.Test.YtjgmegfbfjmnfaaVitMath
import Derived.Test.YtjgmegfbfjmnfaaStrWalks
import Derived.Test.YtjgmegfbfjmnfaaFieldWalksB
import Derived.Test.YtjgmegfbfjmnfaaComb
import Derived.Test.YtjgmegfbfjmnfaaPartMath
import Derived.Test.YtjgmegfbfjmnfaaIntsWalks
import Derived.Deep.QuietTactic
import Derived.BigQuiet
set_option linter.unusedSimpArgs false
set_option linter.unusedVariables false
namespace G294
open Go Go.RowKit
theorem getD_len {α : Type} {l : List α} {k : Nat} (h : k < l.length) (d : α) : l.getD k d = l[k] := by simp [List.getD, h]
theorem take_snocD (l : List UInt8) {k : Nat} (h : k < l.length) : l.take (k + 1) = l.take k ++ [l.getD k 0] := by
  rw [List.take_add_one, List.getElem?_eq_getElem h, getD_len h]; rfl
theorem isBit_b0 {c : UInt8} (h : isBitC c = true) : (((c.toNat : Int) != 48) = false ∧ ((c.toNat : Int) == 48) = true ∧ c = 48) ∨ (((c.toNat : Int) != 48) = true ∧ ((c.toNat : Int) == 48) = false ∧ ((c.toNat : Int) != 49) = false ∧ ((c.toNat : Int) == 49) = true ∧ c = 49) := by
  rcases isBitC_or h with rfl | rfl
  · exact .inl ⟨rfl, rfl, rfl⟩
  · exact .inr ⟨rfl, rfl, rfl, rfl, rfl⟩
theorem isBit_no {c : UInt8} (h : isBitC c = false) : ((c.toNat : Int) != 48) = true ∧ ((c.toNat : Int) != 49) = true ∧ ((c.toNat : Int) == 48) = false ∧ ((c.toNat : Int) == 49) = false := by
  simp only [isBitC, Bool.or_eq_false_iff, beq_eq_false_iff_ne] at h
  have h1 : c.toNat ≠ 48 := fun e => h.1 (UInt8.toNat_inj.1 e)
  have h2 : c.toNat ≠ 49 := fun e => h.2 (UInt8.toNat_inj.1 e)
  simp only [bne_iff_ne, beq_eq_false_iff_ne]
  omega
theorem bitsOk_at {s : List UInt8} {m k : Nat} (h : bitsOk s m = true) (hk : k < s.length) : isBitC (s.getD k 0) = true := by
  rw [getD_len hk]
  exact List.all_eq_true.1 (bitsOk_b h).2 _ (List.getElem_mem hk)
theorem bitsOk_no {s : List UInt8} {m k : Nat} (hk : k < s.length) (h : isBitC (s.getD k 0) = false) : bitsOk s m = false := by
  rw [Bool.eq_false_iff]; intro e
  rw [bitsOk_at e hk] at h; cases h
theorem bv_sub (c : UInt8) (h : isBitC c = true) : ((c.toNat : Int) - 48) % 256 = ((bv c : Nat) : Int) := by
  rcases isBitC_or h with rfl | rfl <;> rfl
end G294
namespace Go.Proofs.Ytjgmegfbfjmnfaa
open Go.RowKit G294

set_option maxRecDepth 100000 in
set_option maxHeartbeats 1000000 in
theorem l10Bit_own (n : Nat) (w : World) (hn : n < 2) : Calls Try.prog 67 #[.int .i64 n] w (RetStr w [chB n]) := by
  have hdi : (48 + (n : Int)) = ((chB n).toNat : Int) := by
    match n, hn with
    | 0, _ => rfl
    | 1, _ => rfl
  have hseen : Seen (w.alloc (.cells #[.int .u8 (48 + (n : Int))] 5)) (.slice (some ⟨w.heap.size, 0, none⟩) 1 1) (bys [chB n]) := by
    refine ⟨_, 1, rfl, by simp, by unfold maxLen; omega, fun _ => ⟨w.heap.size, 0, rfl, by simp, fun i u hu => ?_⟩⟩
    match i, hu with
    | 0, hu =>
      simp only [bys, List.map_cons, List.getElem?_cons_zero, Option.some.injEq] at hu
      rw [← hu, hdi]; simp
  have hconv := run_string_seen (P := Try.prog) 22 5 9 Try.underlying22 Try.underlying5 Try.underlying9 hseen
  have HB := Lib.hid (turn_alloc w (.cells #[.int .u8 (48 + (n : Int))] 5))
  clear hdi hseen
  go_enter Try.func67, Try.ntmps67
  go_wp2_with fail
  go_ret
  exact ⟨rfl, HB.out⟩

theorem l10Bit_0 (w : World) : Calls Try.prog 67 #[.int .i64 0] w (RetStr w [48]) := l10Bit_own 0 w (by omega)
theorem l10Bit_1 (w : World) : Calls Try.prog 67 #[.int .i64 1] w (RetStr w [49]) := l10Bit_own 1 w (by omega)

def RetOut (w : World) (s : List UInt8) (n : Nat) (e : Ending) (w' : World) : Prop := e = .returned (.tuple #[.string (str s), .int .i64 (n : Int)]) ∧ TurnIn 0 0 w w'

set_option maxRecDepth 100000 in
set_option maxHeartbeats 4000000 in
theorem l10Out_any (st b : Nat) (w : World) (hst : st < 4) (hb : b < 2) : Calls Try.prog 63 #[.int .i64 st, .int .i64 b] w (RetOut w (outN st b) (nxtN st b)) := by
  have z0 : (str [48]).size = 1 := rfl
  have z1 : (str [49]).size = 1 := rfl
  have a0 : bits BinOp.and IntKind.i64 0 1 = 0 := rfl
  have a1 : bits BinOp.and IntKind.i64 1 1 = 1 := rfl
  have a2 : bits BinOp.and IntKind.i64 2 1 = 0 := rfl
  have a3 : bits BinOp.and IntKind.i64 3 1 = 1 := rfl
  have x0 : bits BinOp.xor IntKind.i64 0 0 = 0 := rfl
  have x1 : bits BinOp.xor IntKind.i64 0 1 = 1 := rfl
  have x2 : bits BinOp.xor IntKind.i64 1 0 = 1 := rfl
  have x3 : bits BinOp.xor IntKind.i64 1 1 = 0 := rfl
  have o0 : bits BinOp.or IntKind.i64 0 0 = 0 := rfl
  have o1 : bits BinOp.or IntKind.i64 0 1 = 1 := rfl
  have o2 : bits BinOp.or IntKind.i64 2 0 = 2 := rfl
  have o3 : bits BinOp.or IntKind.i64 2 1 = 3 := rfl
  have h4 : st = 0 ∨ st = 1 ∨ st = 2 ∨ st = 3 := by omega
  have h2 : b = 0 ∨ b = 1 := by omega
  clear hst hb
  rcases h4 with rfl | rfl | rfl | rfl <;> rcases h2 with rfl | rfl
  all_goals
    go_enter Try.func63, Try.ntmps63
    go_wp2_with fail
    first | ((with_reducible refine (l10Bit_0 _).mono ?_); rintro e w1 ⟨rfl, k1⟩) | ((with_reducible refine (l10Bit_1 _).mono ?_); rintro e w1 ⟨rfl, k1⟩)
    go_wp2_with fail
    first | ((with_reducible refine (l10Bit_0 _).mono ?_); rintro e w2 ⟨rfl, k2⟩) | ((with_reducible refine (l10Bit_1 _).mono ?_); rintro e w2 ⟨rfl, k2⟩)
    go_wp2_with fail
    first | ((with_reducible refine (l10Bit_0 _).mono ?_); rintro e w3 ⟨rfl, k3⟩) | ((with_reducible refine (l10Bit_1 _).mono ?_); rintro e w3 ⟨rfl, k3⟩)
    go_wp2_with fail
    go_ret2
    exact ⟨by first | rfl | (simp only [str_append]; rfl), turn_trans (turn_trans k1 k2 (by omega)) k3 (by omega)⟩

set_option maxRecDepth 100000 in
set_option maxHeartbeats 1000000 in
theorem l10Bits_any (s : List UInt8) (m : Nat) (w : World) (hs : s.length ≤ 1000000000000) : Calls Try.prog 53 #[.string (str s), .int .i64 m] w fun e w' => e = .returned (.bool (bitsOk s m)) ∧ w = w' := by
  have hsz : (str s).size = s.length := str_size s
  have HD : Hid (bitsOk s m = (decide (s.length ≤ m) && s.all isBitC)) := Lib.hid rfl
  generalize hnn : s.length = n at *
  have HN := Lib.hid hnn
  clear hnn
  go_enter Try.func53, Try.ntmps53
  go_wp2_with fail
  go_loop [5] (fun i => ∃ k : Nat, k ≤ n ∧ i = .int .i64 k ∧ Hid ((s.take k).all isBitC = true)) (fun i => n - (intOf i).toNat)
  case atStart => exact ⟨0, Nat.zero_le _, rfl, Lib.hid rfl⟩
  case round =>
    obtain ⟨k, hk, rfl, HK⟩ := hrel
    by_cases hlt : k < n
    · have hki : (k : Int) < (n : Int) := by omega
      have hsg := str_get s k (by omega)
      have HTS := Lib.hid (take_snocD s (show k < s.length by rw [HN.out]; exact hlt))
      have HNO : Hid (isBitC (s.getD k 0) = false → bitsOk s m = false) := Lib.hid (bitsOk_no (by rw [HN.out]; exact hlt))
      generalize s.getD k 0 = c at *
      by_cases hc : isBitC c = true
      · have HK2 : Hid ((s.take (k + 1)).all isBitC = true) := by
          show _ = _
          rw [HTS.out, List.all_append, HK.out]; simp [hc]
        rcases isBit_b0 hc with ⟨e1, e2, e3⟩ | ⟨e1, e2, e3, e4, e5⟩
        · clear hc e2 e3 HTS
          go_wp2_with fail
          go_round
          case rel => exact ⟨k + 1, by omega, by go_num, HK2⟩
          case measure => simp [intOf]; omega
        · clear hc e2 e4 e5 HTS
          go_wp2_with fail
          go_round
          case rel => exact ⟨k + 1, by omega, by go_num, HK2⟩
          case measure => simp [intOf]; omega
      · have hcf : isBitC c = false := by simpa using hc
        have HF := Lib.hid (HNO.out hcf)
        obtain ⟨e1, e2, e3, e4⟩ := isBit_no hcf
        clear hc hcf HTS HNO e3 e4
        go_wp2_with fail
        go_ret
        exact ⟨by rw [HF.out]; rfl, rfl⟩
    · obtain rfl : k = n := by omega
      have hki : ¬ (k : Int) < (k : Int) := by omega
      have HV : Hid (bitsOk s m = decide (k ≤ m)) := by
        show _ = _
        have := HK.out
        rw [List.take_of_length_le (by rw [HN.out]; exact Nat.le_refl _)] at this
        rw [HD.out, this]; simp
      go_wp2_with fail
      go_ret
      exact ⟨by rw [HV.out]; simp, rfl⟩

set_option maxRecDepth 100000 in
set_option maxHeartbeats 1000000 in
theorem l10Run_own (s : List UInt8) (w : World) (hs : s.length ≤ 1000) (hb : s.all isBitC = true) : Calls Try.prog 54 #[.string (str s)] w (RetStr w (encT 0 s)) := by
  have hsz : (str s).size = s.length := str_size s
  have HBT : Hid (∀ k, k < s.length → isBitC (s.getD k 0) = true) := fun k hk => by
    rw [getD_len hk]; exact List.all_eq_true.1 hb _ (List.getElem_mem hk)
  have HTS : Hid (∀ k, k < s.length → encT 0 (s.take (k + 1)) = encT 0 (s.take k) ++ outN (endT 0 (s.take k)) (bv (s.getD k 0)) ∧ endT 0 (s.take (k + 1)) = nxtN (endT 0 (s.take k)) (bv (s.getD k 0))) := fun k hk => by
    rw [take_snocD s hk]; exact ⟨encT_snoc _ _ _, endT_snoc _ _ _⟩
  have HL : Hid (∀ k, (str (encT 0 (s.take k))).size ≤ 3 * k) := fun k => by
    rw [str_size, encT_len, List.length_take]; omega
  have HE4 : Hid (∀ k, endT 0 (s.take k) < 4) := fun k => endT_lt (by omega) _
  have HF : Hid (encT 0 (s.take s.length) = encT 0 s) := by show _ = _; rw [List.take_length]
  obtain ⟨R, hR⟩ : ∃ R, R = fun k => encT 0 (s.take k) := ⟨_, rfl⟩
  obtain ⟨E, hE⟩ : ∃ E, E = fun k => endT 0 (s.take k) := ⟨_, rfl⟩
  have HR : Hid (∀ k, encT 0 (s.take k) = R k) := fun k => by rw [hR]
  have HE : Hid (∀ k, endT 0 (s.take k) = E k) := fun k => by rw [hE]
  have hR0 : R 0 = [] := by rw [hR]; rfl
  have hE0 : E 0 = 0 := by rw [hE]; rfl
  have HR0 := Lib.hid hR0
  have HE0 := Lib.hid hE0
  simp only [HR.out, HE.out] at HTS HL HE4 HF
  generalize hnn : s.length = n at *
  have HN := Lib.hid hnn
  clear hR hE HR HE hR0 hE0 hnn hb
  rw [← HF.out]
  go_enter Try.func54, Try.ntmps54
  go_wp2_with fail
  go_loopw [3, 4, 5] (fun o st i wr => ∃ k : Nat, k ≤ n ∧ i = .int .i64 k ∧ st = .int .i64 (E k : Nat) ∧ o = .string (str (R k)) ∧ Below w.heap.size w wr) (fun _ _ i _ => n - (intOf i).toNat)
  case atStart => exact ⟨0, Nat.zero_le _, rfl, by rw [HE0.out]; rfl, by rw [HR0.out]; rfl, Below.refl _ _⟩
  case round =>
    obtain ⟨k, hk, rfl, rfl, rfl, hb⟩ := hrel
    by_cases hlt : k < n
    · have hki : (k : Int) < (n : Int) := by omega
      have hsg := str_get s k (by omega)
      have HB := Lib.hid (HBT.out k hlt)
      have HST := Lib.hid (HTS.out k hlt)
      have hL := HL.out k
      have HE := Lib.hid (HE4.out k)
      generalize s.getD k 0 = c at *
      have hsub := bv_sub c HB.out
      have HC := Lib.hid (l10Out_any (E k) (bv c) wr HE.out (bv_lt c))
      have hlo : (str (outN (E k) (bv c))).size = 3 := by rw [str_size]; rfl
      have HAP : Hid (str (R k) ++ str (outN (E k) (bv c)) = str (R (k + 1))) := by show _ = _; rw [HST.out.1, str_append]
      have HEN : Hid (nxtN (E k) (bv c) = E (k + 1)) := by show _ = _; rw [HST.out.2]
      generalize outN (E k) (bv c) = o at *
      generalize nxtN (E k) (bv c) = st2 at *
      generalize bv c = b at *
      go_wp2_with fail
      refine HC.out.mono ?_
      rintro e w2 ⟨rfl, k2⟩
      have hb2 := k2.base hb hb.size (by omega)
      go_wp2_with fail
      go_roundw
      case rel => exact ⟨k + 1, by omega, by go_num, by rw [HEN.out], by rw [HAP.out], hb2⟩
      case measure => simp [intOf]; omega
    · obtain rfl : k = n := by omega
      have hki : ¬ (k : Int) < (k : Int) := by omega
      go_wp2_with fail
      go_ret
      exact ⟨rfl, TurnIn.of_below hb⟩

set_option maxRecDepth 100000 in
set_option maxHeartbeats 1000000 in
theorem sEncodeBits_own (s : List UInt8) (w : World) (hs : s.length ≤ 1000000000000) : Calls Try.prog 21 #[.string (str s)] w (RetStrOk w (encR10 s) (encOk10 s)) := by
  by_cases h : encOk10 s = true
  · have H : Hid (bitsOk s 30 = true) := h
    have HO := Lib.hid h
    have HE : Hid (encT 0 (s ++ [48, 48]) = encR10 s) := Lib.hid (encR10_yes h).symm
    have hl := (bitsOk_b h).1
    have HB := Lib.hid (bitsOk_b h).2
    have HR := Lib.hid (l10Run_own (s ++ [48, 48]) w (by simp; omega) (by simp [HB.out, isBitC]))
    have hsz : (str s).size ≤ 30 := by rw [str_size]; exact hl
    have HA : Hid ((str s ++ ⟨#[48, 48]⟩ : ByteArray) = str (s ++ [48, 48])) := str_append s [48, 48]
    clear h
    go_enter Try.func21, Try.ntmps21
    go_wp2_with fail
    refine (l10Bits_any s 30 _ hs).mono ?_
    rintro e w' ⟨rfl, rfl⟩
    rw [H.out]
    go_wp2_with fail
    rw [HA.out]
    refine HR.out.mono ?_
    rintro e w1 ⟨rfl, k1⟩
    go_wp2_with fail
    go_ret2
    exact ⟨by rw [HE.out, HO.out]; rfl, k1⟩
  · have HO : Hid (encOk10 s = false) := by show encOk10 s = false; simpa using h
    have H : Hid (bitsOk s 30 = false) := HO.out
    have HE := Lib.hid (encR10_no HO.out)
    clear h
    go_enter Try.func21, Try.ntmps21
    go_wp2_with fail
    refine (l10Bits_any s 30 _ hs).mono ?_
    rintro e w' ⟨rfl, rfl⟩
    rw [H.out]
    go_wp2_with fail
    go_ret2
    exact ⟨by rw [HE.out, HO.out]; rfl, TurnIn.refl _⟩

end Go.Proofs.Ytjgmegfbfjmnfaa
