/- Joined texts: VitS, VitS2, BytIn, VitS3, BytesOwn, VitI, VitP. -/
import Derived.Test.YtjgmegfbfjmnfaaBd00
import Derived.Test.YtjgmegfbfjmnfaaBd02
import Derived.Test.YtjgmegfbfjmnfaaBd03
import Derived.Deep.QuietTactic
import Derived.BigQuiet
import Derived.Lib.ConvBytes
import Derived.StillTailTactics
import Derived.WalkMore
import Derived.ScopeJumps
import Derived.Scope
set_option linter.unusedSimpArgs false
set_option linter.unusedVariables false
/- Chapter 10: bits, outputs, encoding, distances: the model's. -/
namespace G294
open Go Go.RowKit
theorem getD_len {α : Type} {l : List α} {k : Nat} (h : k < l.length) (d : α) : l.getD k d = l[k] := by simp [List.getD, h]
theorem take_snocD (l : List UInt8) {k : Nat} (h : k < l.length) : l.take (k + 1) = l.take k ++ [l.getD k 0] := by
  rw [List.take_add_one, List.getElem?_eq_getElem h, getD_len h]; rfl
theorem isBit_b0 {c : UInt8} (h : isBitC c = true) : (((c.toNat : Int) != 48) = false ∧ ((c.toNat : Int) == 48) = true ∧ c = 48) ∨ (((c.toNat : Int) != 48) = true ∧ ((c.toNat : Int) == 48) = false ∧ ((c.toNat : Int) != 49) = false ∧ ((c.toNat : Int) == 49) = true ∧ c = 49) := by
  rcases isBitC_or h with rfl | rfl
  · exact .inl ⟨rfl, rfl, rfl⟩
  · exact .inr ⟨rfl, rfl, rfl, rfl, rfl⟩
theorem isBit_no {c : UInt8} (h : isBitC c = false) : ((c.toNat : Int) != 48) = true ∧ ((c.toNat : Int) != 49) = true ∧ ((c.toNat : Int) == 48) = false ∧ ((c.toNat : Int) == 49) = false := by
  simp only [isBitC, Bool.or_eq_false_iff, beq_eq_false_iff_ne] at h
  have h1 : c.toNat ≠ 48 := fun e => h.1 (UInt8.toNat_inj.1 e)
  have h2 : c.toNat ≠ 49 := fun e => h.2 (UInt8.toNat_inj.1 e)
  simp only [bne_iff_ne, beq_eq_false_iff_ne]
  omega
theorem bitsOk_at {s : List UInt8} {m k : Nat} (h : bitsOk s m = true) (hk : k < s.length) : isBitC (s.getD k 0) = true := by
  rw [getD_len hk]
  exact List.all_eq_true.1 (bitsOk_b h).2 _ (List.getElem_mem hk)
theorem bitsOk_no {s : List UInt8} {m k : Nat} (hk : k < s.length) (h : isBitC (s.getD k 0) = false) : bitsOk s m = false := by
  rw [Bool.eq_false_iff]; intro e
  rw [bitsOk_at e hk] at h; cases h
theorem bv_sub (c : UInt8) (h : isBitC c = true) : ((c.toNat : Int) - 48) % 256 = ((bv c : Nat) : Int) := by
  rcases isBitC_or h with rfl | rfl <;> rfl
end G294
namespace Go.Proofs.Ytjgmegfbfjmnfaa
open Go.RowKit G294

set_option maxRecDepth 100000 in
set_option maxHeartbeats 1000000 in
theorem l10Bit_own (n : Nat) (w : World) (hn : n < 2) : Calls Try.prog 67 #[.int .i64 n] w (RetStr w [chB n]) := by
  have hdi : (48 + (n : Int)) = ((chB n).toNat : Int) := by
    match n, hn with
    | 0, _ => rfl
    | 1, _ => rfl
  have hseen : Seen (w.alloc (.cells #[.int .u8 (48 + (n : Int))] 5)) (.slice (some ⟨w.heap.size, 0, none⟩) 1 1) (bys [chB n]) := by
    refine ⟨_, 1, rfl, by simp, by unfold maxLen; omega, fun _ => ⟨w.heap.size, 0, rfl, by simp, fun i u hu => ?_⟩⟩
    match i, hu with
    | 0, hu =>
      simp only [bys, List.map_cons, List.getElem?_cons_zero, Option.some.injEq] at hu
      rw [← hu, hdi]; simp
  have hconv := run_string_seen (P := Try.prog) 22 5 9 Try.underlying22 Try.underlying5 Try.underlying9 hseen
  have HB := Lib.hid (turn_alloc w (.cells #[.int .u8 (48 + (n : Int))] 5))
  clear hdi hseen
  go_enter Try.func67, Try.ntmps67
  go_wp2_with fail
  go_ret
  exact ⟨rfl, HB.out⟩

theorem l10Bit_0 (w : World) : Calls Try.prog 67 #[.int .i64 0] w (RetStr w [48]) := l10Bit_own 0 w (by omega)
theorem l10Bit_1 (w : World) : Calls Try.prog 67 #[.int .i64 1] w (RetStr w [49]) := l10Bit_own 1 w (by omega)

def RetOut (w : World) (s : List UInt8) (n : Nat) (e : Ending) (w' : World) : Prop := e = .returned (.tuple #[.string (str s), .int .i64 (n : Int)]) ∧ TurnIn 0 0 w w'

set_option maxRecDepth 100000 in
set_option maxHeartbeats 4000000 in
theorem l10Out_any (st b : Nat) (w : World) (hst : st < 4) (hb : b < 2) : Calls Try.prog 63 #[.int .i64 st, .int .i64 b] w (RetOut w (outN st b) (nxtN st b)) := by
  have z0 : (str [48]).size = 1 := rfl
  have z1 : (str [49]).size = 1 := rfl
  have a0 : bits BinOp.and IntKind.i64 0 1 = 0 := rfl
  have a1 : bits BinOp.and IntKind.i64 1 1 = 1 := rfl
  have a2 : bits BinOp.and IntKind.i64 2 1 = 0 := rfl
  have a3 : bits BinOp.and IntKind.i64 3 1 = 1 := rfl
  have x0 : bits BinOp.xor IntKind.i64 0 0 = 0 := rfl
  have x1 : bits BinOp.xor IntKind.i64 0 1 = 1 := rfl
  have x2 : bits BinOp.xor IntKind.i64 1 0 = 1 := rfl
  have x3 : bits BinOp.xor IntKind.i64 1 1 = 0 := rfl
  have o0 : bits BinOp.or IntKind.i64 0 0 = 0 := rfl
  have o1 : bits BinOp.or IntKind.i64 0 1 = 1 := rfl
  have o2 : bits BinOp.or IntKind.i64 2 0 = 2 := rfl
  have o3 : bits BinOp.or IntKind.i64 2 1 = 3 := rfl
  have h4 : st = 0 ∨ st = 1 ∨ st = 2 ∨ st = 3 := by omega
  have h2 : b = 0 ∨ b = 1 := by omega
  clear hst hb
  rcases h4 with rfl | rfl | rfl | rfl <;> rcases h2 with rfl | rfl
  all_goals
    go_enter Try.func63, Try.ntmps63
    go_wp2_with fail
    first | ((with_reducible refine (l10Bit_0 _).mono ?_); rintro e w1 ⟨rfl, k1⟩) | ((with_reducible refine (l10Bit_1 _).mono ?_); rintro e w1 ⟨rfl, k1⟩)
    go_wp2_with fail
    first | ((with_reducible refine (l10Bit_0 _).mono ?_); rintro e w2 ⟨rfl, k2⟩) | ((with_reducible refine (l10Bit_1 _).mono ?_); rintro e w2 ⟨rfl, k2⟩)
    go_wp2_with fail
    first | ((with_reducible refine (l10Bit_0 _).mono ?_); rintro e w3 ⟨rfl, k3⟩) | ((with_reducible refine (l10Bit_1 _).mono ?_); rintro e w3 ⟨rfl, k3⟩)
    go_wp2_with fail
    go_ret2
    exact ⟨by first | rfl | (simp only [str_append]; rfl), turn_trans (turn_trans k1 k2 (by omega)) k3 (by omega)⟩

set_option maxRecDepth 100000 in
set_option maxHeartbeats 1000000 in
theorem l10Bits_any (s : List UInt8) (m : Nat) (w : World) (hs : s.length ≤ 1000000000000) : Calls Try.prog 53 #[.string (str s), .int .i64 m] w fun e w' => e = .returned (.bool (bitsOk s m)) ∧ w = w' := by
  have hsz : (str s).size = s.length := str_size s
  have HD : Hid (bitsOk s m = (decide (s.length ≤ m) && s.all isBitC)) := Lib.hid rfl
  generalize hnn : s.length = n at *
  have HN := Lib.hid hnn
  clear hnn
  go_enter Try.func53, Try.ntmps53
  go_wp2_with fail
  go_loop [5] (fun i => ∃ k : Nat, k ≤ n ∧ i = .int .i64 k ∧ Hid ((s.take k).all isBitC = true)) (fun i => n - (intOf i).toNat)
  case atStart => exact ⟨0, Nat.zero_le _, rfl, Lib.hid rfl⟩
  case round =>
    obtain ⟨k, hk, rfl, HK⟩ := hrel
    by_cases hlt : k < n
    · have hki : (k : Int) < (n : Int) := by omega
      have hsg := str_get s k (by omega)
      have HTS := Lib.hid (take_snocD s (show k < s.length by rw [HN.out]; exact hlt))
      have HNO : Hid (isBitC (s.getD k 0) = false → bitsOk s m = false) := Lib.hid (bitsOk_no (by rw [HN.out]; exact hlt))
      generalize s.getD k 0 = c at *
      by_cases hc : isBitC c = true
      · have HK2 : Hid ((s.take (k + 1)).all isBitC = true) := by
          show _ = _
          rw [HTS.out, List.all_append, HK.out]; simp [hc]
        rcases isBit_b0 hc with ⟨e1, e2, e3⟩ | ⟨e1, e2, e3, e4, e5⟩
        · clear hc e2 e3 HTS
          go_wp2_with fail
          go_round
          case rel => exact ⟨k + 1, by omega, by go_num, HK2⟩
          case measure => simp [intOf]; omega
        · clear hc e2 e4 e5 HTS
          go_wp2_with fail
          go_round
          case rel => exact ⟨k + 1, by omega, by go_num, HK2⟩
          case measure => simp [intOf]; omega
      · have hcf : isBitC c = false := by simpa using hc
        have HF := Lib.hid (HNO.out hcf)
        obtain ⟨e1, e2, e3, e4⟩ := isBit_no hcf
        clear hc hcf HTS HNO e3 e4
        go_wp2_with fail
        go_ret
        exact ⟨by rw [HF.out]; rfl, rfl⟩
    · obtain rfl : k = n := by omega
      have hki : ¬ (k : Int) < (k : Int) := by omega
      have HV : Hid (bitsOk s m = decide (k ≤ m)) := by
        show _ = _
        have := HK.out
        rw [List.take_of_length_le (by rw [HN.out]; exact Nat.le_refl _)] at this
        rw [HD.out, this]; simp
      go_wp2_with fail
      go_ret
      exact ⟨by rw [HV.out]; simp, rfl⟩

set_option maxRecDepth 100000 in
set_option maxHeartbeats 1000000 in
theorem l10Run_own (s : List UInt8) (w : World) (hs : s.length ≤ 1000) (hb : s.all isBitC = true) : Calls Try.prog 54 #[.string (str s)] w (RetStr w (encT 0 s)) := by
  have hsz : (str s).size = s.length := str_size s
  have HBT : Hid (∀ k, k < s.length → isBitC (s.getD k 0) = true) := fun k hk => by
    rw [getD_len hk]; exact List.all_eq_true.1 hb _ (List.getElem_mem hk)
  have HTS : Hid (∀ k, k < s.length → encT 0 (s.take (k + 1)) = encT 0 (s.take k) ++ outN (endT 0 (s.take k)) (bv (s.getD k 0)) ∧ endT 0 (s.take (k + 1)) = nxtN (endT 0 (s.take k)) (bv (s.getD k 0))) := fun k hk => by
    rw [take_snocD s hk]; exact ⟨encT_snoc _ _ _, endT_snoc _ _ _⟩
  have HL : Hid (∀ k, (str (encT 0 (s.take k))).size ≤ 3 * k) := fun k => by
    rw [str_size, encT_len, List.length_take]; omega
  have HE4 : Hid (∀ k, endT 0 (s.take k) < 4) := fun k => endT_lt (by omega) _
  have HF : Hid (encT 0 (s.take s.length) = encT 0 s) := by show _ = _; rw [List.take_length]
  obtain ⟨R, hR⟩ : ∃ R, R = fun k => encT 0 (s.take k) := ⟨_, rfl⟩
  obtain ⟨E, hE⟩ : ∃ E, E = fun k => endT 0 (s.take k) := ⟨_, rfl⟩
  have HR : Hid (∀ k, encT 0 (s.take k) = R k) := fun k => by rw [hR]
  have HE : Hid (∀ k, endT 0 (s.take k) = E k) := fun k => by rw [hE]
  have hR0 : R 0 = [] := by rw [hR]; rfl
  have hE0 : E 0 = 0 := by rw [hE]; rfl
  have HR0 := Lib.hid hR0
  have HE0 := Lib.hid hE0
  simp only [HR.out, HE.out] at HTS HL HE4 HF
  generalize hnn : s.length = n at *
  have HN := Lib.hid hnn
  clear hR hE HR HE hR0 hE0 hnn hb
  rw [← HF.out]
  go_enter Try.func54, Try.ntmps54
  go_wp2_with fail
  go_loopw [3, 4, 5] (fun o st i wr => ∃ k : Nat, k ≤ n ∧ i = .int .i64 k ∧ st = .int .i64 (E k : Nat) ∧ o = .string (str (R k)) ∧ Below w.heap.size w wr) (fun _ _ i _ => n - (intOf i).toNat)
  case atStart => exact ⟨0, Nat.zero_le _, rfl, by rw [HE0.out]; rfl, by rw [HR0.out]; rfl, Below.refl _ _⟩
  case round =>
    obtain ⟨k, hk, rfl, rfl, rfl, hb⟩ := hrel
    by_cases hlt : k < n
    · have hki : (k : Int) < (n : Int) := by omega
      have hsg := str_get s k (by omega)
      have HB := Lib.hid (HBT.out k hlt)
      have HST := Lib.hid (HTS.out k hlt)
      have hL := HL.out k
      have HE := Lib.hid (HE4.out k)
      generalize s.getD k 0 = c at *
      have hsub := bv_sub c HB.out
      have HC := Lib.hid (l10Out_any (E k) (bv c) wr HE.out (bv_lt c))
      have hlo : (str (outN (E k) (bv c))).size = 3 := by rw [str_size]; rfl
      have HAP : Hid (str (R k) ++ str (outN (E k) (bv c)) = str (R (k + 1))) := by show _ = _; rw [HST.out.1, str_append]
      have HEN : Hid (nxtN (E k) (bv c) = E (k + 1)) := by show _ = _; rw [HST.out.2]
      generalize outN (E k) (bv c) = o at *
      generalize nxtN (E k) (bv c) = st2 at *
      generalize bv c = b at *
      go_wp2_with fail
      refine HC.out.mono ?_
      rintro e w2 ⟨rfl, k2⟩
      have hb2 := k2.base hb hb.size (by omega)
      go_wp2_with fail
      go_roundw
      case rel => exact ⟨k + 1, by omega, by go_num, by rw [HEN.out], by rw [HAP.out], hb2⟩
      case measure => simp [intOf]; omega
    · obtain rfl : k = n := by omega
      have hki : ¬ (k : Int) < (k : Int) := by omega
      go_wp2_with fail
      go_ret
      exact ⟨rfl, TurnIn.of_below hb⟩

set_option maxRecDepth 100000 in
set_option maxHeartbeats 1000000 in
theorem sEncodeBits_own (s : List UInt8) (w : World) (hs : s.length ≤ 1000000000000) : Calls Try.prog 21 #[.string (str s)] w (RetStrOk w (encR10 s) (encOk10 s)) := by
  by_cases h : encOk10 s = true
  · have H : Hid (bitsOk s 30 = true) := h
    have HO := Lib.hid h
    have HE : Hid (encT 0 (s ++ [48, 48]) = encR10 s) := Lib.hid (encR10_yes h).symm
    have hl := (bitsOk_b h).1
    have HB := Lib.hid (bitsOk_b h).2
    have HR := Lib.hid (l10Run_own (s ++ [48, 48]) w (by simp; omega) (by simp [HB.out, isBitC]))
    have hsz : (str s).size ≤ 30 := by rw [str_size]; exact hl
    have HA : Hid ((str s ++ ⟨#[48, 48]⟩ : ByteArray) = str (s ++ [48, 48])) := str_append s [48, 48]
    clear h
    go_enter Try.func21, Try.ntmps21
    go_wp2_with fail
    refine (l10Bits_any s 30 _ hs).mono ?_
    rintro e w' ⟨rfl, rfl⟩
    rw [H.out]
    go_wp2_with fail
    rw [HA.out]
    refine HR.out.mono ?_
    rintro e w1 ⟨rfl, k1⟩
    go_wp2_with fail
    go_ret2
    exact ⟨by rw [HE.out, HO.out]; rfl, k1⟩
  · have HO : Hid (encOk10 s = false) := by show encOk10 s = false; simpa using h
    have H : Hid (bitsOk s 30 = false) := HO.out
    have HE := Lib.hid (encR10_no HO.out)
    clear h
    go_enter Try.func21, Try.ntmps21
    go_wp2_with fail
    refine (l10Bits_any s 30 _ hs).mono ?_
    rintro e w' ⟨rfl, rfl⟩
    rw [H.out]
    go_wp2_with fail
    go_ret2
    exact ⟨by rw [HE.out, HO.out]; rfl, TurnIn.refl _⟩

end Go.Proofs.Ytjgmegfbfjmnfaa

/- Chapter 10: distances, costs, outputs at a state, flipped bits: the model's. -/
namespace G294
open Go Go.RowKit
theorem dl_take_same {a b : List UInt8} {k : Nat} (ha : k < a.length) (hb : k < b.length) (h : a.getD k 0 = b.getD k 0) : dl (a.take (k + 1)) (b.take (k + 1)) = dl (a.take k) (b.take k) := by
  rw [take_snocD a ha, take_snocD b hb, dl_append (by simp; omega), h]
  simp [dl]
theorem dl_take_more {a b : List UInt8} {k : Nat} (ha : k < a.length) (hb : k < b.length) (h : a.getD k 0 ≠ b.getD k 0) : dl (a.take (k + 1)) (b.take (k + 1)) = dl (a.take k) (b.take k) + 1 := by
  rw [take_snocD a ha, take_snocD b hb, dl_append (by simp; omega)]
  simp only [dl, if_neg h]
theorem cosR_no {s r : List UInt8} (h : cosOk s r = false) : cosR s r = 0 := if_neg (by rw [h]; decide)
theorem cosR_yes {s r : List UInt8} (h : cosOk s r = true) : cosR s r = (dl (encR10 s) r : Int) := if_pos h
theorem dstR_no {s r : List UInt8} (h : dstOk s r = false) : dstR s r = 0 := if_neg (by rw [h]; decide)
theorem dstR_yes {s r : List UInt8} (h : dstOk s r = true) : dstR s r = (dl s r : Int) := if_pos h
def RetIntB (w : World) (n : Int) (ok : Bool) (e : Ending) (w' : World) : Prop := e = .returned (.tuple #[.int .i64 n, .bool ok]) ∧ TurnIn 0 0 w w'
end G294
namespace Go.Proofs.Ytjgmegfbfjmnfaa
open Go.RowKit G294

set_option maxHeartbeats 1000000 in
theorem l10Unlike_own (a b : List UInt8) (w : World) (hl : a.length = b.length) (hn : a.length ≤ 1000000) : Calls Try.prog 64 #[.string (str a), .string (str b)] w (RetInt w (dl a b : Nat)) := by
  have hs1 : (str a).size = a.length := str_size a
  have hs2 : (str b).size = a.length := by rw [str_size, hl]
  have HS : Hid (∀ k, k < a.length → a.getD k 0 = b.getD k 0 → dl (a.take (k + 1)) (b.take (k + 1)) = dl (a.take k) (b.take k)) := fun k hk h => dl_take_same hk (by omega) h
  have HM : Hid (∀ k, k < a.length → a.getD k 0 ≠ b.getD k 0 → dl (a.take (k + 1)) (b.take (k + 1)) = dl (a.take k) (b.take k) + 1) := fun k hk h => dl_take_more hk (by omega) h
  have HL : Hid (∀ k, dl (a.take k) (b.take k) ≤ k) := fun k => Nat.le_trans dl_le (by rw [List.length_take]; omega)
  have HF : Hid (dl (a.take a.length) (b.take a.length) = dl a b) := by show _ = _; rw [List.take_length, hl, List.take_length]
  obtain ⟨D, hD⟩ : ∃ D, D = fun k => dl (a.take k) (b.take k) := ⟨_, rfl⟩
  have HD : Hid (∀ k, dl (a.take k) (b.take k) = D k) := fun k => by rw [hD]
  have HD0 : Hid (D 0 = 0) := by show _ = _; rw [hD]; rfl
  simp only [HD.out] at HS HM HL HF
  rw [← HF.out]
  have HG1 : Hid (∀ k (h : k < (str a).size), (str a)[k] = a.getD k 0) := fun k h => str_get a k h
  have HG2 : Hid (∀ k (h : k < (str b).size), (str b)[k] = b.getD k 0) := fun k h => str_get b k h
  generalize hnn : a.length = n at *
  clear hD HD HF hl hnn
  go_enter Try.func64, Try.ntmps64
  go_wp2_with fail
  go_loopw [5, 6] (fun d i wr => ∃ k : Nat, k ≤ n ∧ i = .int .i64 k ∧ d = .int .i64 (D k : Nat) ∧ Below w.heap.size w wr) (fun _ i _ => n - (intOf i).toNat)
  case atStart => exact ⟨0, Nat.zero_le _, rfl, by rw [HD0.out]; rfl, Below.refl _ _⟩
  case round =>
    obtain ⟨k, hk, rfl, rfl, hb⟩ := hrel
    by_cases hlt : k < n
    · have hki : (k : Int) < (n : Int) := by omega
      have hg1 := HG1.out k (by omega)
      have hg2 := HG2.out k (by omega)
      have hL := HL.out k
      have HS2 := Lib.hid (HS.out k hlt)
      have HM2 := Lib.hid (HM.out k hlt)
      generalize a.getD k 0 = x at *
      generalize b.getD k 0 = y at *
      by_cases hz : x = y
      · have hbb := bne_byte (x := x) (y := y) false (by simp [hz])
        have HK := Lib.hid (HS2.out hz)
        clear hz HS2 HM2
        generalize D k = z at *
        go_wp2_with fail
        go_quiet (fail)
        go_wp2_with fail
        go_roundw
        case rel => exact ⟨k + 1, by omega, by go_num, by rw [HK.out], below_drewN hb _⟩
        case measure => simp [intOf]; omega
      · have hbb := bne_byte (x := x) (y := y) true (by simpa using hz)
        have HK := Lib.hid (HM2.out hz)
        clear hz HS2 HM2
        generalize D k = z at *
        go_wp2_with fail
        go_quiet (fail)
        go_wp2_with fail
        go_roundw
        case rel => exact ⟨k + 1, by omega, by go_num, by rw [HK.out]; go_num, below_drewN hb _⟩
        case measure => simp [intOf]; omega
    · obtain rfl : k = n := by omega
      have hki : ¬ (k : Int) < (k : Int) := by omega
      go_wp2_with fail
      go_ret
      exact ⟨rfl, TurnIn.of_below hb⟩

set_option maxHeartbeats 1000000 in
theorem sDistanceBits_own (a b : List UInt8) (w : World) (ha : a.length ≤ 1000000000000) (hb : b.length ≤ 1000000000000) : Calls Try.prog 28 #[.string (str a), .string (str b)] w (RetIntB w (dstR a b) (dstOk a b)) := by
  have hs1 : (str a).size = a.length := str_size a
  have hs2 : (str b).size = b.length := str_size b
  have HD : Hid (dstOk a b = (bitsOk a 96 && (bitsOk b 96 && decide (a.length = b.length)))) := Lib.hid rfl
  have HNO : Hid (dstOk a b = false → dstR a b = 0) := dstR_no
  have HYES : Hid (dstOk a b = true → dstR a b = (dl a b : Int)) := dstR_yes
  have HA := Lib.hid (fun W => l10Bits_any a 96 W ha)
  have HB := Lib.hid (fun W => l10Bits_any b 96 W hb)
  have HU := Lib.hid (fun W (h : a.length = b.length) (h' : a.length ≤ 1000000) => l10Unlike_own a b W h h')
  have HAL : Hid (bitsOk a 96 = true → a.length ≤ 96) := fun h => (bitsOk_b h).1
  generalize hnn : a.length = n at *
  generalize hmm : b.length = m at *
  clear hnn hmm
  by_cases h1 : bitsOk a 96 = true
  · have H1 := Lib.hid h1
    by_cases h2 : bitsOk b 96 = true
    · have H2 := Lib.hid h2
      by_cases h3 : n = m
      · subst h3
        have HO : Hid (dstOk a b = true) := by show _ = _; rw [HD.out, h1, h2]; simp
        have HR := Lib.hid (HYES.out HO.out)
        have h3b : ((n : Int) != (n : Int)) = false := by simp
        have HU2 := Lib.hid (HU.out w rfl (by have := HAL.out h1; omega))
        clear h1 h2
        go_enter Try.func28, Try.ntmps28
        go_wp2_with fail
        refine (HA.out _).mono ?_
        rintro e w' ⟨rfl, rfl⟩
        rw [H1.out]
        go_wp2_with fail
        refine (HB.out _).mono ?_
        rintro e w' ⟨rfl, rfl⟩
        rw [H2.out]
        go_wp2_with fail
        refine HU2.out.mono ?_
        rintro e w1 ⟨rfl, k1⟩
        go_wp2_with fail
        go_ret2
        exact ⟨by rw [HR.out, HO.out]; rfl, k1⟩
      · have HO : Hid (dstOk a b = false) := by show _ = _; rw [HD.out]; simp [h3]
        have HR := Lib.hid (HNO.out HO.out)
        have h3b : ((n : Int) != (m : Int)) = true := by rw [bne_iff_ne]; omega
        clear h1 h2
        go_enter Try.func28, Try.ntmps28
        go_wp2_with fail
        refine (HA.out _).mono ?_
        rintro e w' ⟨rfl, rfl⟩
        rw [H1.out]
        go_wp2_with fail
        refine (HB.out _).mono ?_
        rintro e w' ⟨rfl, rfl⟩
        rw [H2.out]
        go_wp2_with fail
        go_ret2
        exact ⟨by rw [HR.out, HO.out]; rfl, TurnIn.refl _⟩
    · have H2 : Hid (bitsOk b 96 = false) := by show bitsOk b 96 = false; simpa using h2
      have HO : Hid (dstOk a b = false) := by show _ = _; rw [HD.out, H2.out]; simp
      have HR := Lib.hid (HNO.out HO.out)
      clear h1 h2
      go_enter Try.func28, Try.ntmps28
      go_wp2_with fail
      refine (HA.out _).mono ?_
      rintro e w' ⟨rfl, rfl⟩
      rw [H1.out]
      go_wp2_with fail
      refine (HB.out _).mono ?_
      rintro e w' ⟨rfl, rfl⟩
      rw [H2.out]
      go_wp2_with fail
      go_ret2
      exact ⟨by rw [HR.out, HO.out]; rfl, TurnIn.refl _⟩
  · have H1 : Hid (bitsOk a 96 = false) := by show bitsOk a 96 = false; simpa using h1
    have HO : Hid (dstOk a b = false) := by show _ = _; rw [HD.out, H1.out]; rfl
    have HR := Lib.hid (HNO.out HO.out)
    clear h1
    go_enter Try.func28, Try.ntmps28
    go_wp2_with fail
    refine (HA.out _).mono ?_
    rintro e w' ⟨rfl, rfl⟩
    rw [H1.out]
    go_wp2_with fail
    go_ret2
    exact ⟨by rw [HR.out, HO.out]; rfl, TurnIn.refl _⟩

set_option maxHeartbeats 1000000 in
theorem sCostOf_own (a b : List UInt8) (w : World) (ha : a.length ≤ 1000000000000) (hb : b.length ≤ 1000000000000) : Calls Try.prog 33 #[.string (str a), .string (str b)] w (RetIntB w (cosR a b) (cosOk a b)) := by
  have hs2 : (str b).size = b.length := str_size b
  have HNO : Hid (cosOk a b = false → cosR a b = 0) := cosR_no
  have HE := Lib.hid (sEncodeBits_own a w ha)
  have HB := Lib.hid (fun W => l10Bits_any b 96 W hb)
  by_cases h1 : encOk10 a = true
  · have H1 := Lib.hid h1
    have hel := encR10_len h1
    have hal := (bitsOk_b h1).1
    have hs1 : (str (encR10 a)).size = (encR10 a).length := str_size _
    have HEB := Lib.hid (encR10_bits h1)
    have HD : Hid (cosOk a b = (bitsOk b 96 && decide ((encR10 a).length = b.length))) := by
      show _ = _
      unfold cosOk dstOk
      rw [h1, HEB.out]; simp
    have HYES : Hid (cosOk a b = true → cosR a b = (dl (encR10 a) b : Int)) := cosR_yes
    have HU := Lib.hid (fun W (h : (encR10 a).length = b.length) => l10Unlike_own (encR10 a) b W h (by omega))
    have hnb : (encR10 a).length ≤ 96 := by omega
    clear hel hal
    generalize encR10 a = ea at *
    generalize hnn : ea.length = n at *
    generalize hmm : b.length = m at *
    clear hnn hmm
    by_cases h2 : bitsOk b 96 = true
    · have H2 := Lib.hid h2
      by_cases h3 : n = m
      · subst h3
        have HO : Hid (cosOk a b = true) := by show _ = _; rw [HD.out, h2]; simp
        have HR := Lib.hid (HYES.out HO.out)
        have h3b : ((n : Int) != (n : Int)) = false := by simp
        clear h1 h2
        go_enter Try.func33, Try.ntmps33
        go_wp2_with fail
        refine HE.out.mono ?_
        rintro e w1 ⟨rfl, k1⟩
        rw [H1.out]
        go_wp2_with fail
        refine (HB.out _).mono ?_
        rintro e w' ⟨rfl, rfl⟩
        rw [H2.out]
        go_wp2_with fail
        refine (HU.out _ (by first | rfl | trivial)).mono ?_
        rintro e w2 ⟨rfl, k2⟩
        go_wp2_with fail
        go_ret2
        exact ⟨by rw [HR.out, HO.out]; rfl, turn_trans k1 k2 (by omega)⟩
      · have HO : Hid (cosOk a b = false) := by show _ = _; rw [HD.out]; simp [h3]
        have HR := Lib.hid (HNO.out HO.out)
        have h3b : ((n : Int) != (m : Int)) = true := by rw [bne_iff_ne]; omega
        clear h1 h2
        go_enter Try.func33, Try.ntmps33
        go_wp2_with fail
        refine HE.out.mono ?_
        rintro e w1 ⟨rfl, k1⟩
        rw [H1.out]
        go_wp2_with fail
        refine (HB.out _).mono ?_
        rintro e w' ⟨rfl, rfl⟩
        rw [H2.out]
        go_wp2_with fail
        go_ret2
        exact ⟨by rw [HR.out, HO.out]; rfl, k1⟩
    · have H2 : Hid (bitsOk b 96 = false) := by show bitsOk b 96 = false; simpa using h2
      have HO : Hid (cosOk a b = false) := by show _ = _; rw [HD.out, H2.out]; rfl
      have HR := Lib.hid (HNO.out HO.out)
      clear h1 h2
      go_enter Try.func33, Try.ntmps33
      go_wp2_with fail
      refine HE.out.mono ?_
      rintro e w1 ⟨rfl, k1⟩
      rw [H1.out]
      go_wp2_with fail
      refine (HB.out _).mono ?_
      rintro e w' ⟨rfl, rfl⟩
      rw [H2.out]
      go_wp2_with fail
      go_ret2
      exact ⟨by rw [HR.out, HO.out]; rfl, k1⟩
  · have H1 : Hid (encOk10 a = false) := by show encOk10 a = false; simpa using h1
    have HO : Hid (cosOk a b = false) := by show _ = _; unfold cosOk; rw [H1.out]; rfl
    have HR := Lib.hid (HNO.out HO.out)
    clear h1
    go_enter Try.func33, Try.ntmps33
    go_wp2_with fail
    refine HE.out.mono ?_
    rintro e w1 ⟨rfl, k1⟩
    rw [H1.out]
    go_wp2_with fail
    go_ret2
    exact ⟨by rw [HR.out, HO.out]; rfl, k1⟩

set_option maxHeartbeats 1000000 in
theorem l1Some_all (v : Value) (l : List Int) (size : Nat) (w : World) (hv : Seen w v (ints l)) (hsz : size ≤ 1000) :
    Calls Try.prog 61 #[v, .int .i64 size] w fun e w' => e = .returned (.bool (someOk l size)) ∧ w = w' := by
  obtain ⟨A, c, rfl, hlc, hcm, hx⟩ := hv
  rw [ints_length] at hlc hx
  simp only [ints_length]
  unfold maxLen at hcm
  generalize hnn : l.length = n at *
  have HN := Lib.hid hnn
  have HX := Lib.hid hx
  clear hnn hx
  go_enter Try.func61, Try.ntmps61
  go_wp2_with fail
  go_loop [9] (fun i => ∃ k : Nat, k ≤ n ∧ i = .int .i64 k ∧ Hid (∀ i, i < k → okAt l size i)) (fun i => n - (intOf i).toNat)
  case atStart => exact ⟨0, Nat.zero_le _, rfl, fun i h => by omega⟩
  case round =>
    obtain ⟨k, hk, rfl, HK⟩ := hrel
    by_cases hlt : k < n
    · have hki : (k : Int) < (n : Int) := by omega
      have hkl : k < l.length := by rw [HN.out]; exact hlt
      obtain ⟨b, off, rfl, hbl, hcell⟩ := HX.out (by omega)
      have hcx := hcell k _ (ints_get l k hkl)
      obtain ⟨x, hxx⟩ : ∃ x, x = l[k] := ⟨_, rfl⟩
      rw [← hxx] at hcx
      have HXX : Hid (l.getD k 0 = x) := by show l.getD k 0 = x; rw [hxx]; simp [List.getD, hkl]
      clear hxx
      by_cases h1 : inB x 0 ((size : Int) - 1) = true
      · have H1 := Lib.hid h1
        have hin : 0 ≤ x ∧ x ≤ (size : Int) - 1 := by unfold inB at h1; simpa using h1
        clear h1
        by_cases hk0 : k = 0
        · have hkz : ¬ (0 : Int) < (k : Int) := by omega
          have hkd : decide ((0 : Int) < (k : Int)) = false := by simp; omega
          have HK2 : Hid (∀ i, i < k + 1 → okAt l size i) := fun i hi => by
            obtain rfl : i = k := by omega
            have e := HXX.out
            exact ⟨by omega, by omega, fun h => by omega⟩
          clear hcell hk0
          go_wp2_with fail
          refine (l1In_any _ _ _ _).mono ?_
          rintro e w' ⟨rfl, rfl⟩
          rw [H1.out]
          go_wp2_with fail
          go_round
          case rel => exact ⟨k + 1, by omega, by go_num, HK2⟩
          case measure => simp [intOf]; omega
        · have hkz : (0 : Int) < (k : Int) := by omega
          have hkd : decide ((0 : Int) < (k : Int)) = true := by simp; omega
          have hcy := hcell (k - 1) _ (ints_get l (k - 1) (by omega))
          obtain ⟨y, hyy⟩ : ∃ y, y = l[k - 1] := ⟨_, rfl⟩
          rw [← hyy] at hcy
          have HYY : Hid (l.getD (k - 1) 0 = y) := by
            show l.getD (k - 1) 0 = y
            rw [hyy]; simp [List.getD, show k - 1 < l.length by omega]
          have hk1 : (0 : Int) ≤ (k : Int) - 1 := by omega
          have hk1' : (1 : Int) ≤ (k : Int) := by omega
          have hk2 : (k : Int) - 1 < (n : Int) := by omega
          have hk3 : ((k : Int) - 1).toNat = k - 1 := by omega
          clear hyy hcell hk0
          by_cases h2 : x ≤ y
          · have hd : decide (x ≤ y) = true := by simpa using h2
            have HF := Lib.hid (someOk_no (l := l) (size := size) hkl (fun ho => by
              have e1 := HXX.out
              have e2 := HYY.out
              have := ho.2.2 (by omega)
              omega))
            go_wp2_with fail
            refine (l1In_any _ _ _ _).mono ?_
            rintro e w' ⟨rfl, rfl⟩
            rw [H1.out]
            go_wp2_with fail
            go_ret
            exact ⟨by rw [HF.out]; rfl, rfl⟩
          · have hd : decide (x ≤ y) = false := by simpa using h2
            have HK2 : Hid (∀ i, i < k + 1 → okAt l size i) := fun i hi => by
              by_cases e : i = k
              · subst e
                have e1 := HXX.out
                have e2 := HYY.out
                exact ⟨by omega, by omega, fun h => by omega⟩
              · exact HK.out i (by omega)
            go_wp2_with fail
            refine (l1In_any _ _ _ _).mono ?_
            rintro e w' ⟨rfl, rfl⟩
            rw [H1.out]
            go_wp2_with fail
            go_round
            case rel => exact ⟨k + 1, by omega, by go_num, HK2⟩
            case measure => simp [intOf]; omega
      · have H1 : Hid (inB x 0 ((size : Int) - 1) = false) := by show inB x 0 ((size : Int) - 1) = false; simpa using h1
        have hin : ¬ (0 ≤ x ∧ x ≤ (size : Int) - 1) := by unfold inB at h1; simpa using h1
        have HF := Lib.hid (someOk_no (l := l) (size := size) hkl (fun ho => by
          have e1 := HXX.out
          obtain ⟨o1, o2, _⟩ := ho
          omega))
        clear h1 hcell hin
        go_wp2_with fail
        refine (l1In_any _ _ _ _).mono ?_
        rintro e w' ⟨rfl, rfl⟩
        rw [H1.out]
        go_wp2_with fail
        go_ret
        exact ⟨by rw [HF.out]; rfl, rfl⟩
    · obtain rfl : k = n := by omega
      have hki : ¬ (k : Int) < (k : Int) := by omega
      have HF := Lib.hid ((someOk_iff l size).2 (fun i hi => HK.out i (by rw [← HN.out]; exact hi)))
      go_wp2_with fail
      go_ret
      exact ⟨by rw [HF.out]; rfl, rfl⟩


end Go.Proofs.Ytjgmegfbfjmnfaa

/- A string's bytes in a new block, each of which may be written. -/
namespace G294
open Go Go.RowKit
/-- bytes in a block, each of which may be written -/
structure BytesIn (W : World) (B : Nat) (l : List UInt8) : Prop where
  lt : B < W.heap.size
  cell : ∀ j, j < l.length → W.cell? ⟨B, j, none⟩ = some (.int .u8 ((l.getD j 0).toNat : Int))
  free : ∀ j, j < l.length → W.frozen? ⟨B, j, none⟩ = false
theorem BytesIn.store {W : World} {B q : Nat} {l l' : List UInt8} {x : UInt8} (h : BytesIn W B l) (hq : q < l.length) (e : l.set q x = l') : BytesIn (W.setCell ⟨B, q, none⟩ (.int .u8 (x.toNat : Int))) B l' := by
  subst e
  refine ⟨by simpa using h.lt, fun j hj => ?_, fun j hj => by simpa using h.free j (by simpa using hj)⟩
  rw [List.length_set] at hj
  by_cases e : j = q
  · subst e
    have := World.cell?_setCell_same W ⟨B, j, none⟩ (.int .u8 (x.toNat : Int)) (h.cell j hj)
    rw [this]; simp [List.getD, hj]
  · rw [World.cell?_setCell_other _ _ _ _ (by simp <;> exact fun h => e h.symm), h.cell j hj]
    simp [List.getD, List.getElem?_set, show ¬ q = j from fun h => e h.symm]
theorem BytesIn.drew {W : World} {B : Nat} {l : List UInt8} (h : BytesIn W B l) : BytesIn W.drew B l := ⟨h.lt, h.cell, h.free⟩
theorem BytesIn.seen {W : World} {B cp : Nat} {l : List UInt8} (h : BytesIn W B l) (h1 : l.length ≤ cp) (h2 : cp ≤ maxLen) : Seen W (.slice (some ⟨B, 0, none⟩) l.length cp) (bys l) := by
  refine ⟨some ⟨B, 0, none⟩, cp, by rw [bys_length], by rw [bys_length]; exact h1, h2, fun _ => ⟨B, 0, rfl, h.lt, fun i u hu => ?_⟩⟩
  have hi : i < l.length := by
    rcases Nat.lt_or_ge i l.length with h | h
    · exact h
    · rw [List.getElem?_eq_none (by simpa using h)] at hu; cases hu
  rw [bys_get l i hi] at hu
  cases hu
  rw [Nat.zero_add, h.cell i hi]; simp [List.getD, hi]
theorem bytes_of_str {P : Program} (w : World) (src dst e : TypeId) (l : List UInt8) (hs : P.underlying src = some .string) (hd : P.underlying dst = some (.slice e)) (he : P.underlying e = some (.int .u8)) (hl : l.length ≤ maxLen) :
    ∃ cp w1, (convert src dst (.string (str l))).run P w = .ok (.slice (some ⟨w.heap.size, 0, none⟩) l.length cp) w1 ∧ l.length ≤ cp ∧ cp ≤ maxLen ∧ BytesIn w1 w.heap.size l ∧ Below w.heap.size w w1 := by
  have h := Lib.run_convert_string_bytes (P := P) w src dst e (str l) hs hd he
  rw [str_size] at h
  refine ⟨_, _, h, grownCap_ge _ _ _ _, grownCap_le_maxLen _ _ _ _ hl, ⟨by rw [Lib.bytesWorld_size]; omega, fun j hj => ?_, fun j hj => ?_⟩, ⟨rfl, rfl, rfl, by rw [Lib.bytesWorld_size]; omega, fun k hk => Lib.bytesWorld_at_old _ _ _ _ hk⟩⟩
  · have := Lib.bytesWorld_cell w e (str l) j (by rw [str_size]; exact hj)
    rw [this]; rfl
  · simp only [World.frozen?, Lib.bytesWorld_at_new]
    have : j < (Lib.bytesCells w e (str l)).size := by
      have e1 : (Lib.bytesCells w e (str l)).size = (str l).data.size + (grownCap w (str l).size 0 e - (str l).size) := by simp [Lib.bytesCells]
      have e2 : (str l).data.size = l.length := by show l.toArray.size = _; simp
      omega
    simp; omega
end G294

/- Chapter 10: outputs at a state, flipped bits: the model's. -/
namespace G294
open Go Go.RowKit
def RetOut3 (w : World) (s : List UInt8) (n : Int) (ok : Bool) (e : Ending) (w' : World) : Prop := e = .returned (.tuple #[.string (str s), .int .i64 n, .bool ok]) ∧ TurnIn 0 0 w w'
/-- bits turned at the first k of some places -/
def flipK (s : List UInt8) (l : List Int) : Nat → List UInt8
  | 0 => s
  | k + 1 => (flipK s l k).set (l.getD k 0).toNat ((flipK s l k).getD (l.getD k 0).toNat 0 ^^^ 1)
@[simp] theorem flipK_len (s : List UInt8) (l : List Int) (k : Nat) : (flipK s l k).length = s.length := by
  induction k with
  | zero => rfl
  | succ k ih => simp [flipK, ih]
def flpOk (s : List UInt8) (l : List Int) : Bool := bitsOk s 96 && someOk l s.length
def flpR (s : List UInt8) (l : List Int) : List UInt8 := if flpOk s l = true then flipK s l l.length else []
theorem xor_one (x : UInt8) : bits BinOp.xor IntKind.u8 (x.toNat : Int) 1 = ((x ^^^ 1).toNat : Int) := xor_u8 x 1
end G294
namespace Go.Proofs.Ytjgmegfbfjmnfaa
open Go.RowKit G294
def outOk (st b : Int) : Bool := inB st 0 3 && inB b 0 1
def outS (st b : Int) : List UInt8 := if outOk st b = true then outN st.toNat b.toNat else []
def outX (st b : Int) : Int := if outOk st b = true then (nxtN st.toNat b.toNat : Int) else 0
theorem inB_b {n lo hi : Int} (h : inB n lo hi = true) : lo ≤ n ∧ n ≤ hi := by simpa [inB] using h

set_option maxHeartbeats 1000000 in
theorem sOutputsAt_own (st b : Int) (w : World) : Calls Try.prog 27 #[.int .i64 st, .int .i64 b] w (RetOut3 w (outS st b) (outX st b) (outOk st b)) := by
  have HD : Hid (outOk st b = (inB st 0 3 && inB b 0 1)) := Lib.hid rfl
  have HS : Hid (outOk st b = false → outS st b = [] ∧ outX st b = 0) := fun h => ⟨if_neg (by rw [h]; decide), if_neg (by rw [h]; decide)⟩
  have HY : Hid (outOk st b = true → outS st b = outN st.toNat b.toNat ∧ outX st b = (nxtN st.toNat b.toNat : Int)) := fun h => ⟨if_pos h, if_pos h⟩
  by_cases h1 : inB st 0 3 = true
  · have H1 := Lib.hid h1
    by_cases h2 : inB b 0 1 = true
    · have H2 := Lib.hid h2
      have HO : Hid (outOk st b = true) := by show _ = _; rw [HD.out, h1, h2]; rfl
      have HR := Lib.hid (HY.out HO.out)
      have b1 := inB_b h1
      have b2 := inB_b h2
      obtain ⟨n, rfl⟩ := Int.eq_ofNat_of_zero_le b1.1
      obtain ⟨m, rfl⟩ := Int.eq_ofNat_of_zero_le b2.1
      have HC := Lib.hid (l10Out_any n m w (by omega) (by omega))
      simp only [Int.toNat_natCast] at HR
      clear h1 h2 b1 b2 HS HY
      go_enter Try.func27, Try.ntmps27
      go_wp2_with fail
      refine (l1In_any _ _ _ _).mono ?_
      rintro e w' ⟨rfl, rfl⟩
      rw [H1.out]
      go_wp2_with fail
      refine (l1In_any _ _ _ _).mono ?_
      rintro e w' ⟨rfl, rfl⟩
      rw [H2.out]
      go_wp2_with fail
      refine HC.out.mono ?_
      rintro e w1 ⟨rfl, k1⟩
      go_wp2_with fail
      refine bodyPost_ret (v := .tuple #[.string (str (outN n m)), .int .i64 (nxtN n m : Nat), .bool true]) (by simp [results, Try.results27, go_sem]) rfl ?_
      exact ⟨by rw [HR.out.1, HR.out.2, HO.out], k1⟩
    · have H2 : Hid (inB b 0 1 = false) := by show inB b 0 1 = false; simpa using h2
      have HO : Hid (outOk st b = false) := by show _ = _; rw [HD.out, H2.out]; simp
      have HR := Lib.hid (HS.out HO.out)
      clear h1 h2
      go_enter Try.func27, Try.ntmps27
      go_wp2_with fail
      refine (l1In_any _ _ _ _).mono ?_
      rintro e w' ⟨rfl, rfl⟩
      rw [H1.out]
      go_wp2_with fail
      refine (l1In_any _ _ _ _).mono ?_
      rintro e w' ⟨rfl, rfl⟩
      rw [H2.out]
      go_wp2_with fail
      refine bodyPost_ret (v := .tuple #[.string (str []), .int .i64 0, .bool false]) (by simp [results, Try.results27, go_sem]; rfl) rfl ?_
      exact ⟨by rw [HR.out.1, HR.out.2, HO.out], TurnIn.refl _⟩
  · have H1 : Hid (inB st 0 3 = false) := by show inB st 0 3 = false; simpa using h1
    have HO : Hid (outOk st b = false) := by show _ = _; rw [HD.out, H1.out]; rfl
    have HR := Lib.hid (HS.out HO.out)
    clear h1
    go_enter Try.func27, Try.ntmps27
    go_wp2_with fail
    refine (l1In_any _ _ _ _).mono ?_
    rintro e w' ⟨rfl, rfl⟩
    rw [H1.out]
    go_wp2_with fail
    refine bodyPost_ret (v := .tuple #[.string (str []), .int .i64 0, .bool false]) (by simp [results, Try.results27, go_sem]; rfl) rfl ?_
    exact ⟨by rw [HR.out.1, HR.out.2, HO.out], TurnIn.refl _⟩

set_option maxRecDepth 100000 in
set_option maxHeartbeats 2000000 in
theorem sFlipBits_own (v : Value) (s : List UInt8) (l : List Int) (w : World) (hv : Seen w v (ints l)) (hs : s.length ≤ 1000000000000) : Calls Try.prog 26 #[.string (str s), v] w (RetStrOk w (flpR s l) (flpOk s l)) := by
  have hsz : (str s).size = s.length := str_size s
  have HV := Lib.hid hv
  obtain ⟨A, c, hvv⟩ := hv.len
  rw [ints_length] at hvv
  subst hvv
  clear hv
  have HD : Hid (flpOk s l = (bitsOk s 96 && someOk l s.length)) := Lib.hid rfl
  have HNO : Hid (flpOk s l = false → flpR s l = []) := fun h => if_neg (by rw [h]; decide)
  have HYES : Hid (flpOk s l = true → flpR s l = flipK s l l.length) := fun h => if_pos h
  by_cases h1 : bitsOk s 96 = true
  · have H1 := Lib.hid h1
    have hl96 := (bitsOk_b h1).1
    by_cases h2 : someOk l s.length = true
    · have H2 := Lib.hid h2
      have HO : Hid (flpOk s l = true) := by show _ = _; rw [HD.out, h1, h2]; rfl
      have HR := Lib.hid (HYES.out HO.out)
      obtain ⟨cp, w1, hcv, hc1, hc2, hO, hb1⟩ := bytes_of_str (P := Try.prog) w 9 22 5 s Try.underlying9 Try.underlying22 Try.underlying5 (by unfold maxLen; omega)
      have HM := Lib.hid hc2
      have HIN : Hid (∀ k, k < l.length → 0 ≤ l.getD k 0 ∧ l.getD k 0 < (s.length : Int)) := fun k hk => by
        have := (someOk_iff l s.length).1 h2 k hk
        exact ⟨this.1, this.2.1⟩
      have hl := some_len h2
      have HO0 : Hid (BytesIn w1 w.heap.size (flipK s l 0)) := hO
      have HB1 := Lib.hid hb1
      have HK : Hid (∀ k, flipK s l (k + 1) = (flipK s l k).set (l.getD k 0).toNat ((flipK s l k).getD (l.getD k 0).toNat 0 ^^^ 1)) := fun k => rfl
      have HKL : Hid (∀ k, (flipK s l k).length = s.length) := fun k => flipK_len s l k
      rw [HR.out]
      obtain ⟨G, hG⟩ : ∃ G, G = flipK s l := ⟨_, rfl⟩
      rw [← hG] at HO0 HK HKL ⊢
      obtain ⟨A1, c1, hvv, hlc, hcm, hx⟩ := HV.out
      rw [ints_length] at hvv hlc hx
      simp only [Value.slice.injEq] at hvv
      obtain ⟨rfl, _, rfl⟩ := hvv
      have HX := Lib.hid hx
      unfold maxLen at hcm hc2
      have HSO := Lib.hid (fun W (hw : Seen W (.slice A l.length c) (ints l)) => l1Some_all _ l s.length W hw (by omega))
      have HBO := Lib.hid (fun W => l10Bits_any s 96 W hs)
      generalize hnn : l.length = n at *
      generalize hmm : s.length = m at *
      have HN := Lib.hid hnn
      clear h1 h2 hO hb1 hG hx hnn hmm
      go_enter Try.func26, Try.ntmps26
      go_wp2_with fail
      refine (HBO.out _).mono ?_
      rintro e w' ⟨rfl, rfl⟩
      rw [H1.out]
      go_wp2_with fail
      refine (HSO.out _ HV.out).mono ?_
      rintro e w' ⟨rfl, rfl⟩
      rw [H2.out]
      go_wp2_with fail
      go_loopw [23] (fun i wr => ∃ k : Nat, k ≤ n ∧ i = .int .i64 k ∧ Hid (BytesIn wr w.heap.size (G k)) ∧ Hid (Below w.heap.size w wr)) (fun i _ => n - (intOf i).toNat)
      case atStart => exact ⟨0, Nat.zero_le _, rfl, HO0, HB1⟩
      case round =>
        obtain ⟨k, hk, rfl, HO1, HB⟩ := hrel
        clear HO0 HB1
        by_cases hlt : k < n
        · have hki : (k : Int) < (n : Int) := by omega
          have hkl : k < l.length := by rw [HN.out]; exact hlt
          obtain ⟨b, off, rfl, hbl, hcell⟩ := HX.out (by omega)
          have hcx := (HB.out.cell (p := ⟨b, off + k, none⟩) hbl).trans (hcell k _ (ints_get l k hkl))
          rw [← getD_len hkl 0] at hcx
          have hin := HIN.out k hlt
          have hkk := HK.out k
          obtain ⟨q, hq⟩ := Int.eq_ofNat_of_zero_le hin.1
          rw [hq] at hcx hin hkk
          rw [Int.toNat_natCast] at hkk
          have hqm : q < m := by omega
          have hqi : (q : Int) < (m : Int) := by omega
          have hcs := HO1.out.cell q (by rw [HKL.out]; exact hqm)
          have hfr := HO1.out.free q (by rw [HKL.out]; exact hqm)
          generalize hgx : (G k).getD q 0 = x at hcs hkk
          have hxor := xor_one x
          have HO3 := Lib.hid (HO1.out.store (q := q) (x := x ^^^ 1) (by rw [HKL.out]; exact hqm) hkk.symm)
          have HB3 := Lib.hid (HB.out.setCell (p := ⟨w.heap.size, q, none⟩) (Nat.le_refl _) (.int .u8 ((x ^^^ 1).toNat : Int)))
          clear hgx hkk hq hin hcell
          generalize x ^^^ 1 = y at *
          go_wp2_with fail
          go_roundw
          case rel => exact ⟨k + 1, by omega, by go_num, HO3, HB3⟩
          case measure => simp [intOf]; omega
        · obtain rfl : k = n := by omega
          have hki : ¬ (k : Int) < (k : Int) := by omega
          have hseen := HO1.out.seen (cp := cp) (by rw [HKL.out]; exact hc1) HM.out
          rw [HKL.out] at hseen
          have hconv := run_string_seen (P := Try.prog) 22 5 9 Try.underlying22 Try.underlying5 Try.underlying9 hseen
          clear hseen
          go_wp2_with fail
          go_ret2
          exact ⟨by rw [HO.out]; rfl, TurnIn.of_below HB.out⟩
    · have H2 : Hid (someOk l s.length = false) := by show someOk l s.length = false; simpa using h2
      have HO : Hid (flpOk s l = false) := by show _ = _; rw [HD.out, H2.out]; simp
      have HR := Lib.hid (HNO.out HO.out)
      have HSO := Lib.hid (fun W (hw : Seen W (.slice A l.length c) (ints l)) => l1Some_all _ l s.length W hw (by omega))
      have HBO := Lib.hid (fun W => l10Bits_any s 96 W hs)
      generalize hmm : s.length = m at *
      clear h1 h2 hmm
      go_enter Try.func26, Try.ntmps26
      go_wp2_with fail
      refine (HBO.out _).mono ?_
      rintro e w' ⟨rfl, rfl⟩
      rw [H1.out]
      go_wp2_with fail
      refine (HSO.out _ HV.out).mono ?_
      rintro e w' ⟨rfl, rfl⟩
      rw [H2.out]
      go_wp2_with fail
      go_ret2
      exact ⟨by rw [HR.out, HO.out]; rfl, TurnIn.refl _⟩
  · have H1 : Hid (bitsOk s 96 = false) := by show bitsOk s 96 = false; simpa using h1
    have HO : Hid (flpOk s l = false) := by show _ = _; rw [HD.out, H1.out]; rfl
    have HR := Lib.hid (HNO.out HO.out)
    have HBO := Lib.hid (fun W => l10Bits_any s 96 W hs)
    generalize hmm : s.length = m at *
    clear h1 hmm
    go_enter Try.func26, Try.ntmps26
    go_wp2_with fail
    refine (HBO.out _).mono ?_
    rintro e w' ⟨rfl, rfl⟩
    rw [H1.out]
    go_wp2_with fail
    go_ret2
    exact ⟨by rw [HR.out, HO.out]; rfl, TurnIn.refl _⟩

end Go.Proofs.Ytjgmegfbfjmnfaa

/- The helpers on []byte, by intervals. -/
namespace Go.Proofs.Ytjgmegfbfjmnfaa
open Go.RowKit G294

theorem toByteS_own (v : Value) (l : List UInt8) (w : World) (hv : Seen w v (bys l)) (hn : l.length ≤ 1048576) : Calls Try.prog 37 #[v] w (RetBytes 5 w l) :=
  (toByteS_any v l w hv hn).mono fun e w' ⟨v', he, ho, hb⟩ => ⟨v', he, OwnBytes.of_made (by simpa using ho), TurnIn.of_below hb⟩

theorem eqByteS_own (v u : Value) (l m : List UInt8) (w : World) (hv : Seen w v (bys l)) (hu : Seen w u (bys m)) : Calls Try.prog 39 #[v, u] w (RetBool w (l == m)) :=
  (eqByteS_any v u l m w hv hu).mono fun e w' ⟨he, hb⟩ => ⟨he, TurnIn.of_below hb⟩

theorem eqByteS_same (v u : Value) (l : List UInt8) (w : World) (hv : Seen w v (bys l)) (hu : Seen w u (bys l)) : Calls Try.prog 39 #[v, u] w (RetBool w true) := by
  have := eqByteS_own v u l l w hv hu
  rwa [beq_self_eq_true] at this

theorem retBytesOk_of {w : World} {l : List UInt8} {ok : Bool} {e : Ending} {w' : World} (h : MadeOk w 5 (bys l) ok e w') : RetBytesOk 5 w l ok e w' := by
  obtain ⟨v', he, ho, hb⟩ := h
  exact ⟨v', he, OwnBytes.of_made (by simpa using ho), TurnIn.of_below hb⟩

end Go.Proofs.Ytjgmegfbfjmnfaa

/- Chapter 10: bits as numbers: parsing by goto, texts of bits, differences: the program's. -/
namespace G294
open Go Go.RowKit
/-- characters as numbers, numbers as characters -/
def raw (s : List UInt8) : List UInt8 := s.map fun c => c - 48
def txt (b : List UInt8) : List UInt8 := b.map fun x => 48 + x
@[simp] theorem raw_len (s : List UInt8) : (raw s).length = s.length := by simp [raw]
@[simp] theorem txt_len (s : List UInt8) : (txt s).length = s.length := by simp [txt]
theorem add_sub48 (c : UInt8) : 48 + (c - 48) = c := by
  apply UInt8.toNat_inj.1
  have := c.toNat_lt
  simp only [UInt8.toNat_add, UInt8.toNat_sub]
  simp
  omega
theorem txt_raw (s : List UInt8) : txt (raw s) = s := by
  unfold txt raw
  rw [List.map_map]
  have : ((fun x => 48 + x) ∘ fun c : UInt8 => c - 48) = id := by funext c; exact add_sub48 c
  rw [this, List.map_id]
theorem raw_append (a b : List UInt8) : raw (a ++ b) = raw a ++ raw b := by simp [raw]
theorem raw_getD (s : List UInt8) {k : Nat} (h : k < s.length) : (raw s).getD k 0 = s.getD k 0 - 48 := by
  rw [getD_len (by simpa using h), getD_len h]; simp [raw]
theorem raw_take (s : List UInt8) (k : Nat) : raw (s.take k) = (raw s).take k := by simp [raw]
theorem sub48_inj {a b : UInt8} (h : a - 48 = b - 48) : a = b := by rw [← add_sub48 a, ← add_sub48 b, h]
theorem raw_dl (a b : List UInt8) : dl (raw a) (raw b) = dl a b := by
  induction a generalizing b with
  | nil => cases b <;> rfl
  | cons x a ih =>
    cases b with
    | nil => rfl
    | cons y b =>
      have := ih b
      simp only [raw, List.map_cons, dl] at this ⊢
      rw [this]
      by_cases e : x = y
      · subst e; simp
      · rw [if_neg e, if_neg (fun h => e (sub48_inj h))]
theorem raw_flip (s : List UInt8) (l : List Int) (hs : s.all isBitC = true) : ∀ k, (∀ j, j < k → (l.getD j 0).toNat < s.length) → raw (flipK s l k) = flipK (raw s) l k ∧ (flipK s l k).all isBitC = true
  | 0, _ => ⟨rfl, hs⟩
  | k + 1, h => by
    obtain ⟨h1, h2⟩ := raw_flip s l hs k (fun j hj => h j (by omega))
    have hq := h k (by omega)
    simp only [flipK]
    rw [← h1]
    generalize (l.getD k 0).toNat = q at hq ⊢
    have hl := flipK_len s l k
    generalize flipK s l k = t at h2 hl ⊢
    have hb : isBitC (t.getD q 0) = true := by rw [getD_len (by omega)]; exact List.all_eq_true.1 h2 _ (List.getElem_mem _)
    rw [raw_getD t (by omega)]
    generalize t.getD q 0 = c at hb ⊢
    have e : (c ^^^ 1) - 48 = (c - 48) ^^^ 1 ∧ isBitC (c ^^^ 1) = true := by
      rcases isBitC_or hb with rfl | rfl <;> decide
    refine ⟨by simp [raw, List.map_set, e.1], ?_⟩
    rw [List.all_eq_true]
    intro x hx
    rcases List.mem_or_eq_of_mem_set hx with h3 | h3
    · exact List.all_eq_true.1 h2 x h3
    · rw [h3]; exact e.2
def RetTxt (w : World) (l : List UInt8) (e : Ending) (w' : World) : Prop := RetStr w (txt l) e w'
theorem bys_snoc (l : List UInt8) (x : UInt8) : bys (l ++ [x]) = bys l ++ [.int .u8 (x.toNat : Int)] := by simp [bys]
theorem bys_rep0 (n : Nat) : bys (List.replicate n 0) = List.replicate n (.int .u8 0) := by simp [bys]
theorem add48 (x : UInt8) : (48 + (x.toNat : Int)) % 256 = ((48 + x : UInt8).toNat : Int) := by
  rw [UInt8.toNat_add]
  simp
end G294
namespace Go.Proofs.Ytjgmegfbfjmnfaa
open Go.RowKit G294

set_option maxRecDepth 100000 in
set_option maxHeartbeats 2000000 in
theorem bitText_own (v : Value) (l : List UInt8) (w : World) (hv : Seen w v (bys l)) (hl : l.length ≤ 1000) : Calls Try.prog 52 #[v] w (RetStr w (txt l)) := by
  obtain ⟨i0, hi0, hz0, hz1, hz2⟩ := info_parts infoByte
  obtain ⟨A, c, rfl, hlc, hcm, hx⟩ := hv
  rw [bys_length] at hlc hx
  simp only [bys_length]
  unfold maxLen at hcm
  have HX := Lib.hid hx
  generalize hnn : l.length = n at *
  have HN := Lib.hid hnn
  have HTX : Hid (∀ k, k < n → (txt l).getD k 0 = 48 + l.getD k 0) := fun k hk => by
    rw [getD_len (by rw [txt_len, hnn]; exact hk), getD_len (by rw [hnn]; exact hk)]; simp [txt]
  clear hnn hx
  have hbm := bys_rep0 n
  go_enter Try.func52, Try.ntmps52
  go_wp2_with (at_make; refine wpList_make_full _ rfl _ _ _ rfl w.heap.size _ i0 _ 1 Try.underlying22 hi0 hz0 hz1 _ _ _ _ n rfl rfl rfl rfl ?b2 ?b3 ?b4 ?_)
  case b2 => rw [hz2]; omega
  case b3 => unfold maxLen; omega
  case b4 => exact Nat.le_refl _
  intro w1 hown1 hg1
  have hb1 : Below w.heap.size w w1 := below_of_grown hg1 (Nat.le_refl _) (by simp)
  rw [toList_madeCells_one, ← hbm] at hown1
  have hO1 : OwnBytes 5 w1 w.heap.size w1.heap.size (.slice (some ⟨w.heap.size, 0, none⟩) n n) ((txt l).take 0 ++ List.replicate (n - 0) 0) := by
    refine OwnBytes.of_made ?_
    simpa using hown1
  clear hg1 hown1 hbm
  go_wp2_with fail
  go_loopw [11] (fun i wr => ∃ k : Nat, k ≤ n ∧ i = .int .i64 k ∧ OwnBytes 5 wr w.heap.size wr.heap.size (.slice (some ⟨w.heap.size, 0, none⟩) n n) ((txt l).take k ++ List.replicate (n - k) 0) ∧ Below w.heap.size w wr) (fun i _ => n - (intOf i).toNat)
  case atStart => exact ⟨0, Nat.zero_le _, rfl, hO1, hb1⟩
  case round =>
    obtain ⟨k, hk, rfl, hO, hb⟩ := hrel
    clear hO1 hb1
    by_cases hlt : k < n
    · have hki : (k : Int) < (n : Int) := by omega
      have hkl : k < l.length := by rw [HN.out]; exact hlt
      obtain ⟨b, off, rfl, hbl, hcell⟩ := HX.out (by omega)
      have hcx := (hb.cell (p := ⟨b, off + k, none⟩) hbl).trans (hcell k _ (bys_get l k hkl))
      rw [← getD_len hkl 0] at hcx
      have htl : ((txt l).take k).length = k := by simp [HN.out]; omega
      have hll : ((txt l).take k ++ List.replicate (n - k) 0).length = n := by simp [htl, HN.out]; omega
      have hco := hO.cellAt (k := k) (by omega)
      have hfr := hO.frozenAt k
      have hset := take_set_next (txt l) (List.replicate (n - k) 0) k ((txt l).getD k 0) (by rw [List.getElem?_eq_getElem (by simp [HN.out]; exact hlt), getD_len (by simp [HN.out]; exact hlt)]) (by simp [HN.out]; omega)
      rw [List.tail_replicate] at hset
      have hst := hO.store (q := k) (x := (txt l).getD k 0) hll hset
      rw [HTX.out k hlt] at hst
      have hsm := add48 (l.getD k 0)
      have hb2 := hb.setCell (p := ⟨w.heap.size, k, none⟩) (Nat.le_refl _) (.int .u8 ((48 + l.getD k 0 : UInt8).toNat : Int))
      have HST := Lib.hid hst
      have HB2 := Lib.hid hb2
      generalize ((txt l).take k ++ List.replicate (n - k) 0).getD k 0 = z at hco
      generalize 48 + l.getD k 0 = y at *
      generalize l.getD k 0 = x at *
      clear hcell hset hst hb2 hll htl
      go_wp2_with fail
      go_roundw
      case rel => exact ⟨k + 1, by omega, by go_num, by
        have h := HST.out
        refine ⟨by simpa [Nat.sub_sub] using h.1, Nat.le_refl _, fun g e => by have := h.2.2 g e; simpa using this⟩, HB2.out⟩
      case measure => simp [intOf]; omega
    · obtain rfl : k = n := by omega
      have hki : ¬ (k : Int) < (k : Int) := by omega
      rw [Nat.sub_self, List.replicate_zero, List.append_nil, List.take_of_length_le (by simp [HN.out])] at hO
      have hseen := hO.seen
      have hconv := run_string_seen (P := Try.prog) 22 5 9 Try.underlying22 Try.underlying5 Try.underlying9 hseen
      clear hseen hO
      go_wp2_with fail
      go_ret
      exact ⟨rfl, TurnIn.of_below hb⟩

end Go.Proofs.Ytjgmegfbfjmnfaa

/- Chapter 10: parsedBits: a loop by goto. (Written by tools/genprs.py.) -/
namespace G294
open Go Go.RowKit
def prsR (s : List UInt8) (m : Nat) : List UInt8 := if bitsOk s m = true then raw s else []
def lenV : Value → Nat
  | .slice _ n _ => n
  | _ => 0
theorem own_slice {w : World} {base : Nat} {e : TypeId} {v : Value} {n : Nat} {xs : List Value} (h : w.ownsRow base e 1 v n xs) : ∃ A c, v = .slice A n c := by
  rcases h.2 with ⟨rfl, hn⟩ | ⟨g, cap, cur, rfl, _⟩
  · subst hn; exact ⟨_, _, rfl⟩
  · exact ⟨_, _, rfl⟩
end G294
namespace Go.Proofs.Ytjgmegfbfjmnfaa
open Go.RowKit G294

set_option maxRecDepth 100000 in
set_option maxHeartbeats 2000000 in
theorem parsedBits_own (s : List UInt8) (m : Nat) (w : World) (hm : m ≤ 1000) (hs : s.length ≤ 1000000000000) : Calls Try.prog 49 #[.string (str s), .int .i64 m] w (RetBytesOk 5 w (prsR s m) (bitsOk s m)) := by
  have hsz : (str s).size = s.length := str_size s
  have HR0 : Hid (bitsOk s m = false → prsR s m = []) := fun h => if_neg (by rw [h]; decide)
  have HGET : Hid (∀ k (h : k < (str s).size), (str s)[k] = s.getD k 0) := fun k h => str_get s k h
  have HSN : Hid (∀ k, k < s.length → s.take (k + 1) = s.take k ++ [s.getD k 0]) := fun k h => take_snocD s h
  by_cases h1 : s.length ≤ m
  · generalize hnn : s.length = n at *
    have HN := Lib.hid hnn
    clear hnn
    have h1i : ¬ (m : Int) < (n : Int) := by omega
    go_enter Try.func49, Try.ntmps49
    go_wp2_with fail
    refine wp_scope_jumps 0 (fun a' wr => ∃ (k : Nat) (v u7 u8 u9 u10 u11 u12 u13 u14 u15 u16 u17 u18 u19 u20 u21 u22 u23 u24 u25 u26 u27 u28 u29 u30 : Value), a' = { tmps := #[.string (str s), .int .i64 m, undef, undef, .slice none 0 0, .bool false, v, u7, u8, u9, u10, u11, u12, u13, u14, u15, u16, u17, u18, u19, u20, u21, u22, u23, u24, u25, u26, u27, u28, u29, u30], defers := [] } ∧ k ≤ n ∧ wr.ownsRow w.heap.size 5 1 v k (bys (raw (s.take k))) ∧ Below w.heap.size w wr ∧ Hid ((s.take k).all isBitC = true)) (fun a' _ => n - lenV (a'.tmps.getD 6 undef)) rfl ?_ ?_
    · go_wp2_with fail
      go_step3
      have hown : w.ownsRow w.heap.size 5 1 (.slice none 0 0) 0 (bys (raw (s.take 0))) := World.ownsRow_nil _ _ _ _
      have hb := Below.refl w.heap.size w
      have HK : Hid ((s.take 0).all isBitC = true) := Lib.hid rfl
      by_cases hlt : 0 < n
      · have hsg := HGET.out 0 (by rw [hsz]; exact hlt)
        have HTS := Lib.hid (HSN.out 0 hlt)
        have HNO : Hid (isBitC (s.getD 0 0) = false → bitsOk s m = false) := Lib.hid (fun h => bitsOk_no (by rw [HN.out]; exact hlt) h)
        have hkn : ((0 : Int) == (n : Int)) = false := by rw [beq_eq_false_iff_ne]; omega
        have hki : (0 : Int) < (n : Int) := by omega
        generalize s.getD 0 0 = c at *
        by_cases hc : isBitC c = true
        · have HK2 : Hid ((s.take (1)).all isBitC = true) := by
            show _ = _
            have e := HTS.out
            try simp only [Nat.zero_add] at e
            rw [e, List.all_append, HK.out]; simp [hc]
          have HR2 : Hid (raw (s.take (1)) = raw (s.take 0) ++ [c - 48]) := by
            show _ = _
            have e := HTS.out
            try simp only [Nat.zero_add] at e
            rw [e, raw_append]; rfl
          rcases isBit_b0 hc with ⟨e1, e2, e3⟩ | ⟨e1, e2, e3, e4, e5⟩
          · have HC : Hid (((c - 48).toNat : Int) = 0) := by show _ = _; rw [e3]; rfl
            have HO2 := Lib.hid (hown.alloc (.cells #[.int .u8 0] 5))
            have KA := Lib.hid (hb.alloc hb.size (.cells #[.int .u8 0] 5))
            clear hc HTS HNO hown hb e1 e3
            go_wp2_with (at_builtin; refine wpList_append1 rfl _ _ _ rfl w.heap.size 5 _ _ Try.underlying22 infoByte rfl _ 0 _ rfl HO2.out w.heap.size (.int .u8 0) rfl ?f01 rfl ?f02 ?f03 ?f04 ?_)
            case f01 => simp
            case f02 => omega
            case f03 => omega
            case f04 => have := KA.out.size; first | exact this | (simp; omega) | simp
            intro v2 w2 hown2 hg2 _
            have hb2 : Below w.heap.size w w2 := KA.out.grown hg2 KA.out.size (fun g e => (HO2.out.lt g e).1)
            have hon : w2.ownsRow w.heap.size 5 1 v2 (1) (bys (raw (s.take (1)))) := by
              have e := hown2
              try simp only [Nat.zero_add] at e
              rw [HR2.out, bys_snoc, HC.out]; exact e
            obtain ⟨A2, c2, hv2⟩ := own_slice hon
            subst hv2
            clear hown2 hg2 KA HO2
            go_wp2_with fail
            go_step3
            exact ⟨rfl, 1, .slice A2 (1) c2, _, _, _, _, _, _, _, _, _, _, _, _, _, _, _, _, _, _, _, _, _, _, _, _, rfl, by omega, hon, hb2, HK2⟩
          · have HC : Hid (((c - 48).toNat : Int) = 1) := by show _ = _; rw [e5]; rfl
            have HO2 := Lib.hid (hown.alloc (.cells #[.int .u8 1] 5))
            have KA := Lib.hid (hb.alloc hb.size (.cells #[.int .u8 1] 5))
            clear hc HTS HNO hown hb e1 e3 e5
            go_wp2_with (at_builtin; refine wpList_append1 rfl _ _ _ rfl w.heap.size 5 _ _ Try.underlying22 infoByte rfl _ 0 _ rfl HO2.out w.heap.size (.int .u8 1) rfl ?f11 rfl ?f12 ?f13 ?f14 ?_)
            case f11 => simp
            case f12 => omega
            case f13 => omega
            case f14 => have := KA.out.size; first | exact this | (simp; omega) | simp
            intro v2 w2 hown2 hg2 _
            have hb2 : Below w.heap.size w w2 := KA.out.grown hg2 KA.out.size (fun g e => (HO2.out.lt g e).1)
            have hon : w2.ownsRow w.heap.size 5 1 v2 (1) (bys (raw (s.take (1)))) := by
              have e := hown2
              try simp only [Nat.zero_add] at e
              rw [HR2.out, bys_snoc, HC.out]; exact e
            obtain ⟨A2, c2, hv2⟩ := own_slice hon
            subst hv2
            clear hown2 hg2 KA HO2
            go_wp2_with fail
            go_step3
            exact ⟨rfl, 1, .slice A2 (1) c2, _, _, _, _, _, _, _, _, _, _, _, _, _, _, _, _, _, _, _, _, _, _, _, _, rfl, by omega, hon, hb2, HK2⟩
        · have hcf : isBitC c = false := by simpa using hc
          have HF := Lib.hid (HNO.out hcf)
          have HR := Lib.hid (HR0.out HF.out)
          obtain ⟨e1, e2, e3, e4⟩ := isBit_no hcf
          clear hc hcf HTS HNO e1 e2 hown
          go_wp2_with fail
          simp only [Exit.jump]
          go_ret2
          exact ⟨_, by rw [HF.out]; rfl, by rw [HR.out]; exact OwnBytes.nil _ _ _, TurnIn.of_below hb⟩
      · have hk0 : n = 0 := by omega
        subst hk0
        have hkn : ((0 : Int) == ((0 : Nat) : Int)) = true := by simp
        have HV : Hid (bitsOk s m = true) := by
          show _ = _
          have := HK.out
          rw [List.take_of_length_le (by rw [HN.out]; exact Nat.le_refl _)] at this
          simp [bitsOk, this, HN.out, h1]
        have HR : Hid (prsR s m = raw (s.take 0)) := by
          show _ = _
          unfold prsR; rw [if_pos HV.out, List.take_of_length_le (by rw [HN.out]; exact Nat.le_refl _)]
        have HO : Hid (OwnBytes 5 w w.heap.size w.heap.size (.slice none 0 0) (raw (s.take 0))) := ⟨by rw [raw_len, List.length_take, HN.out, Nat.min_self]; exact hown, Nat.le_refl _, fun g e => (hown.lt g e).2⟩
        clear hown
        go_wp2_with fail
        simp only [Exit.jump]
        go_ret2
        exact ⟨_, by rw [HV.out]; rfl, by rw [HR.out]; exact HO.out, TurnIn.of_below hb⟩
    · rintro a' wr ⟨k, v, u7, u8, u9, u10, u11, u12, u13, u14, u15, u16, u17, u18, u19, u20, u21, u22, u23, u24, u25, u26, u27, u28, u29, u30, rfl, hk, hown, hb, HK⟩
      obtain ⟨A, c0, hvv⟩ := own_slice hown
      subst hvv
      by_cases hlt : k < n
      · have hsg := HGET.out k (by rw [hsz]; exact hlt)
        have HTS := Lib.hid (HSN.out k hlt)
        have HNO : Hid (isBitC (s.getD k 0) = false → bitsOk s m = false) := Lib.hid (fun h => bitsOk_no (by rw [HN.out]; exact hlt) h)
        have hkn : ((k : Int) == (n : Int)) = false := by rw [beq_eq_false_iff_ne]; omega
        have hki : (k : Int) < (n : Int) := by omega
        generalize s.getD k 0 = c at *
        by_cases hc : isBitC c = true
        · have HK2 : Hid ((s.take (k + 1)).all isBitC = true) := by
            show _ = _
            have e := HTS.out
            try simp only [Nat.zero_add] at e
            rw [e, List.all_append, HK.out]; simp [hc]
          have HR2 : Hid (raw (s.take (k + 1)) = raw (s.take k) ++ [c - 48]) := by
            show _ = _
            have e := HTS.out
            try simp only [Nat.zero_add] at e
            rw [e, raw_append]; rfl
          rcases isBit_b0 hc with ⟨e1, e2, e3⟩ | ⟨e1, e2, e3, e4, e5⟩
          · have HC : Hid (((c - 48).toNat : Int) = 0) := by show _ = _; rw [e3]; rfl
            have HO2 := Lib.hid (hown.alloc (.cells #[.int .u8 0] 5))
            have KA := Lib.hid (hb.alloc hb.size (.cells #[.int .u8 0] 5))
            clear hc HTS HNO hown hb e1 e3
            go_wp2_with (at_builtin; refine wpList_append1 rfl _ _ _ rfl w.heap.size 5 _ _ Try.underlying22 infoByte rfl _ k _ rfl HO2.out wr.heap.size (.int .u8 0) rfl ?p01 rfl ?p02 ?p03 ?p04 ?_)
            case p01 => simp
            case p02 => omega
            case p03 => omega
            case p04 => have := KA.out.size; first | exact this | (simp; omega) | simp
            intro v2 w2 hown2 hg2 _
            have hb2 : Below w.heap.size w w2 := KA.out.grown hg2 KA.out.size (fun g e => (HO2.out.lt g e).1)
            have hon : w2.ownsRow w.heap.size 5 1 v2 (k + 1) (bys (raw (s.take (k + 1)))) := by
              have e := hown2
              try simp only [Nat.zero_add] at e
              rw [HR2.out, bys_snoc, HC.out]; exact e
            obtain ⟨A2, c2, hv2⟩ := own_slice hon
            subst hv2
            clear hown2 hg2 KA HO2
            go_wp2_with fail
            go_step3
            refine ⟨rfl, ⟨k + 1, .slice A2 (k + 1) c2, _, _, _, _, _, _, _, _, _, _, _, _, _, _, _, _, _, _, _, _, _, _, _, _, rfl, by omega, hon, hb2, HK2⟩, ?_⟩
            show n - (k + 1) < n - k
            omega
          · have HC : Hid (((c - 48).toNat : Int) = 1) := by show _ = _; rw [e5]; rfl
            have HO2 := Lib.hid (hown.alloc (.cells #[.int .u8 1] 5))
            have KA := Lib.hid (hb.alloc hb.size (.cells #[.int .u8 1] 5))
            clear hc HTS HNO hown hb e1 e3 e5
            go_wp2_with (at_builtin; refine wpList_append1 rfl _ _ _ rfl w.heap.size 5 _ _ Try.underlying22 infoByte rfl _ k _ rfl HO2.out wr.heap.size (.int .u8 1) rfl ?p11 rfl ?p12 ?p13 ?p14 ?_)
            case p11 => simp
            case p12 => omega
            case p13 => omega
            case p14 => have := KA.out.size; first | exact this | (simp; omega) | simp
            intro v2 w2 hown2 hg2 _
            have hb2 : Below w.heap.size w w2 := KA.out.grown hg2 KA.out.size (fun g e => (HO2.out.lt g e).1)
            have hon : w2.ownsRow w.heap.size 5 1 v2 (k + 1) (bys (raw (s.take (k + 1)))) := by
              have e := hown2
              try simp only [Nat.zero_add] at e
              rw [HR2.out, bys_snoc, HC.out]; exact e
            obtain ⟨A2, c2, hv2⟩ := own_slice hon
            subst hv2
            clear hown2 hg2 KA HO2
            go_wp2_with fail
            go_step3
            refine ⟨rfl, ⟨k + 1, .slice A2 (k + 1) c2, _, _, _, _, _, _, _, _, _, _, _, _, _, _, _, _, _, _, _, _, _, _, _, _, rfl, by omega, hon, hb2, HK2⟩, ?_⟩
            show n - (k + 1) < n - k
            omega
        · have hcf : isBitC c = false := by simpa using hc
          have HF := Lib.hid (HNO.out hcf)
          have HR := Lib.hid (HR0.out HF.out)
          obtain ⟨e1, e2, e3, e4⟩ := isBit_no hcf
          clear hc hcf HTS HNO e1 e2 hown
          go_wp2_with fail
          simp only [Exit.jump]
          go_ret2
          exact ⟨_, by rw [HF.out]; rfl, by rw [HR.out]; exact OwnBytes.nil _ _ _, TurnIn.of_below hb⟩
      · obtain rfl : k = n := by omega
        have hkn : ((k : Int) == (k : Int)) = true := by simp
        have HV : Hid (bitsOk s m = true) := by
          show _ = _
          have := HK.out
          rw [List.take_of_length_le (by rw [HN.out]; exact Nat.le_refl _)] at this
          simp [bitsOk, this, HN.out, h1]
        have HR : Hid (prsR s m = raw (s.take k)) := by
          show _ = _
          unfold prsR; rw [if_pos HV.out, List.take_of_length_le (by rw [HN.out]; exact Nat.le_refl _)]
        have HO : Hid (OwnBytes 5 wr w.heap.size wr.heap.size (.slice A k c0) (raw (s.take k))) := ⟨by rw [raw_len, List.length_take, HN.out, Nat.min_self]; exact hown, Nat.le_refl _, fun g e => (hown.lt g e).2⟩
        clear hown
        go_wp2_with fail
        simp only [Exit.jump]
        go_ret2
        exact ⟨_, by rw [HV.out]; rfl, by rw [HR.out]; exact HO.out, TurnIn.of_below hb⟩
  · have HF : Hid (bitsOk s m = false) := by show _ = _; simp [bitsOk, h1]
    have HR := Lib.hid (HR0.out HF.out)
    generalize hnn : s.length = n at *
    clear hnn
    have h1i : (m : Int) < (n : Int) := by omega
    go_enter Try.func49, Try.ntmps49
    go_wp2_with fail
    refine wp_scope_jumps 0 (fun a' wr => False) (fun a' _ => 0) rfl ?_ ?_
    · go_wp2_with fail
      simp only [Exit.jump]
      go_ret2
      exact ⟨_, by rw [HF.out]; rfl, by rw [HR.out]; exact OwnBytes.nil _ _ _, TurnIn.refl _⟩
    · intro a' wr h
      exact h.elim

end Go.Proofs.Ytjgmegfbfjmnfaa
