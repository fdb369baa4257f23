/- Joined texts: CurZ, VitE3, FreeMath. -/
import Derived.Test.YtjgmegfbfjmnfaaBd09
import Derived.Test.YtjgmegfbfjmnfaaBd05
import Derived.Deep.RegionHeld3
import Derived.Test.YtjgmegfbfjmnfaaBd08
import Derived.Test.YtjgmegfbfjmnfaaBd03
set_option linter.unusedSimpArgs false
set_option linter.unusedVariables false
/- Chapter 10: the draw of FlipBits. -/
namespace Go.Proofs.Ytjgmegfbfjmnfaa
open Go.RowKit G294

/-- some text and some numbers, drawn from a new cursor -/
def RetTxI (w : World) (e : Ending) (w' : World) : Prop := ∃ (v : Value) (r : List UInt8) (l : List Int), e = .returned (.tuple #[.string (str r), v]) ∧ r.length ≤ 101 ∧ Seen w' v (ints l) ∧ TurnIn 0 0 w w'

set_option maxRecDepth 100000 in
set_option maxHeartbeats 1000000 in
theorem drawFlipBits_any (v : Value) (l : List UInt8) (w : World) (hv : Seen w v (bys l)) : Calls Try.prog 25 #[v] w (RetTxI w) := by
  obtain ⟨A, c, hvv⟩ := hv.len
  rw [bys_length] at hvv
  subst hvv
  have hc := cur_new hv
  have k0 := turn_alloc w (.cells #[.slice A l.length c, .int .i64 0, .int .u64 0] 56)
  have s0 : w.heap.size < (w.alloc (.cells #[.slice A l.length c, .int .i64 0, .int .u64 0] 56)).heap.size := by simp
  go_enter Try.func25, Try.ntmps25
  go_wp2_with fail
  refine (received_any _ _ 0 _ hc (by omega)).mono ?_
  rintro e w1 ⟨r, rfl, hr, hc1, k1⟩
  have s1 := k1.size
  have hsz := str_size r
  obtain ⟨N, hN⟩ : ∃ N, N = r.length := ⟨_, rfl⟩
  rw [← hN] at hsz hr
  have HN := Lib.hid hN
  clear hN
  go_wp2_with fail
  refine (pick_any _ _ _ 2 _ hc1 (by omega)).mono ?_
  rintro e w2 ⟨x, rfl, x0, x1, hc2, k2⟩
  have hx : x ≤ 1 := by simpa [pickHi] using x1
  have s2 := k2.size
  obtain ⟨x, rfl⟩ := Int.eq_ofNat_of_zero_le x0
  clear x1 x0
  go_wp2_with fail
  refine (pick_any _ _ _ 2 _ hc2 (by omega)).mono ?_
  rintro e w3 ⟨y, rfl, y0, y1, hc3, k3⟩
  have hy : y ≤ 1 := by simpa [pickHi] using y1
  have s3 := k3.size
  obtain ⟨y, rfl⟩ := Int.eq_ofNat_of_zero_le y0
  clear y1 y0
  obtain ⟨p, hp⟩ : ∃ p, p = x * y := ⟨_, rfl⟩
  have hpb : p ≤ 1 := by rw [hp]; exact Nat.le_trans (Nat.mul_le_mul (show x ≤ 1 by omega) (show y ≤ 1 by omega)) (by omega)
  have hpm : (x : Int) * (y : Int) = (p : Int) := by rw [hp]; exact (Int.natCast_mul x y).symm
  clear hp
  go_wp2_with fail
  refine (pick_any _ _ _ 5 _ hc3 (by omega)).mono ?_
  rintro e w4 ⟨z, rfl, z0, z1, hc4, k4⟩
  have hz : z ≤ 4 := by simpa [pickHi] using z1
  have s4 := k4.size
  obtain ⟨z, rfl⟩ := Int.eq_ofNat_of_zero_le z0
  clear z1 z0 hpm
  obtain ⟨M, hM⟩ : ∃ M, M = N + p := ⟨_, rfl⟩
  have hMb : M ≤ 110 := by omega
  have hsum : (N : Int) + (p : Int) = (M : Int) := by omega
  clear hM
  go_wp2_with fail
  try rw [hsum]
  refine (chosenX_any _ _ _ M z _ hc4 (by omega) (by omega) (by omega)).mono ?_
  rintro e w5 ⟨v5, l5, rfl, ho5, hc5, k5⟩
  have s5 := k5.size
  have hse := Seen.of_own ho5
  have HK := Lib.hid (turn_trans (turn_trans (turn_trans (turn_trans (turn_trans k0 k1 (by omega)) k2 (by omega)) k3 (by omega)) k4 (by omega)) k5 (by omega))
  have HSE := Lib.hid hse
  have HR := Lib.hid (show r.length ≤ 101 by rw [← HN.out]; omega)
  clear ho5 hse
  go_wp2_with fail
  go_ret2
  exact ⟨v5, r, l5, rfl, HR.out, HSE.out, HK.out⟩

end Go.Proofs.Ytjgmegfbfjmnfaa

/- Chapter 10: outputs at a state, differences, distances, costs, flipped bits: the program's. -/
namespace Go.Proofs.Ytjgmegfbfjmnfaa
open Go.RowKit G294

set_option maxRecDepth 100000 in
set_option maxHeartbeats 2000000 in
theorem outputsAt_own (st b : Int) (w : World) : Calls Try.prog 24 #[.int .i64 st, .int .i64 b] w (RetOut3 w (outS st b) (outX st b) (outOk st b)) := by
  have HD : Hid (outOk st b = (inB st 0 3 && inB b 0 1)) := Lib.hid rfl
  have HS : Hid (outOk st b = false → outS st b = [] ∧ outX st b = 0) := fun h => ⟨if_neg (by rw [h]; decide), if_neg (by rw [h]; decide)⟩
  have HY : Hid (outOk st b = true → outS st b = outN st.toNat b.toNat ∧ outX st b = (nxtN st.toNat b.toNat : Int)) := fun h => ⟨if_pos h, if_pos h⟩
  by_cases h1 : st < 0
  · have hd1 : decide (st < 0) = true := by simpa using h1
    have HO : Hid (outOk st b = false) := by show _ = _; rw [HD.out, show inB st 0 3 = false by simp [inB]; omega]; rfl
    have HR := Lib.hid (HS.out HO.out)
    clear h1
    go_enter Try.func24, Try.ntmps24
    go_wp2_with fail
    refine bodyPost_ret (v := .tuple #[.string (str []), .int .i64 0, .bool false]) (by simp [results, Try.results24, go_sem]; rfl) rfl ?_
    exact ⟨by rw [HR.out.1, HR.out.2, HO.out], TurnIn.refl _⟩
  have hd1 : decide (st < 0) = false := by simpa using h1
  by_cases h2 : 4 ≤ st
  · have hd2 : decide (4 ≤ st) = true := by simpa using h2
    have HO : Hid (outOk st b = false) := by show _ = _; rw [HD.out, show inB st 0 3 = false by simp [inB]; omega]; rfl
    have HR := Lib.hid (HS.out HO.out)
    go_enter Try.func24, Try.ntmps24
    go_wp2_with fail
    refine bodyPost_ret (v := .tuple #[.string (str []), .int .i64 0, .bool false]) (by simp [results, Try.results24, go_sem]; rfl) rfl ?_
    exact ⟨by rw [HR.out.1, HR.out.2, HO.out], TurnIn.refl _⟩
  have hd2 : decide (4 ≤ st) = false := by simpa using h2
  by_cases h3 : b < 0
  · have hd3 : decide (b < 0) = true := by simpa using h3
    have HO : Hid (outOk st b = false) := by show _ = _; rw [HD.out, show inB b 0 1 = false by simp [inB]; omega]; simp
    have HR := Lib.hid (HS.out HO.out)
    go_enter Try.func24, Try.ntmps24
    go_wp2_with fail
    refine bodyPost_ret (v := .tuple #[.string (str []), .int .i64 0, .bool false]) (by simp [results, Try.results24, go_sem]; rfl) rfl ?_
    exact ⟨by rw [HR.out.1, HR.out.2, HO.out], TurnIn.refl _⟩
  have hd3 : decide (b < 0) = false := by simpa using h3
  by_cases h4 : 1 < b
  · have hd4 : decide (1 < b) = true := by simpa using h4
    have HO : Hid (outOk st b = false) := by show _ = _; rw [HD.out, show inB b 0 1 = false by simp [inB]; omega]; simp
    have HR := Lib.hid (HS.out HO.out)
    go_enter Try.func24, Try.ntmps24
    go_wp2_with fail
    refine bodyPost_ret (v := .tuple #[.string (str []), .int .i64 0, .bool false]) (by simp [results, Try.results24, go_sem]; rfl) rfl ?_
    exact ⟨by rw [HR.out.1, HR.out.2, HO.out], TurnIn.refl _⟩
  have hd4 : decide (1 < b) = false := by simpa using h4
  have HO : Hid (outOk st b = true) := by show _ = _; rw [HD.out, show inB st 0 3 = true by simp [inB]; omega, show inB b 0 1 = true by simp [inB]; omega]; rfl
  have HR := Lib.hid (HY.out HO.out)
  obtain ⟨n, rfl⟩ := Int.eq_ofNat_of_zero_le (show 0 ≤ st by omega)
  obtain ⟨m, rfl⟩ := Int.eq_ofNat_of_zero_le (show 0 ≤ b by omega)
  simp only [Int.toNat_natCast] at HR
  have hn4 : n < 4 := by omega
  have hm2 : m < 2 := by omega
  have HG := Lib.hid (registerOf_own n w hn4)
  have hmb : (m : Int) = ((UInt8.ofNat m).toNat : Int) := by
    match m, hm2 with
    | 0, _ => rfl
    | 1, _ => rfl
  have HRW := Lib.hid (outs_raw n hn4 m hm2)
  have HNX := Lib.hid (reg_next n hn4 m hm2)
  have HNN := Lib.hid (reg_num (nxtN n m) (nxtN_lt hn4 hm2))
  have HMB := Lib.hid hmb
  clear h1 h2 h3 h4 HS HY hmb
  go_enter Try.func24, Try.ntmps24
  go_wp2_with fail
  refine HG.out.mono ?_
  rintro e w1 ⟨rfl, k1⟩
  generalize regH n = X at *
  generalize regL n = L at *
  generalize hbb : UInt8.ofNat m = bb at *
  unfold regV
  have HBX := Lib.hid (boxV2_new w1 (.int .u8 (X.toNat : Int)) (.int .u8 (L.toNat : Int)) 68)
  have q0 := HBX.out.c0
  have q1 := HBX.out.c1
  have ql := HBX.out.lt
  obtain ⟨B, hB⟩ : ∃ B, B = w1.heap.size := ⟨_, rfl⟩
  have HK2 := Lib.hid (turn_trans k1 (turn_alloc w1 (.cells #[.int .u8 (X.toNat : Int), .int .u8 (L.toNat : Int)] 68)) (by omega))
  rw [← hB] at HBX q0 q1 ql
  have HOUT : Hid (∀ W, Calls Try.prog 50 #[.agg #[.int .u8 (X.toNat : Int), .int .u8 (L.toNat : Int)], .int .u8 (m : Int)] W (RetBytes 5 W (raw (outN n m)))) := fun W => by rw [HMB.out, ← HRW.out]; exact outputs_own X L bb W
  have HAFT : Hid (∀ W, Calls Try.prog 51 #[.agg #[.int .u8 (X.toNat : Int), .int .u8 (L.toNat : Int)], .int .u8 (m : Int)] W (RetReg W bb X)) := fun W => by rw [HMB.out]; exact after_own X L bb W
  have HNUM : Hid (∀ W, Calls Try.prog 58 #[regV bb X] W (RetInt W ((nxtN n m : Nat) : Int))) := fun W => by
    have h := HNN.out
    rw [HNX.out.1, HNX.out.2] at h
    have := number_own bb X W h.2.1 h.2.2
    rw [h.1] at this
    exact this
  have HTX : Hid (∀ W v, Seen W v (bys (raw (outN n m))) → Calls Try.prog 52 #[v] W (RetStr W (outN n m))) := fun W v hv => by
    have := bitText_own v (raw (outN n m)) W hv (by simp)
    rw [txt_raw] at this
    exact this
  go_wp2_with fail
  rw [← hB]
  generalize (w1.alloc (.cells #[.int .u8 (X.toNat : Int), .int .u8 (L.toNat : Int)] 68)) = w2 at *
  clear hB k1
  have hw8 : IntKind.u8.wrap (m : Int) = (m : Int) := by
    match m, hm2 with
    | 0, _ => rfl
    | 1, _ => rfl
  have hw9 : (m : Int) % 256 = (m : Int) := by omega
  have S0 : w2.cell? ⟨B, 0, none⟩ = some (.int .u8 (X.toNat : Int)) ∧ w2.cell? ⟨B, 1, none⟩ = some (.int .u8 (L.toNat : Int)) := ⟨q0, q1⟩
  go_region_held3 (fun W => W.cell? ⟨B, 0, none⟩ = some (.int .u8 (X.toNat : Int)) ∧ W.cell? ⟨B, 1, none⟩ = some (.int .u8 (L.toNat : Int)))
    (first | exact S6 | exact S5 | exact S4 | exact S3 | exact S0)
    (first
      | (go_at_call 50; (with_reducible refine (HOUT.out _).mono ?_); rintro e w3 ⟨vo, rfl, oo, k3⟩; have S3 : w3.cell? ⟨B, 0, none⟩ = some (.int .u8 (X.toNat : Int)) ∧ w3.cell? ⟨B, 1, none⟩ = some (.int .u8 (L.toNat : Int)) := ⟨cell_turn k3 q0 ql, cell_turn k3 q1 ql⟩; have l3 := Nat.lt_of_lt_of_le ql k3.size; have HSE := Lib.hid oo.seen; clear oo)
      | (go_at_call 52; (with_reducible refine (HTX.out _ _ HSE.out).mono ?_); rintro e w4 ⟨rfl, k4⟩; have S4 : w4.cell? ⟨B, 0, none⟩ = some (.int .u8 (X.toNat : Int)) ∧ w4.cell? ⟨B, 1, none⟩ = some (.int .u8 (L.toNat : Int)) := ⟨cell_turn k4 S3.1 l3, cell_turn k4 S3.2 l3⟩; have l4 := Nat.lt_of_lt_of_le l3 k4.size)
      | (go_at_call 51; (with_reducible refine (HAFT.out _).mono ?_); rintro e w5 ⟨rfl, k5⟩; have S5 : w5.cell? ⟨B, 0, none⟩ = some (.int .u8 (X.toNat : Int)) ∧ w5.cell? ⟨B, 1, none⟩ = some (.int .u8 (L.toNat : Int)) := ⟨cell_turn k5 S4.1 l4, cell_turn k5 S4.2 l4⟩; have l5 := Nat.lt_of_lt_of_le l4 k5.size)
      | (go_at_call 58; (with_reducible refine (HNUM.out _).mono ?_); rintro e w6 ⟨rfl, k6⟩; have S6 : w6.cell? ⟨B, 0, none⟩ = some (.int .u8 (X.toNat : Int)) ∧ w6.cell? ⟨B, 1, none⟩ = some (.int .u8 (L.toNat : Int)) := ⟨cell_turn k6 S5.1 l5, cell_turn k6 S5.2 l5⟩))
  all_goals
    have j3 : TurnIn 0 0 w2 w3 := ⟨k3.os, k3.tape, k3.output, k3.size, k3.block⟩
    have j4 : TurnIn 0 0 w3 w4 := ⟨k4.os, k4.tape, k4.output, k4.size, k4.block⟩
    have j5 : TurnIn 0 0 w4 w5 := ⟨k5.os, k5.tape, k5.output, k5.size, k5.block⟩
    have j6 : TurnIn 0 0 w5 w6 := ⟨k6.os, k6.tape, k6.output, k6.size, k6.block⟩
    have JJ := Lib.hid (turn_trans (turn_trans (turn_trans (turn_trans HK2.out j3 (by omega)) j4 (by omega)) j5 (by omega)) j6 (by omega))
    clear j3 j4 j5 j6
    go_wp2_with fail
    refine bodyPost_ret (v := .tuple #[.string (str (outN n m)), .int .i64 (nxtN n m : Nat), .bool true]) (by simp [results, Try.results24, go_sem]) rfl ?_
    exact ⟨by rw [HR.out.1, HR.out.2, HO.out], JJ.out⟩

end Go.Proofs.Ytjgmegfbfjmnfaa

/- Chapter 10: the mathematics of FnFree: turned places, their distance, turning twice. -/
namespace G294
open Go Go.RowKit

theorem some_lt {l : List Int} {n : Nat} (h : someOk l n = true) : ∀ d i, i + d + 1 < l.length → l.getD i 0 < l.getD (i + d + 1) 0
  | 0, i, hi => by
    have := ((someOk_iff l n).1 h (i + 1) hi).2.2 (by omega)
    simpa using this
  | d + 1, i, hi => by
    have h1 := some_lt h d i (by omega)
    have h2 := ((someOk_iff l n).1 h (i + (d + 1) + 1) hi).2.2 (by omega)
    rw [show i + (d + 1) + 1 - 1 = i + d + 1 by omega] at h2
    omega
theorem some_ne {l : List Int} {n i k : Nat} (h : someOk l n = true) (hik : i < k) (hk : k < l.length) : (l.getD i 0).toNat ≠ (l.getD k 0).toNat := by
  have h1 := some_lt h (k - i - 1) i (by omega)
  rw [show i + (k - i - 1) + 1 = k by omega] at h1
  have := ((someOk_iff l n).1 h i (by omega)).1
  omega
theorem some_in {l : List Int} {n k : Nat} (h : someOk l n = true) (hk : k < l.length) : (l.getD k 0).toNat < n := by
  have := (someOk_iff l n).1 h k hk
  have h1 := this.1
  have h2 := this.2.1
  omega
theorem some_snoc {l : List Int} {n : Nat} {z a : Int} (h : someOk l n = true) (hz : ∀ i, i < l.length → l.getD i 0 ≤ z) (ha : z < a) (h0 : 0 ≤ a) (hn : a < n) : someOk (l ++ [a]) n = true := by
  rw [someOk_iff]
  intro i hi
  rw [List.length_append, List.length_singleton] at hi
  have hlt : ∀ j, j < l.length → (l ++ [a]).getD j 0 = l.getD j 0 := fun j hj => by simp [List.getD, List.getElem?_append, hj]
  have hla : (l ++ [a]).getD l.length 0 = a := by simp [List.getD]
  by_cases e : i < l.length
  · have := (someOk_iff l n).1 h i e
    unfold okAt at this ⊢
    rw [hlt i e]
    refine ⟨this.1, this.2.1, fun h0 => ?_⟩
    rw [hlt (i - 1) (by omega)]
    exact this.2.2 h0
  · obtain rfl : i = l.length := by omega
    unfold okAt
    rw [hla]
    refine ⟨h0, hn, fun h0 => ?_⟩
    rw [hlt _ (by omega)]
    have := hz (l.length - 1) (by omega)
    omega
theorem le_snoc {l : List Int} {z a : Int} (hz : ∀ i, i < l.length → l.getD i 0 ≤ z) (ha : z < a) : ∀ i, i < (l ++ [a]).length → (l ++ [a]).getD i 0 ≤ a := fun i hi => by
  rw [List.length_append, List.length_singleton] at hi
  by_cases e : i < l.length
  · have e1 : (l ++ [a]).getD i 0 = l.getD i 0 := by simp [List.getD, List.getElem?_append, e]
    have := hz i e
    omega
  · obtain rfl : i = l.length := by omega
    have e1 : (l ++ [a]).getD l.length 0 = a := by simp [List.getD]
    omega
/-- is the place among the first k -/
def hitK (l : List Int) (j : Nat) : Nat → Bool
  | 0 => false
  | k + 1 => hitK l j k || decide ((l.getD k 0).toNat = j)
theorem hit_no {l : List Int} {n : Nat} (h : someOk l n = true) : ∀ k q, k ≤ q → q < l.length → hitK l (l.getD q 0).toNat k = false
  | 0, _, _, _ => rfl
  | k + 1, q, hk, hq => by
    rw [hitK, hit_no h k q (by omega) hq, Bool.false_or, decide_eq_false_iff_not]
    exact some_ne h (by omega) hq
theorem getD_setO {a : List UInt8} {q j : Nat} (x : UInt8) (h : ¬ q = j) : (a.set q x).getD j 0 = a.getD j 0 := by simp [List.getD, List.getElem?_set, h]
theorem getD_setS {a : List UInt8} {j : Nat} (x : UInt8) (h : j < a.length) : (a.set j x).getD j 0 = x := by simp [List.getD, h]
theorem flip_get {s : List UInt8} {l : List Int} (h : someOk l s.length = true) : ∀ k, k ≤ l.length → ∀ j, j < s.length → (flipK s l k).getD j 0 = if hitK l j k = true then s.getD j 0 ^^^ 1 else s.getD j 0
  | 0, _, j, _ => rfl
  | k + 1, hk, j, hj => by
    have hq := some_in h (show k < l.length by omega)
    have ih := flip_get h k (by omega)
    have hno := hit_no h k k (Nat.le_refl _) (by omega)
    simp only [flipK]
    by_cases e : (l.getD k 0).toNat = j
    · rw [e] at hno
      rw [if_pos (show hitK l j (k + 1) = true by rw [hitK, decide_eq_true e, Bool.or_true]), e, getD_setS _ (by simpa using hj), ih j hj, if_neg (by rw [hno]; decide)]
    · have hh : hitK l j (k + 1) = hitK l j k := by rw [hitK, decide_eq_false e, Bool.or_false]
      rw [getD_setO _ e, ih j hj]
      simp only [hh]
theorem xor_twice (x : UInt8) : x ^^^ 1 ^^^ 1 = x := by
  rw [UInt8.xor_assoc]; simp
theorem xor_other (x : UInt8) : x ≠ x ^^^ 1 := by
  intro e
  have h : x ^^^ x = x ^^^ (x ^^^ 1) := by rw [← e]
  rw [← UInt8.xor_assoc] at h
  simp at h
theorem flip_twice {s : List UInt8} {l : List Int} (h : someOk l s.length = true) : flipK (flipK s l l.length) l l.length = s := by
  have h2 : someOk l (flipK s l l.length).length = true := by rw [flipK_len]; exact h
  refine List.ext_getElem (by simp) fun j hj hj' => ?_
  have e1 := flip_get h2 l.length (Nat.le_refl _) j (by rw [flipK_len]; exact hj')
  rw [flip_get h l.length (Nat.le_refl _) j hj'] at e1
  have e2 : (flipK (flipK s l l.length) l l.length).getD j 0 = (flipK (flipK s l l.length) l l.length)[j] := by simp only [List.getD, List.getElem?_eq_getElem hj]; rfl
  have e3 : s.getD j 0 = s[j] := by simp [List.getD, hj']
  rw [← e2, e1, ← e3]
  split
  · exact xor_twice _
  · rfl
theorem dl_set : ∀ (a b : List UInt8) (q : Nat) (x : UInt8), a.length = b.length → q < a.length → b.getD q 0 = a.getD q 0 → a.getD q 0 ≠ x → dl a (b.set q x) = dl a b + 1
  | [], _, q, x, _, hq, _, _ => by simp at hq
  | c :: a, [], q, x, hl, _, _, _ => by simp at hl
  | c :: a, d :: b, 0, x, hl, hq, he, hx => by
    have e1 : d = c := he
    have e2 : c ≠ x := hx
    subst e1
    simp only [List.set_cons_zero, dl]
    rw [if_neg e2]; simp; omega
  | c :: a, d :: b, q + 1, x, hl, hq, he, hx => by
    have := dl_set a b q x (by simpa using hl) (by simpa using hq) (by simpa using he) (by simpa using hx)
    simp only [List.set_cons_succ, dl, this]
    omega
theorem flip_dl {s : List UInt8} {l : List Int} (h : someOk l s.length = true) : ∀ k, k ≤ l.length → dl s (flipK s l k) = k
  | 0, _ => dl_self s
  | k + 1, hk => by
    have hq := some_in h (show k < l.length by omega)
    have hg : (flipK s l k).getD (l.getD k 0).toNat 0 = s.getD (l.getD k 0).toNat 0 := by
      rw [flip_get h k (by omega) _ hq, hit_no h k k (Nat.le_refl _) (by omega)]; simp
    have ih := flip_dl h k (by omega)
    simp only [flipK]
    rw [hg, dl_set s (flipK s l k) _ _ (by simp) hq hg (xor_other _), ih]
theorem flpR_yes' {s : List UInt8} {l : List Int} (h : flpOk s l = true) : flpR s l = flipK s l l.length := if_pos h
theorem flpOk_b {s : List UInt8} {l : List Int} (h : flpOk s l = true) : bitsOk s 96 = true ∧ someOk l s.length = true := by simpa [flpOk] using h
theorem flip_bits {s : List UInt8} {l : List Int} (h : flpOk s l = true) : bitsOk (flpR s l) 96 = true ∧ (flpR s l).length = s.length := by
  obtain ⟨h1, h2⟩ := flpOk_b h
  obtain ⟨b1, b2⟩ := bitsOk_b h1
  have h3 := (raw_flip s l b2 l.length (fun j hj => some_in h2 hj)).2
  have h4 : (flpR s l).length = s.length := by rw [flpR_yes' h]; simp
  refine ⟨?_, h4⟩
  simp only [bitsOk, Bool.and_eq_true, decide_eq_true_eq]
  exact ⟨by rw [h4]; exact b1, by rw [flpR_yes' h]; exact h3⟩
/-- turned twice is not turned -/
theorem flip_back {s : List UInt8} {l : List Int} (h : flpOk s l = true) : flpOk (flpR s l) l = true ∧ flpR (flpR s l) l = s := by
  obtain ⟨h1, h2⟩ := flpOk_b h
  obtain ⟨h3, h4⟩ := flip_bits h
  have h5 : flpOk (flpR s l) l = true := by simp only [flpOk, Bool.and_eq_true]; exact ⟨h3, by rw [h4]; exact h2⟩
  exact ⟨h5, by rw [flpR_yes' h5, flpR_yes' h]; exact flip_twice h2⟩
/-- three errors are mended -/
theorem free_all {s : List UInt8} {l : List Int} (hs : encOk10 s = true) (hl : someOk l (encR10 s).length = true) (h3 : l.length ≤ 3) :
    flpOk (encR10 s) l = true ∧ (flpR (encR10 s) l).length = (encR10 s).length ∧ dstOk (encR10 s) (flpR (encR10 s) l) = true ∧ dstR (encR10 s) (flpR (encR10 s) l) = (l.length : Int) ∧ recOk (flpR (encR10 s) l) = true ∧ dcdR (flpR (encR10 s) l) = (s, (l.length : Int)) := by
  have hb := encR10_bits hs
  have h1 : flpOk (encR10 s) l = true := by simp only [flpOk, Bool.and_eq_true]; exact ⟨hb, hl⟩
  obtain ⟨h2, h4⟩ := flip_bits h1
  have h5 : dl (encR10 s) (flpR (encR10 s) l) = l.length := by rw [flpR_yes' h1]; exact flip_dl hl _ (Nat.le_refl _)
  have h6 : dstOk (encR10 s) (flpR (encR10 s) l) = true := by simp only [dstOk, hb, h2, h4]; simp
  obtain ⟨h7, h8⟩ := dcd_free hs h4 (bitsOk_b h2).2 (by rw [h5]; exact h3)
  exact ⟨h1, h4, h6, by rw [dstR_yes h6, h5], h8, by rw [h7, h5]⟩
/-- the round of the code: a bit of the text with two zeros behind it -/
theorem enc_round (s : List UInt8) (hs : s.all isBitC = true) {k : Nat} (hk : k < s.length + 2) :
    ∃ b : Nat, b < 2 ∧ (k < s.length → (if s.getD k 0 = 49 then b = 1 else b = 0)) ∧ (¬ k < s.length → b = 0) ∧
    encT 0 ((encS s).take (k + 1)) = encT 0 ((encS s).take k) ++ outN (encE s k) b ∧ encE s (k + 1) = nxtN (encE s k) b := by
  have hl : k < (encS s).length := by rw [encS_len]; exact hk
  refine ⟨bv ((encS s).getD k 0), bv_lt _, fun h => ?_, fun h => ?_, ?_, ?_⟩
  · have e : (encS s).getD k 0 = s.getD k 0 := by simp [encS, List.getD, List.getElem?_append, h]
    rw [e]; unfold bv; split <;> rfl
  · have e : (encS s).getD k 0 = 48 := by
      have hk2 : k = s.length ∨ k = s.length + 1 := by omega
      rcases hk2 with rfl | rfl <;> simp [encS, List.getD, List.getElem?_append]
    rw [e]; decide
  · rw [take_snocD _ hl, encT_snoc]; rfl
  · show endT 0 _ = _
    rw [take_snocD _ hl, endT_snoc]; rfl
theorem enc_last {s : List UInt8} (h : encOk10 s = true) : encT 0 ((encS s).take (s.length + 2)) = encR10 s ∧ encE s (s.length + 2) = 0 := by
  have e : (encS s).take (s.length + 2) = encS s := List.take_of_length_le (by rw [encS_len]; exact Nat.le_refl _)
  unfold encE
  rw [e]
  exact ⟨(encR10_yes h).symm, (lead_zeros (bitsOk_b h).2 rfl).2.2⟩
theorem encE_lt (s : List UInt8) (k : Nat) : encE s k < 4 := endT_lt (by omega) _
theorem encT_take_len (s : List UInt8) {k : Nat} (hk : k ≤ s.length + 2) : (encT 0 ((encS s).take k)).length = 3 * k := by
  simp [encS_len]; omega
end G294
