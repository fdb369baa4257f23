/- Chapter 13: Gamma, Delta and Rice codes: the model's. -/
import Derived.Test.YtlhipceepoenfaaNumG
import Derived.Test.YtlhipceepoenfaaVitS
set_option linter.unusedSimpArgs false
set_option linter.unusedVariables false
namespace G294
open Go Go.RowKit
theorem set_rep {α : Type} (n k : Nat) (b d : α) (h : k < n) : (List.replicate k b ++ List.replicate (n - k) d).set k b = List.replicate (k + 1) b ++ List.replicate (n - (k + 1)) d := by
  rw [List.set_append_right _ _ (by simp), List.length_replicate, Nat.sub_self]
  obtain ⟨m, hm⟩ : ∃ m, n - k = m + 1 := ⟨n - k - 1, by omega⟩
  rw [hm, List.replicate_succ, List.set_cons_zero, show n - (k + 1) = m from by omega, List.replicate_succ', List.append_assoc]; rfl
end G294
namespace Go.Proofs.Ytlhipceepoenfaa
open Go.RowKit G294

set_option maxRecDepth 100000 in
set_option maxHeartbeats 1000000 in
theorem l13Number_any (n : Int) (w : World) : Calls Try.prog 42 #[.int .i64 n] w (fun e w' => e = .returned (.bool (okN n)) ∧ w = w') := by
  have HI := Lib.hid (l1In_any n 1 1000000 w)
  have HE : Hid (inB n 1 1000000 = okN n) := Lib.hid (by unfold inB okN; simp)
  go_enter Try.func42, Try.ntmps42
  go_wp2_with fail
  refine HI.out.mono ?_
  rintro e w1 ⟨rfl, rfl⟩
  rw [HE.out]
  go_wp2_with fail
  go_ret
  exact ⟨rfl, rfl⟩

set_option maxRecDepth 100000 in
set_option maxHeartbeats 2000000 in
theorem l13Many_own (n : Nat) (b : UInt8) (w : World) (hc : n ≤ 1000000) : Calls Try.prog 49 #[.int .i64 n, .int .u8 (b.toNat : Int)] w (RetStr w (List.replicate n b)) := by
  obtain ⟨i0, hi0, hz0, hz1, hz2⟩ := info_parts infoByte
  have hbm := bys_rep0 n
  have HSR := Lib.hid (fun k (h : k < n) => set_rep n k b (0 : UInt8) h)
  go_enter Try.func49, Try.ntmps49
  go_wp2_with (at_make; refine wpList_make_full _ rfl _ _ _ rfl w.heap.size _ i0 _ 1 Try.underlying35 hi0 hz0 hz1 _ _ _ _ n rfl rfl rfl rfl ?b2 ?b3 ?b4 ?_)
  case b2 => rw [hz2]; omega
  case b3 => unfold maxLen; omega
  case b4 => exact Nat.le_refl _
  intro w1 hown1 hg1
  have hb1 : Below w.heap.size w w1 := below_of_grown hg1 (Nat.le_refl _) (by simp)
  rw [toList_madeCells_one, ← hbm] at hown1
  have hO1 : OwnBytes 5 w1 w.heap.size w1.heap.size (.slice (some ⟨w.heap.size, 0, none⟩) n n) (List.replicate 0 b ++ List.replicate (n - 0) 0) := by
    refine OwnBytes.of_made ?_
    simpa using hown1
  have HO1 := Lib.hid hO1
  clear hg1 hbm hown1 hO1
  go_wp2_with fail
  go_loopw [11] (fun i wr => ∃ k : Nat, k ≤ n ∧ i = .int .i64 k ∧ Hid (OwnBytes 5 wr w.heap.size wr.heap.size (.slice (some ⟨w.heap.size, 0, none⟩) n n) (List.replicate k b ++ List.replicate (n - k) 0)) ∧ Below w.heap.size w wr) (fun i _ => n - (intOf i).toNat)
  case atStart => exact ⟨0, Nat.zero_le _, rfl, HO1, hb1⟩
  case round =>
    clear HO1 hb1
    obtain ⟨k, hk, rfl, HO, hb⟩ := hrel
    by_cases hlt : k < n
    · have hki : (k : Int) < (n : Int) := by omega
      have hll : (List.replicate k b ++ List.replicate (n - k) (0 : UInt8)).length = n := by simp; omega
      have hco := HO.out.cellAt (k := k) (by omega)
      have hfr := HO.out.frozenAt k
      have HST := Lib.hid (HO.out.store (q := k) (x := b) hll (HSR.out k hlt))
      have HB2 := Lib.hid (hb.setCell (p := ⟨w.heap.size, k, none⟩) (Nat.le_refl _) (.int .u8 ((b.toNat : Nat) : Int)))
      generalize (List.replicate k b ++ List.replicate (n - k) (0 : UInt8)).getD k 0 = z at hco
      clear hll
      go_wp2_with fail
      go_roundw
      case rel => exact ⟨k + 1, by omega, by go_num, by
        have h := HST.out
        exact ⟨by simpa using h.1, Nat.le_refl _, fun g e => by have := h.2.2 g e; simpa using this⟩, HB2.out⟩
      case measure => simp [intOf]; omega
    · obtain rfl : k = n := by omega
      have hki : ¬ (k : Int) < (k : Int) := by omega
      have hO := HO.out
      rw [Nat.sub_self, List.replicate_zero, List.append_nil] at hO
      have hseen := hO.seen
      have hconv := run_string_seen (P := Try.prog) 35 5 9 Try.underlying35 Try.underlying5 Try.underlying9 hseen
      clear hO HO hseen
      go_wp2_with fail
      go_ret
      exact ⟨by rfl, TurnIn.of_below hb⟩

set_option maxRecDepth 100000 in
set_option maxHeartbeats 1000000 in
theorem l13Binary_own : ∀ (f n : Nat) (w : World), n < f → 1 ≤ n → n ≤ 1048576 → Calls Try.prog 46 #[.int .i64 n] w (RetStr w (binL n))
  | 0, n, w, h, _, _ => by omega
  | f + 1, n, w, h, h1, h2 => by
    by_cases hlt : n < 2
    · obtain rfl : n = 1 := by omega
      have HL := Lib.hid (l10Bit_own 1 w (by omega))
      have HE := Lib.hid binL_one
      go_enter Try.func46, Try.ntmps46
      go_wp2_with fail
      refine HL.out.mono ?_
      rintro e w1 ⟨rfl, k1⟩
      rw [HE.out]
      go_wp2_with fail
      go_ret
      exact ⟨rfl, k1⟩
    · obtain ⟨m, hm⟩ : ∃ m, m = n / 2 := ⟨_, rfl⟩
      obtain ⟨d, hd⟩ : ∃ d, d = n % 2 := ⟨_, rfl⟩
      have hd2 : d < 2 := by omega
      have im : (n : Int).tdiv 2 = (m : Int) := by rw [hm]; simp [Int.tdiv_eq_ediv]
      have id : (n : Int).tmod 2 = (d : Int) := by rw [hd]; simp [Int.tmod_eq_emod]
      have hki : ¬ (n : Int) < 2 := by omega
      have HI := Lib.hid (fun W => l13Binary_own f m W (by omega) (by omega) (by omega))
      have HL := Lib.hid (fun W => l10Bit_own d W hd2)
      have HE : Hid (binL m ++ [chB d] = binL n) := Lib.hid (by rw [hm, hd, binL_half (n := n) (by omega) (by omega)])
      have hz1 : (str (binL m)).size = (binL m).length := str_size _
      have hzl : (binL m).length ≤ 100 := by
        rw [binL, lowL_len]
        have := nd_le (n := m) (k := 21) (by omega) (by omega) (by omega)
        omega
      have hz2 : (str [chB d]).size = 1 := rfl
      have hmm : m ≤ 1048576 := by omega
      clear hm hd
      generalize binL m = g at *
      generalize g.length = gl at *
      generalize [chB d] = l at *
      go_enter Try.func46, Try.ntmps46
      go_wp2_with fail
      refine (HI.out _).mono ?_
      rintro e w1 ⟨rfl, k1⟩
      go_wp2_with fail
      refine (HL.out _).mono ?_
      rintro e w2 ⟨rfl, k2⟩
      have k12 := turn_trans k1 k2 (by omega)
      clear k1 k2
      go_wp2_with fail
      go_ret
      exact ⟨by rw [← HE.out, ← str_append]; rfl, k12⟩

set_option maxRecDepth 100000 in
set_option maxHeartbeats 1000000 in
theorem l13Gamma_own (n : Nat) (w : World) (h1 : 1 ≤ n) (h2 : n ≤ 1000000) : Calls Try.prog 43 #[.int .i64 n] w (RetStr w (gamL n)) := by
  have HB := Lib.hid (l13Binary_own (n + 1) n w (by omega) h1 (by omega))
  obtain ⟨h3, h4⟩ := nd_okN h1 h2
  obtain ⟨c, hc⟩ : ∃ c, c = nd n - 1 := ⟨_, rfl⟩
  have HM := Lib.hid (fun W => l13Many_own c 48 W (by omega))
  have HE : Hid (List.replicate c 48 ++ binL n = gamL n) := Lib.hid (by rw [gamL_eq (by omega) h1, hc])
  have hz1 : (str (binL n)).size = nd n := by rw [str_size, binL, lowL_len]
  have hz2 : (str (List.replicate c (48 : UInt8))).size = c := by rw [str_size, List.length_replicate]
  generalize nd n = d at *
  have ic : (d : Int) - 1 = (c : Int) := by omega
  have hcc : c ≤ 20 := by omega
  clear hc
  generalize binL n = g at *
  generalize List.replicate c (48 : UInt8) = l at *
  go_enter Try.func43, Try.ntmps43
  go_wp2_with fail
  refine HB.out.mono ?_
  rintro e w1 ⟨rfl, k1⟩
  go_wp2_with fail
  refine (HM.out _).mono ?_
  rintro e w2 ⟨rfl, k2⟩
  have k12 := turn_trans k1 k2 (by omega)
  clear k1 k2
  go_wp2_with fail
  go_ret
  exact ⟨by rw [← HE.out, ← str_append]; rfl, k12⟩

set_option maxRecDepth 100000 in
set_option maxHeartbeats 1000000 in
theorem sGammaOf_own (n : Int) (w : World) : Calls Try.prog 12 #[.int .i64 n] w (RetStrOk w (gamR n) (okN n)) := by
  have HN := Lib.hid (l13Number_any n w)
  cases hk : okN n with
  | false =>
    have HR : Hid (gamR n = []) := Lib.hid (by rw [gamR, hk]; rfl)
    rw [hk] at HN
    rw [HR.out]
    clear hk
    go_enter Try.func12, Try.ntmps12
    go_wp2_with fail
    refine HN.out.mono ?_
    rintro e w1 ⟨rfl, rfl⟩
    go_wp2_with fail
    go_ret2
    exact ⟨rfl, TurnIn.refl _⟩
  | true =>
    obtain ⟨h1, h2⟩ := okN_iff.1 hk
    obtain ⟨m, rfl⟩ : ∃ m : Nat, n = (m : Int) := ⟨n.toNat, by omega⟩
    have HR : Hid (gamR m = gamL m) := Lib.hid (by rw [gamR, hk]; rfl)
    have HG := Lib.hid (l13Gamma_own m w (by omega) (by omega))
    rw [hk] at HN
    rw [HR.out]
    clear hk
    go_enter Try.func12, Try.ntmps12
    go_wp2_with fail
    refine HN.out.mono ?_
    rintro e w1 ⟨rfl, rfl⟩
    go_wp2_with fail
    refine HG.out.mono ?_
    rintro e w1 ⟨rfl, k1⟩
    go_wp2_with fail
    go_ret2
    exact ⟨rfl, k1⟩

end Go.Proofs.Ytlhipceepoenfaa
