/- Chapter 13: valid numbers, binary digits, the last digits as a text: the program's. -/
import Derived.Test.YtlhipceepoenfaaDoorLenTab
import Derived.Test.YtlhipceepoenfaaDoorVitI
set_option linter.unusedSimpArgs false
set_option linter.unusedVariables false
namespace G294
open Go Go.RowKit
theorem wrapUm {n : Nat} (h : n ≤ 2000000) : IntKind.u64.wrap (n : Int) = n := by simp [IntKind.wrap, IntKind.bits, IntKind.signed]; omega
/-- how many digits there are, by the table -/
theorem nd_tab {n : Nat} (h : n < 256) : (lenTab[n]'(by rw [lenTab_size]; exact h)).toNat = nd n := by
  rw [lenTab_at (by rw [lenTab_size]; exact h)]
  exact lenTab_nd ⟨n, h⟩
theorem nd_tab0 {n : Nat} (h : n < 256) : nd n ≤ 8 := by
  by_cases e : n = 0
  · subst e; decide
  · exact nd_le (by omega) (by omega) (by omega)
theorem and1_u8 : ∀ r : Fin 256, bits BinOp.and IntKind.u8 (r.1 : Int) 1 = ((r.1 % 2 : Nat) : Int) := by decide +kernel
theorem chB_sub (n : Nat) : ((chB (n % 2) - 48 : UInt8).toNat) = n % 2 := by
  have : n % 2 = 0 ∨ n % 2 = 1 := by omega
  rcases this with h | h <;> rw [h] <;> decide
/-- the digit that lowDigits computes -/
theorem low_bit {n c k : Nat} (hk : k < c) (hc : c ≤ 60) : bits BinOp.and IntKind.u8 ((n : Int) / 2 ^ k % 256) 1 = ((((raw (lowL n c)).getD (c - 1 - k) 0).toNat : Nat) : Int) := by
  rw [raw_getD _ (by rw [lowL_len]; omega), lowL_get c n (c - 1 - k) (by omega), show c - 1 - (c - 1 - k) = k from by omega, chB_sub]
  have e : ((n : Int) / 2 ^ k % 256) = ((n / 2 ^ k % 256 : Nat) : Int) := by simp
  rw [e, and1_u8 ⟨n / 2 ^ k % 256, Nat.mod_lt _ (by decide)⟩]
  have : n / 2 ^ k % 256 % 2 = n / 2 ^ k % 2 := by omega
  rw [this]
/-- a row that is filled from the end -/
theorem fill_end {α : Type} {l : List α} {x d : α} {k : Nat} (hk : k < l.length) (hx : l.getD (l.length - 1 - k) d = x) : (List.replicate (l.length - k) d ++ l.drop (l.length - k)).set (l.length - 1 - k) x = List.replicate (l.length - (k + 1)) d ++ l.drop (l.length - (k + 1)) := by
  have e1 : l.length - k = (l.length - 1 - k) + 1 := by omega
  have e2 : l.length - (k + 1) = l.length - 1 - k := by omega
  have hq : l.length - 1 - k < l.length := by omega
  rw [e1, e2, List.drop_eq_getElem_cons hq, List.set_append_left _ _ (by simp)]
  have : l[l.length - 1 - k] = x := by rw [← hx, List.getD_eq_getElem?_getD, List.getElem?_eq_getElem hq]; rfl
  rw [this, List.replicate_succ', List.set_append_right _ _ (by simp), List.length_replicate, Nat.sub_self, List.append_assoc]
  rfl
end G294
namespace Go.Proofs.YtlhipceepoenfaaDoor
open Go.RowKit G294

set_option maxRecDepth 100000 in
set_option maxHeartbeats 2000000 in
theorem len64n_own (n : Nat) (w : World) (hn : n ≤ 1048576) : Calls Tryd.prog 80 #[.int .u64 n] w (fun e w' => e = .returned (.int .i64 (nd n : Nat)) ∧ w = w') := by
  have h1 : ¬ (4294967296 : Int) ≤ (n : Int) := by omega
  by_cases h8 : n < 256
  · have h2 : ¬ (65536 : Int) ≤ (n : Int) := by omega
    have h3 : ¬ (256 : Int) ≤ (n : Int) := by omega
    have h4 : (n : Int) < 256 := by omega
    have HT := Lib.hid (@nd_tab n h8)
    have HL := Lib.hid (@nd_tab0 n h8)
    go_enter Tryd.func80, Tryd.ntmps80
    go_wp2_with fail
    go_ret
    refine ⟨?_, rfl⟩
    have e := HT.out
    have hl := HL.out
    have e2 : wrap64 (wrap64 ((lenTab[n]'(by rw [lenTab_size]; exact h8)).toNat : Int)) = (nd n : Int) := by
      rw [e]; unfold wrap64; omega
    exact congrArg (fun z => Ending.returned (Value.int IntKind.i64 z)) e2
  · by_cases h16 : n < 65536
    · obtain ⟨m, hm⟩ : ∃ m, m = n / 256 := ⟨_, rfl⟩
      have im : (n : Int) / 256 = (m : Int) := by omega
      have h8m : m < 256 := by omega
      have HT := Lib.hid (@nd_tab m h8m)
      have HL := Lib.hid (@nd_tab0 m h8m)
      have HS : Hid (nd m + 8 = nd n) := Lib.hid (by rw [hm]; exact nd_shift (j := 8) (by omega) (by omega))
      have h2 : ¬ (65536 : Int) ≤ (n : Int) := by omega
      have h3 : (256 : Int) ≤ (n : Int) := by omega
      have h4 : (m : Int) < 256 := by omega
      have h5 : (m : Int) % 256 = (m : Int) := by omega
      clear hm
      go_enter Tryd.func80, Tryd.ntmps80
      go_wp2_with fail
      go_ret
      refine ⟨?_, rfl⟩
      have e := HT.out
      have hl := HL.out
      have hs := HS.out
      have e2 : wrap64 (8 + wrap64 ((lenTab[m]'(by rw [lenTab_size]; exact h8m)).toNat : Int)) = (nd n : Int) := by
        rw [e]; unfold wrap64; omega
      exact congrArg (fun z => Ending.returned (Value.int IntKind.i64 z)) e2
    · obtain ⟨m, hm⟩ : ∃ m, m = n / 65536 := ⟨_, rfl⟩
      have im : (n : Int) / 65536 = (m : Int) := by omega
      have h8m : m < 256 := by omega
      have HT := Lib.hid (@nd_tab m h8m)
      have HL := Lib.hid (@nd_tab0 m h8m)
      have HS : Hid (nd m + 16 = nd n) := Lib.hid (by rw [hm]; exact nd_shift (j := 16) (by omega) (by omega))
      have h2 : (65536 : Int) ≤ (n : Int) := by omega
      have h3 : ¬ (256 : Int) ≤ (m : Int) := by omega
      have h4 : (m : Int) < 256 := by omega
      have h5 : (m : Int) % 256 = (m : Int) := by omega
      clear hm
      go_enter Tryd.func80, Tryd.ntmps80
      go_wp2_with fail
      go_ret
      refine ⟨?_, rfl⟩
      have e := HT.out
      have hl := HL.out
      have hs := HS.out
      have e2 : wrap64 (16 + wrap64 ((lenTab[m]'(by rw [lenTab_size]; exact h8m)).toNat : Int)) = (nd n : Int) := by
        rw [e]; unfold wrap64; omega
      exact congrArg (fun z => Ending.returned (Value.int IntKind.i64 z)) e2

set_option maxRecDepth 100000 in
set_option maxHeartbeats 2000000 in
theorem lenn_own (n : Nat) (w : World) (hn : n ≤ 1048576) : Calls Tryd.prog 71 #[.int .u64 n] w (fun e w' => e = .returned (.int .i64 (nd n : Nat)) ∧ w = w') := by
  have HL := Lib.hid (len64n_own n w hn)
  go_enter Tryd.func71, Tryd.ntmps71
  go_wp2_with fail
  refine HL.out.mono ?_
  rintro e w1 ⟨rfl, rfl⟩
  go_wp2_with fail
  go_ret
  exact ⟨rfl, rfl⟩

set_option maxRecDepth 100000 in
set_option maxHeartbeats 2000000 in
theorem size_own (n : Nat) (w : World) (hn : n ≤ 1048576) : Calls Tryd.prog 58 #[.int .i64 n] w (fun e w' => e = .returned (.int .i64 (nd n : Nat)) ∧ w = w') := by
  have HL := Lib.hid (lenn_own n w hn)
  have hw := wrapUm (show n ≤ 2000000 by omega)
  go_enter Tryd.func58, Tryd.ntmps58
  go_wp2_with fail
  refine HL.out.mono ?_
  rintro e w1 ⟨rfl, rfl⟩
  go_wp2_with fail
  go_ret
  exact ⟨rfl, rfl⟩

set_option maxRecDepth 100000 in
set_option maxHeartbeats 1000000 in
theorem goodNumber_own (n : Int) (w : World) : Calls Tryd.prog 35 #[.int .i64 n] w (fun e w' => e = .returned (.bool (okN n)) ∧ w = w') := by
  by_cases h1 : 1 ≤ n
  · by_cases h2 : n ≤ 1000000
    · have HV : Hid (okN n = true) := Lib.hid (by simp [okN, h1, h2])
      go_enter Tryd.func35, Tryd.ntmps35
      go_wp2_with fail
      go_ret
      exact ⟨by rw [HV.out]; rfl, rfl⟩
    · have HV : Hid (okN n = false) := Lib.hid (by simp [okN, h1, h2])
      go_enter Tryd.func35, Tryd.ntmps35
      go_wp2_with fail
      go_ret
      exact ⟨by rw [HV.out]; rfl, rfl⟩
  · have HV : Hid (okN n = false) := Lib.hid (by simp [okN, h1])
    go_enter Tryd.func35, Tryd.ntmps35
    go_wp2_with fail
    go_ret
    exact ⟨by rw [HV.out]; rfl, rfl⟩

set_option maxRecDepth 100000 in
set_option maxHeartbeats 1000000 in
theorem goodParameter_own (n : Int) (w : World) : Calls Tryd.prog 38 #[.int .i64 n] w (fun e w' => e = .returned (.bool (okK n)) ∧ w = w') := by
  by_cases h1 : 0 ≤ n
  · by_cases h2 : n ≤ 10
    · have HV : Hid (okK n = true) := Lib.hid (by simp [okK, h1, h2])
      go_enter Tryd.func38, Tryd.ntmps38
      go_wp2_with fail
      go_ret
      exact ⟨by rw [HV.out]; rfl, rfl⟩
    · have HV : Hid (okK n = false) := Lib.hid (by simp [okK, h1, h2])
      go_enter Tryd.func38, Tryd.ntmps38
      go_wp2_with fail
      go_ret
      exact ⟨by rw [HV.out]; rfl, rfl⟩
  · have HV : Hid (okK n = false) := Lib.hid (by simp [okK, h1])
    go_enter Tryd.func38, Tryd.ntmps38
    go_wp2_with fail
    go_ret
    exact ⟨by rw [HV.out]; rfl, rfl⟩

set_option maxRecDepth 100000 in
set_option maxHeartbeats 2000000 in
theorem lowDigits_own (n c : Nat) (w : World) (hc : c ≤ 60) : Calls Tryd.prog 57 #[.int .i64 n, .int .i64 c] w (RetStr w (lowL n c)) := by
  obtain ⟨i0, hi0, hz0, hz1, hz2⟩ := info_parts infoByte
  have hbm := bys_rep0 c
  have HLL : Hid ((raw (lowL n c)).length = c) := Lib.hid (by rw [raw_len, lowL_len])
  have HTX : Hid (txt (raw (lowL n c)) = lowL n c) := Lib.hid (txt_raw _)
  have HBT := Lib.hid (fun k (h : k < c) => low_bit (n := n) h hc)
  have HFE : Hid (∀ k, k < c → ∀ x, (raw (lowL n c)).getD (c - 1 - k) 0 = x → (List.replicate (c - k) 0 ++ (raw (lowL n c)).drop (c - k)).set (c - 1 - k) x = List.replicate (c - (k + 1)) 0 ++ (raw (lowL n c)).drop (c - (k + 1))) := fun k hk x hx => by
    have := @fill_end _ (raw (lowL n c)) x 0 k (by rw [HLL.out]; exact hk)
    rw [HLL.out] at this
    exact this hx
  generalize raw (lowL n c) = R at *
  go_enter Tryd.func57, Tryd.ntmps57
  go_wp2_with (at_make; refine wpList_make_full _ rfl _ _ _ rfl w.heap.size _ i0 _ 1 Tryd.underlying61 hi0 hz0 hz1 _ _ _ _ c rfl rfl rfl rfl ?b2 ?b3 ?b4 ?_)
  case b2 => rw [hz2]; omega
  case b3 => unfold maxLen; omega
  case b4 => exact Nat.le_refl _
  intro w1 hown1 hg1
  have hb1 : Below w.heap.size w w1 := below_of_grown hg1 (Nat.le_refl _) (by simp)
  rw [toList_madeCells_one, ← hbm] at hown1
  have hO1 : OwnBytes 5 w1 w.heap.size w1.heap.size (.slice (some ⟨w.heap.size, 0, none⟩) c c) (List.replicate (c - 0) 0 ++ R.drop (c - 0)) := by
    rw [Nat.sub_zero, List.drop_of_length_le (by rw [HLL.out]; exact Nat.le_refl _), List.append_nil]
    refine OwnBytes.of_made ?_
    simpa using hown1
  have HO1 := Lib.hid hO1
  clear hg1 hbm hown1 hO1
  go_wp2_with fail
  go_loopw [11] (fun i wr => ∃ k : Nat, k ≤ c ∧ i = .int .i64 k ∧ Hid (OwnBytes 5 wr w.heap.size wr.heap.size (.slice (some ⟨w.heap.size, 0, none⟩) c c) (List.replicate (c - k) 0 ++ R.drop (c - k))) ∧ Below w.heap.size w wr) (fun i _ => c - (intOf i).toNat)
  case atStart => exact ⟨0, Nat.zero_le _, rfl, HO1, hb1⟩
  case round =>
    clear HO1 hb1
    obtain ⟨k, hk, rfl, HO, hb⟩ := hrel
    by_cases hlt : k < c
    · have hki : (k : Int) < (c : Int) := by omega
      have hll : (List.replicate (c - k) 0 ++ R.drop (c - k)).length = c := by simp [HLL.out]; try omega
      have hco := HO.out.cellAt (k := c - 1 - k) (by omega)
      have hfr := HO.out.frozenAt (c - 1 - k)
      have hbt := HBT.out k hlt
      have HST := Lib.hid (HO.out.store (q := c - 1 - k) (x := R.getD (c - 1 - k) 0) hll (HFE.out k hlt _ rfl))
      have HB2 := Lib.hid (hb.setCell (p := ⟨w.heap.size, c - 1 - k, none⟩) (Nat.le_refl _) (.int .u8 (((R.getD (c - 1 - k) 0).toNat : Nat) : Int)))
      generalize (List.replicate (c - k) 0 ++ R.drop (c - k)).getD (c - 1 - k) 0 = z at hco
      generalize R.getD (c - 1 - k) 0 = x at *
      clear hll
      go_wp2_with fail
      go_roundw
      case rel => exact ⟨k + 1, by omega, by go_num, by
        have h := HST.out
        exact ⟨by simpa using h.1, Nat.le_refl _, fun g e => by have := h.2.2 g e; simpa using this⟩, HB2.out⟩
      case measure => simp [intOf]; omega
    · obtain rfl : k = c := by omega
      have hki : ¬ (k : Int) < (k : Int) := by omega
      have hO := HO.out
      rw [Nat.sub_self, List.replicate_zero, List.nil_append, List.drop_zero] at hO
      have hseen := hO.seen
      clear hO HO
      go_wp2_with fail
      refine (bitText_own _ R _ hseen (by rw [HLL.out]; omega)).mono ?_
      rintro e w2 ⟨rfl, k2⟩
      go_wp2_with fail
      go_ret
      exact ⟨by rw [HTX.out]; rfl, turn_trans (TurnIn.of_below hb) k2 (by omega)⟩

end Go.Proofs.YtlhipceepoenfaaDoor
