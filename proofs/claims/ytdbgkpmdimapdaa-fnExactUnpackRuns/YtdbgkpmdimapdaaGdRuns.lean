/- Chapter 12: valid runs, the program's and the model's. -/
import Derived.Test.YtdbgkpmdimapdaaRunMem
import Derived.Test.YtdbgkpmdimapdaaRlMath
import Derived.Test.YtdbgkpmdimapdaaFieldWalksB
import Derived.Test.YtdbgkpmdimapdaaMtfB
import Derived.Test.YtdbgkpmdimapdaaBoxes
import Derived.Test.YtdbgkpmdimapdaaMatI
import Derived.BigQuiet
set_option linter.unusedSimpArgs false
set_option linter.unusedVariables false
namespace G294
open Go Go.RowKit Go.Proofs.Ytdbgkpmdimapdaa
theorem ok_at {l : List Ru} {k : Nat} {no : UInt8} {y : Int} (h : l[k]? = some (no, y)) : okRu l k = true ↔ 1 ≤ y ∧ sumRs (l.take k) + y ≤ 200 ∧ (0 < k → no ≠ (l.getD (k - 1) (0, 0)).1) := by
  obtain ⟨hk, e⟩ := List.getElem?_eq_some_iff.1 h
  rw [okRu_iff hk, e]
theorem sum_at {l : List Ru} {k : Nat} {no : UInt8} {y : Int} (h : l[k]? = some (no, y)) : sumRs (l.take (k + 1)) = sumRs (l.take k) + y := by
  obtain ⟨hk, e⟩ := List.getElem?_eq_some_iff.1 h
  rw [sumRs_take hk, e]
theorem okTake_sum {l : List Ru} : ∀ k, k ≤ l.length → (∀ i, i < k → okRu l i = true) → 0 ≤ sumRs (l.take k) ∧ sumRs (l.take k) ≤ 200
  | 0, _, _ => by simp [sumRs]
  | k + 1, h, ho => by
    have ih := okTake_sum k (by omega) fun i hi => ho i (by omega)
    have hk : k < l.length := by omega
    have o := (okRu_iff hk).1 (ho k (by omega))
    rw [sumRs_take hk]
    omega
theorem ok_all {l : List Ru} {n : Nat} (hn : l.length = n) (h : ∀ i, i < n → okRu l i = true) : goodRs l = true := (goodRs_iff l).2 (by rw [hn]; exact h)
theorem ok_step {l : List Ru} {k : Nat} (h : ∀ i, i < k → okRu l i = true) (hk : okRu l k = true) : ∀ i, i < k + 1 → okRu l i = true := fun i hi => by
  rcases Nat.lt_or_ge i k with h' | h'
  · exact h i h'
  · obtain rfl : i = k := by omega
    exact hk
theorem ok_bad {l : List Ru} {k : Nat} {no : UInt8} {y : Int} (h : l[k]? = some (no, y)) (hb : ¬ (1 ≤ y ∧ sumRs (l.take k) + y ≤ 200 ∧ (0 < k → no ≠ (l.getD (k - 1) (0, 0)).1))) : goodRs l = false := by
  obtain ⟨hk, _⟩ := List.getElem?_eq_some_iff.1 h
  refine goodRs_no hk ?_
  cases e : okRu l k with
  | false => rfl
  | true => exact absurd ((ok_at h).1 e) hb
/-- the run before -/
theorem at_before {l : List Ru} {j : Nat} (h : j < l.length) : ∃ p, l[j]? = some p ∧ (l.getD (j + 1 - 1) (0, 0)).1 = p.1 :=
  ⟨l[j], List.getElem?_eq_getElem h, by rw [Nat.add_sub_cancel, List.getD_eq_getElem?_getD, List.getElem?_eq_getElem h]; rfl⟩
theorem byte_eqI {a b : UInt8} : ((a.toNat : Int) == (b.toNat : Int)) = decide (a = b) := by
  by_cases h : a = b
  · subst h; simp
  · rw [decide_eq_false h, beq_eq_false_iff_ne]
    intro e
    exact h (UInt8.toNat_inj.1 (by omega))
end G294
namespace Go.Proofs.Ytdbgkpmdimapdaa
open Go.RowKit G294

set_option maxRecDepth 100000 in
set_option maxHeartbeats 4000000 in
theorem goodRuns_own (v : Value) (l : List Ru) (w : World) (hv : SeenRu w v l) : Calls Try.prog 43 #[v] w (RetBool w (goodRs l)) := by
  obtain ⟨A, c, rfl, hlc, hcm, hx⟩ := hv
  unfold maxLen at hcm
  have HSUM := Lib.hid (fun k h1 h2 => @okTake_sum l k h1 h2)
  have HBAD := Lib.hid (fun k no y h hb => @ok_bad l k no y h hb)
  have HZ : Hid (sumRs (l.take 0) = 0) := Lib.hid rfl
  generalize hnn : l.length = n at *
  have HN := Lib.hid hnn
  have HALL := Lib.hid (fun h => @ok_all l n hnn h)
  clear hnn
  go_enter Try.func43, Try.ntmps43
  go_wp2_with fail
  go_loopw [3, 8] (fun q i wr => ∃ k : Nat, k ≤ n ∧ i = .int .i64 k ∧ q = .int .i64 (200 - sumRs (l.take k)) ∧ Hid (∀ i, i < k → okRu l i = true) ∧ Below w.heap.size w wr)
    (fun _ i _ => n - (intOf i).toNat)
  case atStart => exact ⟨0, Nat.zero_le _, rfl, by rw [HZ.out]; rfl, (fun _ h => by omega), Below.refl _ _⟩
  case round =>
    obtain ⟨k, hk, rfl, rfl, HE, hb⟩ := hrel
    by_cases hlt : k < n
    · obtain ⟨b, off, rfl, hbl, hcell⟩ := hx (by omega)
      obtain ⟨⟨no, y⟩, hks⟩ := at_ltRu HN.out hlt
      have HOK := Lib.hid (@ok_at l k no y hks)
      have HSA := Lib.hid (@sum_at l k no y hks)
      have HB := Lib.hid (HBAD.out k no y hks)
      have hs := HSUM.out k hk HE.out
      have hc1 := (hb.cell (p := ⟨b, off + k * 2, none⟩) hbl).trans (hcell k _ hks).1
      have hc2 := (hb.cell (p := ⟨b, off + k * 2 + 1, none⟩) hbl).trans (hcell k _ hks).2
      simp only at hc1 hc2
      have hki : (k : Int) < (n : Int) := by omega
      have hbs := hb.size
      have hb2 := hb.alloc hbs (.cells #[.int .u8 (no.toNat : Int), .int .i64 y] 86)
      have HX := Lib.hid hcell
      clear hcell hx hks
      generalize sumRs (l.take k) = x at *
      by_cases h1 : y < 1
      · have d1 : decide (y < 1) = true := decide_eq_true h1
        have HF := Lib.hid (HB.out fun h => by omega)
        go_wp2_with fail
        go_quiet (fail)
        go_wp2_with fail
        go_ret
        exact ⟨by rw [HF.out]; rfl, TurnIn.of_below (below_drewN hb2 _)⟩
      · have d1 : decide (y < 1) = false := decide_eq_false h1
        by_cases h2 : 200 - x < y
        · have d2 : decide (200 - x < y) = true := decide_eq_true h2
          have HF := Lib.hid (HB.out fun h => by omega)
          go_wp2_with fail
          go_quiet (fail)
          go_wp2_with fail
          go_ret
          exact ⟨by rw [HF.out]; rfl, TurnIn.of_below (below_drewN hb2 _)⟩
        · have d2 : decide (200 - x < y) = false := decide_eq_false h2
          have hq : 200 - (x + y) = 200 - x - y := by omega
          by_cases hk0 : k = 0
          · subst hk0
            have d3 : decide ((0 : Int) < ((0 : Nat) : Int)) = false := by simp
            simp only [Nat.zero_mul, Nat.add_zero] at hc1 hc2
            have HE2 := Lib.hid (ok_step HE.out (HOK.out.2 ⟨by omega, by omega, fun h => absurd h (by omega)⟩))
            go_wp2_with fail
            go_quiet (fail)
            go_wp2_with fail
            go_roundw
            case rel => exact ⟨0 + 1, by omega, by go_num, by rw [HSA.out, hq], HE2, below_drewN hb2 _⟩
            case measure => simp [intOf]; omega
          · obtain ⟨j, rfl⟩ : ∃ j, k = j + 1 := ⟨k - 1, by omega⟩
            have d3 : decide ((0 : Int) < ((j + 1 : Nat) : Int)) = true := by simp
            obtain ⟨⟨pb, py⟩, hpj, hpe⟩ := at_before (l := l) (j := j) (by have := HN.out; omega)
            have HPE := Lib.hid hpe
            have hc3 := ((hb.alloc hbs (.cells #[.int .u8 (no.toNat : Int), .int .i64 y] 86)).cell (p := ⟨b, off + j * 2, none⟩) hbl).trans (HX.out j _ hpj).1
            simp only at hc3
            have HPJ := Lib.hid hpj
            clear hpj hpe
            by_cases hpb : no = pb
            · have d4 : ((no.toNat : Int) == (pb.toNat : Int)) = true := by rw [byte_eqI]; exact decide_eq_true hpb
              have HF := Lib.hid (HB.out fun h => h.2.2 (by omega) (by rw [HPE.out]; exact hpb))
              clear hpb
              go_wp2_with fail
              go_quiet (fail)
              go_wp2_with fail
              go_ret
              exact ⟨by rw [HF.out]; rfl, TurnIn.of_below (below_drewN hb2 _)⟩
            · have d4 : ((no.toNat : Int) == (pb.toNat : Int)) = false := by rw [byte_eqI]; exact decide_eq_false hpb
              have HE2 := Lib.hid (ok_step HE.out (HOK.out.2 ⟨by omega, by omega, fun h => by rw [HPE.out]; exact hpb⟩))
              clear hpb
              go_wp2_with fail
              go_quiet (fail)
              go_wp2_with fail
              go_roundw
              case rel => exact ⟨j + 1 + 1, by omega, by go_num, by rw [HSA.out, hq], HE2, below_drewN hb2 _⟩
              case measure => simp [intOf]; omega
    · obtain rfl : k = n := by omega
      have hki : ¬ (k : Int) < (k : Int) := by omega
      have HF := Lib.hid (HALL.out HE.out)
      go_wp2_with fail
      go_ret
      exact ⟨by rw [HF.out]; rfl, TurnIn.of_below hb⟩

set_option maxRecDepth 100000 in
set_option maxHeartbeats 4000000 in
theorem sGoodRuns_own (v : Value) (l : List Ru) (w : World) (hv : SeenRu w v l) : Calls Try.prog 56 #[v] w (RetBool w (goodRs l)) := by
  obtain ⟨A, c, rfl, hlc, hcm, hx⟩ := hv
  unfold maxLen at hcm
  have HSUM := Lib.hid (fun k h1 h2 => @okTake_sum l k h1 h2)
  have HBAD := Lib.hid (fun k no y h hb => @ok_bad l k no y h hb)
  have HZ : Hid (sumRs (l.take 0) = 0) := Lib.hid rfl
  generalize hnn : l.length = n at *
  have HN := Lib.hid hnn
  have HALL := Lib.hid (fun h => @ok_all l n hnn h)
  clear hnn
  go_enter Try.func56, Try.ntmps56
  go_wp2_with fail
  go_loopw [3, 8] (fun q i wr => ∃ k : Nat, k ≤ n ∧ i = .int .i64 k ∧ q = .int .i64 (sumRs (l.take k)) ∧ Hid (∀ i, i < k → okRu l i = true) ∧ Below w.heap.size w wr)
    (fun _ i _ => n - (intOf i).toNat)
  case atStart => exact ⟨0, Nat.zero_le _, rfl, by rw [HZ.out], (fun _ h => by omega), Below.refl _ _⟩
  case round =>
    obtain ⟨k, hk, rfl, rfl, HE, hb⟩ := hrel
    by_cases hlt : k < n
    · obtain ⟨b, off, rfl, hbl, hcell⟩ := hx (by omega)
      obtain ⟨⟨no, y⟩, hks⟩ := at_ltRu HN.out hlt
      have HOK := Lib.hid (@ok_at l k no y hks)
      have HSA := Lib.hid (@sum_at l k no y hks)
      have HB := Lib.hid (HBAD.out k no y hks)
      have hs := HSUM.out k hk HE.out
      have hc1 := (hb.cell (p := ⟨b, off + k * 2, none⟩) hbl).trans (hcell k _ hks).1
      have hc2 := (hb.cell (p := ⟨b, off + k * 2 + 1, none⟩) hbl).trans (hcell k _ hks).2
      simp only at hc1 hc2
      have hki : (k : Int) < (n : Int) := by omega
      have hbs := hb.size
      have hb2 := hb.alloc hbs (.cells #[.int .u8 (no.toNat : Int), .int .i64 y] 86)
      have HX := Lib.hid hcell
      clear hcell hx hks
      generalize sumRs (l.take k) = x at *
      by_cases h1 : inB y 1 200 = true
      · have hy := inB_iff h1
        have HI : Hid (∀ W, Calls Try.prog 69 #[.int .i64 y, .int .i64 1, .int .i64 200] W fun e w' => e = .returned (.bool true) ∧ W = w') := Lib.hid (fun W => h1 ▸ l1In_any y 1 200 W)
        by_cases h2 : 200 < x + y
        · have d2 : decide (200 < x + y) = true := decide_eq_true h2
          have HF := Lib.hid (HB.out fun h => by omega)
          by_cases hk0 : k = 0
          · subst hk0
            have d3 : decide ((0 : Int) < ((0 : Nat) : Int)) = false := by simp
            simp only [Nat.zero_mul, Nat.add_zero] at hc1 hc2
            go_wp2_with fail
            go_quiet ((go_at_call 69; exact quietly (HI.out _)))
            go_wp2_with fail
            go_ret
            exact ⟨by rw [HF.out]; rfl, TurnIn.of_below (below_drewN hb2 _)⟩
          · obtain ⟨j, rfl⟩ : ∃ j, k = j + 1 := ⟨k - 1, by omega⟩
            have d3 : decide ((0 : Int) < ((j + 1 : Nat) : Int)) = true := by simp
            obtain ⟨⟨pb, py⟩, hpj, hpe⟩ := at_before (l := l) (j := j) (by have := HN.out; omega)
            have hc3 := ((hb.alloc hbs (.cells #[.int .u8 (no.toNat : Int), .int .i64 y] 86)).cell (p := ⟨b, off + j * 2, none⟩) hbl).trans (HX.out j _ hpj).1
            simp only at hc3
            clear hpj hpe
            by_cases hpb : pb = no
            · have d4 : ((pb.toNat : Int) == (no.toNat : Int)) = true := by rw [byte_eqI]; exact decide_eq_true hpb
              clear hpb
              go_wp2_with fail
              go_quiet ((go_at_call 69; exact quietly (HI.out _)))
              go_wp2_with fail
              go_ret
              exact ⟨by rw [HF.out]; rfl, TurnIn.of_below (below_drewN hb2 _)⟩
            · have d4 : ((pb.toNat : Int) == (no.toNat : Int)) = false := by rw [byte_eqI]; exact decide_eq_false hpb
              clear hpb
              go_wp2_with fail
              go_quiet ((go_at_call 69; exact quietly (HI.out _)))
              go_wp2_with fail
              go_ret
              exact ⟨by rw [HF.out]; rfl, TurnIn.of_below (below_drewN hb2 _)⟩
        · have d2 : decide (200 < x + y) = false := decide_eq_false h2
          by_cases hk0 : k = 0
          · subst hk0
            have d3 : decide ((0 : Int) < ((0 : Nat) : Int)) = false := by simp
            simp only [Nat.zero_mul, Nat.add_zero] at hc1 hc2
            have HE2 := Lib.hid (ok_step HE.out (HOK.out.2 ⟨by omega, by omega, fun h => absurd h (by omega)⟩))
            go_wp2_with fail
            go_quiet ((go_at_call 69; exact quietly (HI.out _)))
            go_wp2_with fail
            go_roundw
            case rel => exact ⟨0 + 1, by omega, by go_num, by rw [HSA.out], HE2, below_drewN hb2 _⟩
            case measure => simp [intOf]; omega
          · obtain ⟨j, rfl⟩ : ∃ j, k = j + 1 := ⟨k - 1, by omega⟩
            have d3 : decide ((0 : Int) < ((j + 1 : Nat) : Int)) = true := by simp
            obtain ⟨⟨pb, py⟩, hpj, hpe⟩ := at_before (l := l) (j := j) (by have := HN.out; omega)
            have HPE := Lib.hid hpe
            have hc3 := ((hb.alloc hbs (.cells #[.int .u8 (no.toNat : Int), .int .i64 y] 86)).cell (p := ⟨b, off + j * 2, none⟩) hbl).trans (HX.out j _ hpj).1
            simp only at hc3
            clear hpj hpe
            by_cases hpb : no = pb
            · have d4 : ((pb.toNat : Int) == (no.toNat : Int)) = true := by rw [byte_eqI]; exact decide_eq_true hpb.symm
              have HF := Lib.hid (HB.out fun h => h.2.2 (by omega) (by rw [HPE.out]; exact hpb))
              clear hpb
              go_wp2_with fail
              go_quiet ((go_at_call 69; exact quietly (HI.out _)))
              go_wp2_with fail
              go_ret
              exact ⟨by rw [HF.out]; rfl, TurnIn.of_below (below_drewN hb2 _)⟩
            · have d4 : ((pb.toNat : Int) == (no.toNat : Int)) = false := by rw [byte_eqI]; exact decide_eq_false fun e => hpb e.symm
              have HE2 := Lib.hid (ok_step HE.out (HOK.out.2 ⟨by omega, by omega, fun h => by rw [HPE.out]; exact hpb⟩))
              clear hpb
              go_wp2_with fail
              go_quiet ((go_at_call 69; exact quietly (HI.out _)))
              go_wp2_with fail
              go_roundw
              case rel => exact ⟨j + 1 + 1, by omega, by go_num, by rw [HSA.out], HE2, below_drewN hb2 _⟩
              case measure => simp [intOf]; omega
      · have h1 : inB y 1 200 = false := by simpa using h1
        have hy := inB_not h1
        have HI : Hid (∀ W, Calls Try.prog 69 #[.int .i64 y, .int .i64 1, .int .i64 200] W fun e w' => e = .returned (.bool false) ∧ W = w') := Lib.hid (fun W => h1 ▸ l1In_any y 1 200 W)
        have HF := Lib.hid (HB.out fun h => by omega)
        go_wp2_with fail
        go_quiet ((go_at_call 69; exact quietly (HI.out _)))
        go_wp2_with fail
        go_ret
        exact ⟨by rw [HF.out]; rfl, TurnIn.of_below (below_drewN hb2 _)⟩
    · obtain rfl : k = n := by omega
      have hki : ¬ (k : Int) < (k : Int) := by omega
      have HF := Lib.hid (HALL.out HE.out)
      go_wp2_with fail
      go_ret
      exact ⟨by rw [HF.out]; rfl, TurnIn.of_below hb⟩

end Go.Proofs.Ytdbgkpmdimapdaa
