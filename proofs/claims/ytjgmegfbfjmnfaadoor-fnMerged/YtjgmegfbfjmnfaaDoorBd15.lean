/- Joined texts: ParMat, PlusT, StrpMath, Concat, Strp1, Strp2, Meth. -/
import Derived.Test.YtjgmegfbfjmnfaaDoorBd13
import Derived.Test.YtjgmegfbfjmnfaaDoorBd14
import Derived.Test.YtjgmegfbfjmnfaaDoorBd04
import Derived.Test.YtjgmegfbfjmnfaaDoorBd11
import Derived.Deep.RegionHeld3
import Derived.Test.YtjgmegfbfjmnfaaDoorBd06
import Derived.Test.YtjgmegfbfjmnfaaDoorBd05
import Derived.Test.YtjgmegfbfjmnfaaDoorBd02
import Derived.Lib.AppendZeros
import Derived.Test.YtjgmegfbfjmnfaaDoorBd07
import Derived.Deep.QuietTactic
import Derived.BigQuiet
set_option linter.unusedSimpArgs false
set_option linter.unusedVariables false
/- The matrix of the parities: the program's and the model's. -/
namespace G294
open Go Go.RowKit
def prmF (i j : Nat) : UInt8 := powB (powB 3 i) j
def par4 (m : Int) : Bool := decide (1 ≤ m ∧ m ≤ 4)
def prmOk (k m : Int) : Bool := goodI k && par4 m
def prmR (k m : Int) : Mat := if prmOk k m = true then mkM m.toNat k.toNat prmF else []
theorem prmR_siz (k m : Int) : sizM (prmR k m) ≤ 256 := by
  unfold prmR; split
  · rename_i h
    simp only [prmOk, goodI, par4, Bool.and_eq_true, decide_eq_true_eq] at h
    exact sizM_side _ (by omega) (by omega)
  · simp [sizM]
end G294
namespace Go.Proofs.YtjgmegfbfjmnfaaDoor
open Go.RowKit G294

set_option maxHeartbeats 1000000 in
theorem goodStripeParity_any (n : Int) (w : World) : Calls Tryd.prog 50 #[.int .i64 n] w fun e w' => e = .returned (.bool (par4 n)) ∧ w = w' := by
  by_cases h1 : 1 ≤ n
  · by_cases h2 : n ≤ 4
    · have H3 : Hid (par4 n = true) := Lib.hid (by simp [par4, h1, h2])
      go_enter Tryd.func50, Tryd.ntmps50
      go_wp2_with fail
      go_ret
      exact ⟨by rw [H3.out]; rfl, rfl⟩
    · have H3 : Hid (par4 n = false) := Lib.hid (by simp [par4, h2])
      go_enter Tryd.func50, Tryd.ntmps50
      go_wp2_with fail
      go_ret
      exact ⟨by rw [H3.out]; rfl, rfl⟩
  · have H3 : Hid (par4 n = false) := Lib.hid (by simp [par4, h1])
    go_enter Tryd.func50, Tryd.ntmps50
    go_wp2_with fail
    go_ret
    exact ⟨by rw [H3.out]; rfl, rfl⟩

theorem l1In_four (n : Int) (w : World) : Calls Tryd.prog 57 #[.int .i64 n, .int .i64 1, .int .i64 4] w fun e w' => e = .returned (.bool (par4 n)) ∧ w = w' := l1In_any n 1 4 w

set_option maxHeartbeats 1000000 in
theorem parityFactor_any (i j : Nat) (w : World) (hi : i ≤ 1000) (hj : j ≤ 1000) (ht : Tab w) : Calls Tryd.prog 56 #[.int .i64 i, .int .i64 j] w fun e w' => e = .returned (.int .u8 ((prmF i j).toNat : Int)) ∧ w = w' := by
  have HP1 : Hid (Calls Tryd.prog 90 #[.int .u8 3, .int .i64 i] w fun e w' => e = .returned (.int .u8 ((powB 3 i).toNat : Int)) ∧ w = w') := Lib.hid (powerOf_u8 3 i hi w ht)
  have HP2 := Lib.hid (powerOf_u8 (powB 3 i) j hj w ht)
  clear ht
  go_enter Tryd.func56, Tryd.ntmps56
  go_wp2_with fail
  refine HP1.out.mono ?_
  rintro e w' ⟨rfl, rfl⟩
  go_wp2_with fail
  refine HP2.out.mono ?_
  rintro e w' ⟨rfl, rfl⟩
  go_wp2_with fail
  go_ret
  exact ⟨rfl, rfl⟩

theorem prmAt (r c : Nat) (w : World) (hr : r ≤ 16) (hc : c ≤ 16) (ht : Tab w) (h0 : 0 < w.heap.size) :
    GivesAt Tryd.prog 56 #[] r c prmF w := by
  intro W i j hb hi hj
  refine (parityFactor_any i j W (by omega) (by omega) (ht.below hb h0)).mono ?_
  rintro e w' ⟨rfl, rfl⟩
  exact ⟨rfl, 0, rfl⟩

set_option maxRecDepth 100000 in
set_option maxHeartbeats 1000000 in
theorem parityMatrix_own (n m : Int) (w : World) (ht : Tab w) (h0 : 0 < w.heap.size) :
    Calls Tryd.prog 16 #[.int .i64 n, .int .i64 m] w (RetMatOk 5 22 w (prmR n m) (prmOk n m)) := by
  have hb1 : Below w.heap.size w (w.alloc (.cells #[.slice none 0 0] 39)) := (Below.refl _ _).alloc (Nat.le_refl _) _
  have HT := Lib.hid (ht.below hb1 h0)
  have HOdef : Hid (prmOk n m = (goodI n && par4 m)) := rfl
  clear ht
  by_cases h : goodI n = true
  · have H1 := Lib.hid h
    by_cases h' : par4 m = true
    · have H2 := Lib.hid h'
      have HO : Hid (prmOk n m = true) := by show prmOk n m = true; rw [HOdef.out, h, h']; rfl
      have b1 : 1 ≤ n ∧ n ≤ 16 := by simpa [goodI] using h
      have b2 : 1 ≤ m ∧ m ≤ 4 := by simpa [par4] using h'
      obtain ⟨c, rfl⟩ := Int.eq_ofNat_of_zero_le (show 0 ≤ n by omega)
      obtain ⟨r, rfl⟩ := Int.eq_ofNat_of_zero_le (show 0 ≤ m by omega)
      have HR : Hid (prmR c r = mkM r c prmF) := by show prmR c r = _; unfold prmR; rw [if_pos HO.out]; simp
      have eg := enters_of Tryd.func56 (by kernel_rfl) rfl
      have HG := Lib.hid (prmAt r c _ (by omega) (by omega) HT.out (by simp <;> omega))
      clear h h'
      go_enter Tryd.func16, Tryd.ntmps16
      go_wp2_with fail
      refine (goodSide_any _ _).mono ?_
      rintro e w' ⟨rfl, rfl⟩
      rw [H1.out]
      go_wp2_with fail
      refine (goodStripeParity_any _ _).mono ?_
      rintro e w' ⟨rfl, rfl⟩
      rw [H2.out]
      go_wp2_with fail
      refine (newGridB r c _ _ _ _ eg HG.out (by omega) (by omega)).mono ?_
      rintro e w' ⟨v', vs', rfl, hM, ht⟩
      obtain ⟨A', n', c', rfl⟩ := hM.isSlice
      have hq := cell_turn ht (B := w.heap.size) (o := 0) (x := .slice none 0 0) (by simp) (by simp)
      have hqf := frozen_turn ht (B := w.heap.size) (o := 0) (x := false) (by simp) (by simp)
      have HF := Lib.hid (ret_store hb1 hM ht w.heap.size 0 (Nat.le_refl _) (by simp) (.slice A' n' c'))
      clear hM ht hb1
      go_wp2_with fail
      refine bodyPost_ret (v := .tuple #[.agg #[.slice A' n' c'], .bool true]) (by simp [results, Tryd.results16, go_sem, hq]) rfl ?_
      exact ⟨.slice A' n' c', vs', by rw [HO.out], by rw [HR.out]; exact HF.out.1, HF.out.2⟩
    · have H2 : Hid (par4 m = false) := by show par4 m = false; simpa using h'
      have HO : Hid (prmOk n m = false) := by show prmOk n m = false; rw [HOdef.out, H2.out]; simp
      have HR : Hid (prmR n m = []) := if_neg (by rw [HO.out]; simp)
      clear h h'
      go_enter Tryd.func16, Tryd.ntmps16
      go_wp2_with fail
      refine (goodSide_any _ _).mono ?_
      rintro e w' ⟨rfl, rfl⟩
      rw [H1.out]
      go_wp2_with fail
      refine (goodStripeParity_any _ _).mono ?_
      rintro e w' ⟨rfl, rfl⟩
      rw [H2.out]
      go_wp2_with fail
      refine bodyPost_ret (v := .tuple #[.agg #[.slice none 0 0], .bool false]) (by simp [results, Tryd.results16, go_sem]) rfl ?_
      exact ⟨_, [], by rw [HO.out], by rw [HR.out]; exact OwnM.nil _ _ _ _, TurnIn.of_below hb1⟩
  · have H1 : Hid (goodI n = false) := by show goodI n = false; simpa using h
    have HO : Hid (prmOk n m = false) := by show prmOk n m = false; rw [HOdef.out, H1.out]; simp
    have HR : Hid (prmR n m = []) := if_neg (by rw [HO.out]; simp)
    clear h
    go_enter Tryd.func16, Tryd.ntmps16
    go_wp2_with fail
    refine (goodSide_any _ _).mono ?_
    rintro e w' ⟨rfl, rfl⟩
    rw [H1.out]
    go_wp2_with fail
    refine bodyPost_ret (v := .tuple #[.agg #[.slice none 0 0], .bool false]) (by simp [results, Tryd.results16, go_sem]) rfl ?_
    exact ⟨_, [], by rw [HO.out], by rw [HR.out]; exact OwnM.nil _ _ _ _, TurnIn.of_below hb1⟩

set_option maxRecDepth 100000 in
set_option maxHeartbeats 2000000 in
theorem l6Matrix_own (r c : Nat) (w : World) (h1 : 1 ≤ r) (h2 : 1 ≤ c) (hr : r ≤ 16) (hc : c ≤ 16) : Calls Tryd.prog 48 #[.int .i64 c, .int .i64 r] w (RetMat 5 22 w (mkM r c prmF)) := by
  have hb0 : Below w.heap.size w (w.alloc (.cells #[.slice none 0 0] 39)) := (Below.refl _ _).alloc (Nat.le_refl _) _
  go_enter Tryd.func48, Tryd.ntmps48
  go_wp2_with fail
  refine (l2Blank_own r c _ (by omega) (by omega)).mono ?_
  rintro e w1 ⟨v, vs, rfl, hM, ht⟩
  obtain ⟨g, cp, rfl, hg1, hg2, hg3, hg4⟩ := hM.sliceF h1
  have hc0 := cell_turn ht (B := w.heap.size) (o := 0) (x := .slice none 0 0) (by simp) (by simp)
  have hf0 := frozen_turn ht (B := w.heap.size) (o := 0) (x := false) (by simp) (by simp)
  have hb1 := ht.base hb0 (by simp) (by omega)
  have hs1 := ht.size
  rw [World.size_alloc] at hs1 hM hg1
  have hF := Fill.start (t := 39) rfl (hM.congr (L' := mkM r c fun i j => if i < 0 then prmF i j else 0) (mkM_congr fun i j _ _ => by simp)) hc0 hf0 hb1 hs1
  have HF0 := Lib.hid hF
  clear hM ht hb0 hb1 hc0 hf0 hF
  unfold maxLen at hg4
  have hcB : (w1.alloc (.cells #[.slice (some ⟨g, 0, none⟩) r cp] 39)).cell? ⟨w1.heap.size, 0, none⟩ = some (.slice (some ⟨g, 0, none⟩) r cp) := by simp
  go_wp2_with fail
  generalize w1.alloc (.cells #[.slice (some ⟨g, 0, none⟩) r cp] 39) = w2 at *
  generalize w1.heap.size = B at *
  go_loopw [14] (fun i wr => ∃ k : Nat, k ≤ r ∧ i = .int .i64 k ∧ Hid (Fill 5 22 w wr B (.slice (some ⟨g, 0, none⟩) r cp) (mkM r c fun i j => if i < k then prmF i j else 0) vs))
    (fun i _ => r - (intOf i).toNat)
  case atStart => exact ⟨0, Nat.zero_le _, rfl, HF0.out⟩
  case round =>
    obtain ⟨k, hk, rfl, HF⟩ := hrel
    have hvar := HF.out.var
    clear hcB
    by_cases hlt : k < r
    · have hki : (k : Int) < (r : Int) := by omega
      obtain ⟨bb, cp2, hu, e1, e2, e3, e4, e5, hfz, hcell⟩ := HF.out.own.rowF k hlt (by omega)
      have hco := HF.out.own.cellAt hu
      have HU := Lib.hid hu
      have HF1 := Lib.hid (HF.out.congr (L' := mkM r c fun i j => if i < k ∨ (i = k ∧ j < 0) then prmF i j else 0) (mkM_congr fun i j _ _ => by simp))
      unfold maxLen at e5
      clear hcell hfz hu e3
      go_wp2_with fail
      go_loopw [23] (fun i wq => ∃ m : Nat, m ≤ c ∧ i = .int .i64 m ∧ Hid (Fill 5 22 w wq B (.slice (some ⟨g, 0, none⟩) r cp) (mkM r c fun i j => if i < k ∨ (i = k ∧ j < m) then prmF i j else 0) vs))
        (fun i _ => c - (intOf i).toNat)
      case atStart => exact ⟨0, Nat.zero_le _, rfl, HF1.out⟩
      case round =>
        obtain ⟨m, hm, rfl, HF⟩ := hrel
        have hvar := HF.out.var
        clear hco hvar
        by_cases hlm : m < c
        · have hmi : (m : Int) < (c : Int) := by omega
          have hk0 : (0 : Int) ≤ (k : Int) := Int.natCast_nonneg _
          have hm0 : (0 : Int) ≤ (m : Int) := Int.natCast_nonneg _
          have hvar := HF.out.var
          have hco := HF.out.own.cellAt HU.out
          obtain ⟨bb', cp2', hu', e1', e2', e3', e4', e5', hfz, hcell⟩ := HF.out.own.rowF k hlt (by omega)
          obtain ⟨rfl, rfl⟩ : bb = bb' ∧ cp2 = cp2' := by simpa using HU.out.symm.trans hu'
          have hcx := hcell m hlm
          have hfr := hfz m
          have hlo := HF.out.lo
          have n1 : B ≠ bb := by omega
          have n1' : bb ≠ B := by omega
          have n2 : g ≠ bb := fun e => e3' (by rw [e]; rfl)
          have n2' : bb ≠ g := fun e => n2 e.symm
          have HF2 := Lib.hid (fun q => ((HF.out.drewN q).storeF (j := m) (x := prmF k m) hlt HU.out).congr (L' := mkM r c fun i j => if i < k ∨ (i = k ∧ j < m + 1) then prmF i j else 0) (mkM_congr fun i j _ _ => by
            by_cases a1 : i = k
            · subst a1
              by_cases a2 : j = m
              · subst a2; simp
              · by_cases a3 : j < m
                · simp [a2, a3]; omega
                · simp [a2, a3]; omega
            · simp [a1]))
          have HPP : Hid (∀ W, Calls Tryd.prog 41 #[.int .u8 3, .int .i64 k] W fun e w' => e = .returned (.int .u8 ((powB 3 k).toNat : Int)) ∧ W = w') := Lib.hid (fun W => l1Power_u8 3 k (by omega) W)
          have HPQ : Hid (∀ W, Calls Tryd.prog 41 #[.int .u8 ((powB 3 k).toNat : Int), .int .i64 m] W fun e w' => e = .returned (.int .u8 ((prmF k m).toNat : Int)) ∧ W = w') := Lib.hid (fun W => l1Power_u8 (powB 3 k) m (by omega) W)
          clear hcell hfz hu' e3' e5'
          go_wp2_with fail
          go_region_held3 (fun w' => w'.cell? ⟨B, 0, none⟩ = some (.slice (some ⟨g, 0, none⟩) r cp) ∧ w'.cell? ⟨g, k, none⟩ = some (.slice (some ⟨bb, 0, none⟩) c cp2))
            (first | go_keep)
            ((go_at_call 41; (first | (with_reducible refine (HPP.out _).mono ?_; rintro e w' ⟨rfl, rfl⟩) | (with_reducible refine (HPQ.out _).mono ?_; rintro e w' ⟨rfl, rfl⟩))))
          go_wp2_with fail
          go_roundw
          case rel => exact ⟨m + 1, by omega, by go_num, HF2.out 1⟩
          case measure => simp [intOf]; omega
        · obtain rfl : m = c := by omega
          have hmi : ¬ (m : Int) < (m : Int) := by omega
          go_wp2_with fail
          go_roundw
          case rel => exact ⟨k + 1, by omega, by go_num, HF.out.congr (mkM_congr fun i j _ hj => by
            by_cases a1 : i < k
            · simp [a1]; omega
            · by_cases a2 : i = k
              · subst a2; simp [hj]
              · simp [a1, a2]; omega)⟩
          case measure => simp [intOf]; omega
    · obtain rfl : k = r := by omega
      have hki : ¬ (k : Int) < (k : Int) := by omega
      have hc0 := HF.out.res
      have hf0 := HF.out.resf
      go_wp2_with fail
      refine bodyPost_ret (v := .agg #[.slice (some ⟨g, 0, none⟩) k cp]) (by simp [results, Tryd.results48, go_sem, hc0]) rfl ?_
      exact (HF.out.congr (L' := mkM k c prmF) (mkM_congr fun i j hi _ => by simp [hi])).finish

set_option maxRecDepth 100000 in
set_option maxHeartbeats 1000000 in
theorem sParityMatrix_own (n m : Int) (w : World) : Calls Tryd.prog 17 #[.int .i64 n, .int .i64 m] w (RetMatOk 5 22 w (prmR n m) (prmOk n m)) := by
  have hb1 : Below w.heap.size w (w.alloc (.cells #[.slice none 0 0] 39)) := (Below.refl _ _).alloc (Nat.le_refl _) _
  have HOdef : Hid (prmOk n m = (goodI n && par4 m)) := rfl
  by_cases h : goodI n = true
  · have H1 := Lib.hid h
    by_cases h' : par4 m = true
    · have H2 := Lib.hid h'
      have HO : Hid (prmOk n m = true) := by show prmOk n m = true; rw [HOdef.out, h, h']; rfl
      have b1 : 1 ≤ n ∧ n ≤ 16 := by simpa [goodI] using h
      have b2 : 1 ≤ m ∧ m ≤ 4 := by simpa [par4] using h'
      obtain ⟨c, rfl⟩ := Int.eq_ofNat_of_zero_le (show 0 ≤ n by omega)
      obtain ⟨r, rfl⟩ := Int.eq_ofNat_of_zero_le (show 0 ≤ m by omega)
      have HR : Hid (prmR c r = mkM r c prmF) := by show prmR c r = _; unfold prmR; rw [if_pos HO.out]; simp
      clear h h'
      go_enter Tryd.func17, Tryd.ntmps17
      go_wp2_with fail
      refine (l1In_side _ _).mono ?_
      rintro e w' ⟨rfl, rfl⟩
      rw [H1.out]
      go_wp2_with fail
      refine (l1In_four _ _).mono ?_
      rintro e w' ⟨rfl, rfl⟩
      rw [H2.out]
      go_wp2_with fail
      refine (l6Matrix_own r c _ (by omega) (by omega) (by omega) (by omega)).mono ?_
      rintro e w' ⟨v', vs', rfl, hM, ht⟩
      obtain ⟨A', n', c', rfl⟩ := hM.isSlice
      have hq := cell_turn ht (B := w.heap.size) (o := 0) (x := .slice none 0 0) (by simp) (by simp)
      have hqf := frozen_turn ht (B := w.heap.size) (o := 0) (x := false) (by simp) (by simp)
      have HF := Lib.hid (ret_store hb1 hM ht w.heap.size 0 (Nat.le_refl _) (by simp) (.slice A' n' c'))
      clear hM ht hb1
      go_wp2_with fail
      refine bodyPost_ret (v := .tuple #[.agg #[.slice A' n' c'], .bool true]) (by simp [results, Tryd.results17, go_sem, hq]) rfl ?_
      exact ⟨.slice A' n' c', vs', by rw [HO.out], by rw [HR.out]; exact HF.out.1, HF.out.2⟩
    · have H2 : Hid (par4 m = false) := by show par4 m = false; simpa using h'
      have HO : Hid (prmOk n m = false) := by show prmOk n m = false; rw [HOdef.out, H2.out]; simp
      have HR : Hid (prmR n m = []) := if_neg (by rw [HO.out]; simp)
      clear h h'
      go_enter Tryd.func17, Tryd.ntmps17
      go_wp2_with fail
      refine (l1In_side _ _).mono ?_
      rintro e w' ⟨rfl, rfl⟩
      rw [H1.out]
      go_wp2_with fail
      refine (l1In_four _ _).mono ?_
      rintro e w' ⟨rfl, rfl⟩
      rw [H2.out]
      go_wp2_with fail
      refine bodyPost_ret (v := .tuple #[.agg #[.slice none 0 0], .bool false]) (by simp [results, Tryd.results17, go_sem]) rfl ?_
      exact ⟨_, [], by rw [HO.out], by rw [HR.out]; exact OwnM.nil _ _ _ _, TurnIn.of_below hb1⟩
  · have H1 : Hid (goodI n = false) := by show goodI n = false; simpa using h
    have HO : Hid (prmOk n m = false) := by show prmOk n m = false; rw [HOdef.out, H1.out]; simp
    have HR : Hid (prmR n m = []) := if_neg (by rw [HO.out]; simp)
    clear h
    go_enter Tryd.func17, Tryd.ntmps17
    go_wp2_with fail
    refine (l1In_side _ _).mono ?_
    rintro e w' ⟨rfl, rfl⟩
    rw [H1.out]
    go_wp2_with fail
    refine bodyPost_ret (v := .tuple #[.agg #[.slice none 0 0], .bool false]) (by simp [results, Tryd.results17, go_sem]) rfl ?_
    exact ⟨_, [], by rw [HO.out], by rw [HR.out]; exact OwnM.nil _ _ _ _, TurnIn.of_below hb1⟩

end Go.Proofs.YtjgmegfbfjmnfaaDoor

/- plusTimes, and the methods that make the texts of a product, a sum, a merge and a change. -/
namespace G294
open Go Go.RowKit
/-- a text plus a multiple of an equally long one -/
def plusL (a : List UInt8) (f : UInt8) (b : List UInt8) : List UInt8 := mkRow a.length fun p => a.getD p 0 ^^^ gmul f (b.getD p 0)
@[simp] theorem plusL_length (a : List UInt8) (f : UInt8) (b : List UInt8) : (plusL a f b).length = a.length := by simp [plusL]
theorem comb_plus (a b : List UInt8) (f : UInt8) : comb 2 a.length (fun j => if j = 0 then 1 else f) [a, b] = plusL a f b := by
  refine mkRow_congr fun p hp => ?_
  rw [combF_succ, combF_succ]
  show (0 ^^^ gmul 1 (a.getD p 0)) ^^^ gmul f (b.getD p 0) = _
  rw [gmul_one_left, UInt8.zero_xor]
theorem mkRow_two (f : UInt8) : mkRow 2 (fun j => if j = 0 then 1 else f) = [1, f] := by simp [mkRow, List.range_succ]
end G294
namespace Go.Proofs.YtjgmegfbfjmnfaaDoor
open Go.RowKit G294

set_option maxRecDepth 100000 in
set_option maxHeartbeats 1000000 in
theorem plusTimes_own (a b : List UInt8) (f : UInt8) (w : World) (hl : b.length = a.length) (hn : a.length ≤ 1000) (ht : Tab w) (h0 : 0 < w.heap.size) :
    Calls Tryd.prog 84 #[.string (str a), .int .u8 (f.toNat : Int), .string (str b)] w (RetStr w (plusL a f b)) := by
  have k1 : TurnIn 0 0 w ((w.alloc (.cells #[.int .u8 1, .int .u8 (f.toNat : Int)] 5)).alloc (.cells #[.string (str a), .string (str b)] 9)) := turn_trans (turn_alloc _ _) (turn_alloc _ _) (by omega)
  have z1 : ((w.alloc (.cells #[.int .u8 1, .int .u8 (f.toNat : Int)] 5)).alloc (.cells #[.string (str a), .string (str b)] 9)).heap.size = w.heap.size + 2 := by simp
  have ka := turn_alloc (w.alloc (.cells #[.int .u8 1, .int .u8 (f.toNat : Int)] 5)) (.cells #[.string (str a), .string (str b)] 9)
  have r0 := cell_turn ka (alloc_duo0 w (.int .u8 1) (.int .u8 (f.toNat : Int)) 5) (alloc_lt _ _)
  have r1 := cell_turn ka (alloc_duo1 w (.int .u8 1) (.int .u8 (f.toNat : Int)) 5) (alloc_lt _ _)
  have s0 := alloc_duo0 (w.alloc (.cells #[.int .u8 1, .int .u8 (f.toNat : Int)] 5)) (.string (str a)) (.string (str b)) 9
  have s1 := alloc_duo1 (w.alloc (.cells #[.int .u8 1, .int .u8 (f.toNat : Int)] 5)) (.string (str a)) (.string (str b)) 9
  rw [World.size_alloc] at s0 s1
  have HR : Hid (Seen ((w.alloc (.cells #[.int .u8 1, .int .u8 (f.toNat : Int)] 5)).alloc (.cells #[.string (str a), .string (str b)] 9)) (.slice (some ⟨w.heap.size, 0, none⟩) 2 2) (bys (mkRow 2 (fun j => if j = 0 then 1 else f)))) := by
    refine Lib.hid ⟨some ⟨w.heap.size, 0, none⟩, 2, by rw [mkRow_two]; rfl, by rw [mkRow_two]; exact Nat.le_refl _, by unfold maxLen; omega, fun _ => ⟨w.heap.size, 0, rfl, by omega, fun i u hu => ?_⟩⟩
    rw [mkRow_two] at hu
    rcases i with _ | _ | i
    · simp only [bys, List.map_cons, List.getElem?_cons_zero, Option.some.injEq] at hu; rw [← hu]; exact r0
    · simp only [bys, List.map_cons, List.getElem?_cons_succ, List.getElem?_cons_zero, Option.some.injEq] at hu; rw [← hu]; exact r1
    · simp [bys] at hu
  have HS : Hid (Seen ((w.alloc (.cells #[.int .u8 1, .int .u8 (f.toNat : Int)] 5)).alloc (.cells #[.string (str a), .string (str b)] 9)) (.slice (some ⟨w.heap.size + 1, 0, none⟩) 2 2) (strs [a, b])) := by
    refine Lib.hid ⟨some ⟨w.heap.size + 1, 0, none⟩, 2, rfl, Nat.le_refl _, by unfold maxLen; omega, fun _ => ⟨w.heap.size + 1, 0, rfl, by omega, fun i u hu => ?_⟩⟩
    rcases i with _ | _ | i
    · simp only [strs, List.map_cons, List.getElem?_cons_zero, Option.some.injEq] at hu; rw [← hu]; exact s0
    · simp only [strs, List.map_cons, List.getElem?_cons_succ, List.getElem?_cons_zero, Option.some.injEq] at hu; rw [← hu]; exact s1
    · simp [strs] at hu
  have HT := Lib.hid (ht.below k1.to_below h0)
  have HK := Lib.hid k1
  have HL : Hid (∀ j, j < 2 → (([a, b] : List (List UInt8)).getD j []).length = a.length) := fun j hj => by
    rcases j with _ | _ | j
    · rfl
    · exact hl
    · omega
  have hz : w.heap.size + 2 ≤ ((w.alloc (.cells #[.int .u8 1, .int .u8 (f.toNat : Int)] 5)).alloc (.cells #[.string (str a), .string (str b)] 9)).heap.size := by omega
  have HZ := Lib.hid hz
  clear r0 r1 s0 s1 ka z1 k1 ht hz
  go_enter Tryd.func84, Tryd.ntmps84
  go_wp2_with fail
  refine (combined_own 2 a.length _ [a, b] _ _ _ HR.out HS.out rfl (by omega) (by omega) HL.out hn HT.out (by have := HZ.out; omega)).mono ?_
  rintro e w2 ⟨rfl, k⟩
  rw [comb_plus]
  go_wp2_with fail
  go_ret
  exact ⟨rfl, turn_trans HK.out k (by omega)⟩

end Go.Proofs.YtjgmegfbfjmnfaaDoor

/- Stripes: what is valid, what MakeStripe makes. -/
namespace G294
open Go Go.RowKit
def strpOk (s : Strp) : Bool := goodI s.1.length && (par4 s.2.length && textsOk (s.1 ++ s.2))
theorem goodI_b {n : Int} (h : goodI n = true) : 1 ≤ n ∧ n ≤ 16 := by simpa [goodI] using h
theorem par4_b {n : Int} (h : par4 n = true) : 1 ≤ n ∧ n ≤ 4 := by simpa [par4] using h
theorem strpOk_b {s : Strp} (h : strpOk s = true) : (1 ≤ s.1.length ∧ s.1.length ≤ 16) ∧ (1 ≤ s.2.length ∧ s.2.length ≤ 4) ∧ textsOk (s.1 ++ s.2) = true := by
  simp only [strpOk, Bool.and_eq_true] at h
  have h1 := goodI_b h.1
  have h2 := par4_b h.2.1
  exact ⟨by omega, by omega, h.2.2⟩
theorem textsOk_all {L : List (List UInt8)} : textsOk L = true ↔ ∀ t ∈ L, t.length = (L.getD 0 []).length ∧ t.length ≤ 40 := by
  simp only [textsOk, List.all_eq_true, decide_eq_true_eq]
theorem getD_head_append {A B : List (List UInt8)} (h : 1 ≤ A.length) : (A ++ B).getD 0 [] = A.getD 0 [] := by
  cases A with
  | nil => simp at h
  | cons a A => rfl
theorem strpOk_len {s : Strp} (h : strpOk s = true) : (∀ t ∈ s.1, t.length = (s.1.getD 0 []).length) ∧ (∀ t ∈ s.2, t.length = (s.1.getD 0 []).length) ∧ (s.1.getD 0 []).length ≤ 40 := by
  obtain ⟨h1, h2, h3⟩ := strpOk_b h
  rw [textsOk_all, getD_head_append h1.1] at h3
  refine ⟨fun t ht => (h3 t (List.mem_append_left _ ht)).1, fun t ht => (h3 t (List.mem_append_right _ ht)).1, ?_⟩
  have hm : s.1.getD 0 [] ∈ s.1 := by
    have : s.1.getD 0 [] = s.1[0]'(by omega) := by simp [List.getD, show 0 < s.1.length by omega]
    rw [this]; exact List.getElem_mem _
  exact (h3 _ (List.mem_append_left _ hm)).2
theorem strpOk_first {s : Strp} (h : strpOk s = true) : textsOk s.1 = true := by
  obtain ⟨h1, h2, h3⟩ := strpOk_len h
  exact textsOk_all.2 fun t ht => ⟨h1 t ht, by rw [h1 t ht]; exact h3⟩
theorem texts_same {T : List (List UInt8)} (h : textsOk T = true) : ∀ j, j < T.length → (T.getD j []).length = (T.getD 0 []).length := fun j hj => by
  have := ((textsOk_iff T).1 h j hj).1
  rw [← this]; simp [List.getD, hj]
theorem getD_mem {L : List (List UInt8)} {i : Nat} (h : i < L.length) : L.getD i [] ∈ L := by
  have : L.getD i [] = L[i] := by simp [List.getD, h]
  rw [this]; exact List.getElem_mem _
def mkOk (l : List (List UInt8)) (m : Int) : Bool := prmOk l.length m && textsOk l
def mkS (l : List (List UInt8)) (m : Nat) : Strp := (l, rowsT m l.length (l.getD 0 []).length prmF l)
def mkR (l : List (List UInt8)) (m : Int) : Strp := if mkOk l m = true then mkS l m.toNat else ([], [])
theorem mkR_no {l : List (List UInt8)} {m : Int} (h : mkOk l m = false) : mkR l m = ([], []) := if_neg (by rw [h]; simp)
theorem mkR_yes {l : List (List UInt8)} {m : Nat} (h : mkOk l m = true) : mkR l m = mkS l m := by unfold mkR; rw [if_pos h]; simp
theorem strp_make {s : Strp} (h : strpOk s = true) : mkOk s.1 s.2.length = true := by
  have h2 := strpOk_first h
  simp only [strpOk, Bool.and_eq_true] at h
  simp [mkOk, prmOk, h.1, h.2.1, h2]
/-- a stripe's parities are those of its data -/
def rightR (s : Strp) : Bool := if strpOk s = true then decide ((mkS s.1 s.2.length).2 = s.2) else false
theorem rightR_no {s : Strp} (h : strpOk s = false) : rightR s = false := if_neg (by rw [h]; simp)
theorem rightR_yes {s : Strp} (h : strpOk s = true) : rightR s = decide ((mkS s.1 s.2.length).2 = s.2) := if_pos h
theorem mkR_len (l : List (List UInt8)) (m : Int) : (mkR l m).1.length + (mkR l m).2.length ≤ 20 := by
  unfold mkR; split
  · rename_i h
    simp only [mkOk, prmOk, Bool.and_eq_true] at h
    have h1 := goodI_b h.1.1
    have h2 := par4_b h.1.2
    simp only [mkS, rowsT_length]; omega
  · simp
end G294

/- slices.Concat of two lists of texts. -/
namespace Go.Proofs.YtjgmegfbfjmnfaaDoor
open Go.RowKit G294

set_option maxRecDepth 100000 in
set_option maxHeartbeats 2000000 in
theorem growS_own (n : Nat) (w : World) (h1 : 1 ≤ n) (h2 : n ≤ 100000) : Calls Tryd.prog 83 #[.slice none 0 0, .int .i64 n] w (RetStrs 9 w []) := by
  obtain ⟨i0, hi, hz0, hz1, hz2⟩ := info_parts infoStr
  have hap := Lib.run_append_nil_zeros (P := Tryd.prog) w 23 3 23 9 i0 (.string ⟨#[]⟩) .i64 .i64 Tryd.underlying23 Tryd.underlying3 hi hz0 n (by omega) (by omega) (by omega) (by rw [hz2]; omega)
  have hcg := grownCap_ge w n 0 9
  have hcm := grownCap_le_maxLen w n 0 9 (by unfold maxLen; omega)
  generalize grownCap w n 0 9 = cp at *
  have hcsz : (Builtin.zeroCells (Value.string ⟨#[]⟩).cells n ++ Builtin.zeroCells (Value.string ⟨#[]⟩).cells (cp - n)).size = cp := by
    simp [Builtin.zeroCells, Value.cells]; omega
  generalize (Builtin.zeroCells (Value.string ⟨#[]⟩).cells n ++ Builtin.zeroCells (Value.string ⟨#[]⟩).cells (cp - n)) = cur at *
  have HCS := Lib.hid hcsz
  have HCM := Lib.hid hcm
  clear hcsz
  unfold maxLen at hcm
  have hn0 : ¬ (n : Int) < 0 := by omega
  have hn1 : (0 : Int) < (n : Int) := by omega
  go_enter Tryd.func83, Tryd.ntmps83
  go_wp2_with (at_builtin; refine Lib.wpList_append_run _ rfl _ _ _ _ rfl _ _ rfl rfl _ _ hap ?_)
  go_wp2_with fail
  go_ret
  refine ⟨_, rfl, OwnStrs.of_made ?_, TurnIn.of_below ?_⟩
  · refine ⟨by simp [strs], .inr ⟨w.heap.size, cp, cur, rfl, Nat.le_refl _, by first | exact heap_alloc_new w.drew _ | exact heap_alloc_new w _, Nat.zero_le _, HCM.out, by rw [HCS.out]; omega, by simp [strs]⟩⟩
  · exact (Below.refl _ _).drew.alloc (Nat.le_refl _) _

set_option maxRecDepth 100000 in
set_option maxHeartbeats 4000000 in
theorem concat_own (va vb : Value) (L M : List (List UInt8)) (B : Nat) (w : World) (hB : B < w.heap.size) (c0 : w.cell? ⟨B, 0, none⟩ = some va) (c1 : w.cell? ⟨B, 1, none⟩ = some vb) (ha : Seen w va (strs L)) (hb' : Seen w vb (strs M))
    (hl1 : 1 ≤ L.length) (hl2 : L.length ≤ 1000) (hm1 : 1 ≤ M.length) (hm2 : M.length ≤ 1000) :
    Calls Tryd.prog 36 #[.slice (some ⟨B, 0, none⟩) 2 2] w (RetStrs 9 w (L ++ M)) := by
  obtain ⟨A, c, rfl, hlc, hcm, hx⟩ := ha
  obtain ⟨A', c', rfl, hlc', hcm', hx'⟩ := hb'
  rw [strs_length] at hlc hx hlc' hx' c0 c1
  unfold maxLen at hcm hcm'
  obtain ⟨b, off, rfl, hbl, hcell⟩ := hx (by omega)
  obtain ⟨b', off', rfl, hbl', hcell'⟩ := hx' (by omega)
  have HC0 := Lib.hid hcell
  have HC1 := Lib.hid hcell'
  clear hcell hcell' hx hx'
  generalize hnn : L.length = n at *
  generalize hmm : M.length = m at *
  have HN : Hid ((strs L).length = n) := by show (strs L).length = n; simpa using hnn
  have HM : Hid ((strs M).length = m) := by show (strs M).length = m; simpa using hmm
  have HNM : Hid ((L ++ M).length = n + m) := by show (L ++ M).length = n + m; simp [hnn, hmm]
  have HA : Hid (strs (L ++ M) = strs L ++ strs M) := strs_append L M
  clear hnn hmm
  have hs1 : IntKind.i64.wrap ((n : Int) + (m : Int)) = ((n + m : Nat) : Int) := by rw [IntWalk.i64_in _ (by omega)]; omega
  have hs0 : IntKind.i64.wrap (0 + (n : Int)) = (n : Int) := by rw [IntWalk.i64_in _ (by omega)]; omega
  have hp0 : ¬ (n : Int) < 0 := by omega
  have hp1 : ¬ ((n + m : Nat) : Int) < 0 := by omega
  obtain ⟨s, hs⟩ : ∃ s, s = n + m := ⟨_, rfl⟩
  rw [← hs] at hs1 hp1
  have HS := Lib.hid hs
  clear hs
  go_enter Tryd.func36, Tryd.ntmps36
  go_wp2_with fail
  go_loop [3, 11] (fun z i => (i = .int .i64 0 ∧ z = .int .i64 0) ∨ (i = .int .i64 1 ∧ z = .int .i64 n) ∨ (i = .int .i64 2 ∧ z = .int .i64 s)) (fun _ i => 2 - (intOf i).toNat)
  case atStart => exact .inl ⟨rfl, rfl⟩
  case round =>
    rcases hrel with ⟨rfl, rfl⟩ | ⟨rfl, rfl⟩ | ⟨rfl, rfl⟩
    · go_wp2_with fail
      go_round
      case rel => exact .inr (.inl ⟨by go_num, by first | rfl | go_num⟩)
      case measure => simp [intOf]
    · go_wp2_with fail
      go_round
      case rel => exact .inr (.inr ⟨by go_num, by first | rfl | go_num⟩)
      case measure => simp [intOf]
    · go_wp2_with fail
      refine (growS_own s _ (by rw [HS.out]; omega) (by rw [HS.out]; omega)).mono ?_
      rintro e w1 ⟨v1, rfl, ho1, k1⟩
      have HO1 := Lib.hid ho1.1
      have hb1 := k1.to_below
      clear ho1 k1
      go_wp2_with fail
      go_loopw [6, 27] (fun o i wr => ((i = .int .i64 0 ∧ wr.ownsRow w.heap.size 9 1 o 0 []) ∨ (i = .int .i64 1 ∧ wr.ownsRow w.heap.size 9 1 o n (strs L)) ∨ (i = .int .i64 2 ∧ wr.ownsRow w.heap.size 9 1 o (n + m) (strs L ++ strs M))) ∧ Below w.heap.size w wr) (fun _ i _ => 2 - (intOf i).toNat)
      case atStart => exact ⟨.inl ⟨rfl, HO1.out⟩, hb1⟩
      case round =>
        obtain ⟨hd, hb⟩ := hrel
        clear hb1 HO1
        have d0 := (hb.cell (p := ⟨B, 0, none⟩) hB).trans c0
        have d1 := (hb.cell (p := ⟨B, 1, none⟩) hB).trans c1
        rcases hd with ⟨rfl, hown⟩ | ⟨rfl, hown⟩ | ⟨rfl, hown⟩
        · have hys : ∀ j y, (strs L)[j]? = some y → wr.cell? ((⟨b, off, none⟩ : Addr).add j) = some y := fun j y hj => by rw [Addr.add_lit]; exact (hb.cell (p := ⟨b, off + j, none⟩) hbl).trans (HC0.out j y hj)
          have HYS := Lib.hid hys
          have HOW := Lib.hid hown
          have hsz := hb.size
          have hob : ∀ g, u6.ownBlock = some g → w.heap.size ≤ g := fun g e => (hown.lt g e).1
          have HOB := Lib.hid hob
          clear hys hob hown
          go_wp2_with (at_builtin; refine wpList_appendN rfl _ _ _ rfl w.heap.size 9 _ _ Tryd.underlying23 infoStr rfl _ 0 [] rfl HOW.out ⟨b, off, none⟩ n c (strs L) rfl HN.out HYS.out (strs_oneC _) ?c1 ?c2 ?c3 ?_)
          case c1 => omega
          case c2 => omega
          case c3 => exact hsz
          intro v2 w2 ho2 hg2 hv2
          have hb2 : Below w.heap.size w w2 := hb.grown hg2 hsz (fun g e => HOB.out g e)
          have HO2 : Hid (w2.ownsRow w.heap.size 9 1 v2 n (strs L)) := Lib.hid (by simpa using ho2)
          clear ho2 hg2
          go_wp2_with fail
          go_roundw
          case rel => exact ⟨.inr (.inl ⟨by go_num, HO2.out⟩), hb2⟩
          case measure => simp [intOf]
        · have hys : ∀ j y, (strs M)[j]? = some y → wr.cell? ((⟨b', off', none⟩ : Addr).add j) = some y := fun j y hj => by rw [Addr.add_lit]; exact (hb.cell (p := ⟨b', off' + j, none⟩) hbl').trans (HC1.out j y hj)
          have HYS := Lib.hid hys
          have HOW := Lib.hid hown
          have hsz := hb.size
          have hob : ∀ g, u6.ownBlock = some g → w.heap.size ≤ g := fun g e => (hown.lt g e).1
          have HOB := Lib.hid hob
          clear hys hob hown
          go_wp2_with (at_builtin; refine wpList_appendN rfl _ _ _ rfl w.heap.size 9 _ _ Tryd.underlying23 infoStr rfl _ n (strs L) rfl HOW.out ⟨b', off', none⟩ m c' (strs M) rfl HM.out HYS.out (strs_oneC _) ?c1 ?c2 ?c3 ?_)
          case c1 => omega
          case c2 => omega
          case c3 => exact hsz
          intro v2 w2 ho2 hg2 hv2
          have hb2 : Below w.heap.size w w2 := hb.grown hg2 hsz (fun g e => HOB.out g e)
          have HO2 := Lib.hid ho2
          clear ho2 hg2
          go_wp2_with fail
          go_roundw
          case rel => exact ⟨.inr (.inr ⟨by go_num, HO2.out⟩), hb2⟩
          case measure => simp [intOf]
        · have HOW := Lib.hid hown
          clear hown
          go_wp2_with fail
          go_ret
          refine ⟨_, rfl, OwnStrs.of_made ?_, TurnIn.of_below hb⟩
          rw [HNM.out, HA.out]; exact HOW.out

end Go.Proofs.YtjgmegfbfjmnfaaDoor

/- GoodStripe: the program's. -/
namespace Go.Proofs.YtjgmegfbfjmnfaaDoor
open Go.RowKit G294

set_option maxRecDepth 100000 in
set_option maxHeartbeats 2000000 in
theorem goodStripe_any (v u : Value) (s : Strp) (w : World) (hv : Seen w v (strs s.1)) (hu : Seen w u (strs s.2)) : Calls Tryd.prog 13 #[.agg #[v, u]] w (RetBool w (strpOk s)) := by
  obtain ⟨A, c, hvv⟩ := hv.len
  obtain ⟨B, d, huu⟩ := hu.len
  rw [strs_length] at hvv huu
  subst hvv huu
  have a1 := turn_alloc w (.cells #[.slice A s.1.length c, .slice B s.2.length d] 25)
  have l1 := alloc_lt w (.cells #[.slice A s.1.length c, .slice B s.2.length d] 25)
  have c0 := alloc_duo0 w (.slice A s.1.length c) (.slice B s.2.length d) 25
  have c1 := alloc_duo1 w (.slice A s.1.length c) (.slice B s.2.length d) 25
  have HV := Lib.hid hv
  have HU := Lib.hid hu
  have HDEF : Hid (strpOk s = (goodI s.1.length && (par4 s.2.length && textsOk (s.1 ++ s.2)))) := Lib.hid rfl
  clear hv hu
  by_cases h1 : goodI s.1.length = true
  · have H1 := Lib.hid h1
    have b1 := goodI_b h1
    by_cases h2 : par4 s.2.length = true
    · have H2 := Lib.hid h2
      have b2 := par4_b h2
      have HO : Hid (strpOk s = textsOk (s.1 ++ s.2)) := Lib.hid (by rw [HDEF.out, h1, h2]; rfl)
      clear h1 h2
      have a2 := turn_alloc (w.alloc (.cells #[.slice A s.1.length c, .slice B s.2.length d] 25)) (.cells #[.slice A s.1.length c, .slice B s.2.length d] 23)
      have d0 := alloc_duo0 (w.alloc (.cells #[.slice A s.1.length c, .slice B s.2.length d] 25)) (.slice A s.1.length c) (.slice B s.2.length d) 23
      have d1 := alloc_duo1 (w.alloc (.cells #[.slice A s.1.length c, .slice B s.2.length d] 25)) (.slice A s.1.length c) (.slice B s.2.length d) 23
      have l2 := alloc_lt (w.alloc (.cells #[.slice A s.1.length c, .slice B s.2.length d] 25)) (.cells #[.slice A s.1.length c, .slice B s.2.length d] 23)
      have k2 := turn_trans a1 a2 (by omega)
      have HC := Lib.hid (concat_own _ _ s.1 s.2 _ _ l2 d0 d1 (HV.out.touch k2) (HU.out.touch k2) (by omega) (by omega) (by omega) (by omega))
      have HK := Lib.hid k2
      rw [World.size_alloc] at HC
      clear a2 d0 d1 l2 k2 b1 b2
      go_enter Tryd.func13, Tryd.ntmps13
      go_wp2_with fail
      refine (goodSide_any _ _).mono ?_
      rintro e w' ⟨rfl, rfl⟩
      rw [H1.out]
      go_wp2_with fail
      refine (goodStripeParity_any _ _).mono ?_
      rintro e w' ⟨rfl, rfl⟩
      rw [H2.out]
      go_wp2_with fail
      refine HC.out.mono ?_
      rintro e w3 ⟨x, rfl, hx, k3⟩
      have HX := Lib.hid hx.seen
      have HK3 := Lib.hid (turn_trans HK.out k3 (by omega))
      clear hx k3
      go_wp2_with fail
      refine (equallyLong_any _ _ _ HX.out).mono ?_
      rintro e w' ⟨rfl, rfl⟩
      go_wp2_with fail
      go_ret
      exact ⟨by rw [HO.out]; rfl, HK3.out⟩
    · have H2 : Hid (par4 s.2.length = false) := Lib.hid (by simpa using h2)
      have HO : Hid (strpOk s = false) := Lib.hid (by rw [HDEF.out, H2.out]; simp)
      clear h1 h2
      go_enter Tryd.func13, Tryd.ntmps13
      go_wp2_with fail
      refine (goodSide_any _ _).mono ?_
      rintro e w' ⟨rfl, rfl⟩
      rw [H1.out]
      go_wp2_with fail
      refine (goodStripeParity_any _ _).mono ?_
      rintro e w' ⟨rfl, rfl⟩
      rw [H2.out]
      go_wp2_with fail
      go_ret
      exact ⟨by rw [HO.out]; rfl, a1⟩
  · have H1 : Hid (goodI s.1.length = false) := Lib.hid (by simpa using h1)
    have HO : Hid (strpOk s = false) := Lib.hid (by rw [HDEF.out, H1.out]; simp)
    clear h1
    go_enter Tryd.func13, Tryd.ntmps13
    go_wp2_with fail
    refine (goodSide_any _ _).mono ?_
    rintro e w' ⟨rfl, rfl⟩
    rw [H1.out]
    go_wp2_with fail
    go_ret
    exact ⟨by rw [HO.out]; rfl, a1⟩

end Go.Proofs.YtjgmegfbfjmnfaaDoor

/- GoodStripe: the model's. -/
namespace G294
open Go Go.RowKit
/-- append(s, x...) of a row of one-cell elements, onto a row of the call's own, as one step of a region, guarded or not -/
theorem step_appendG {P : Program} {w : World} {ops : Array Oper} {o : Oper} {a : Act} {K : Act → World → Prop} {Q : Exit → Act → World → Prop} {E : Prop} (hw : Region.wanted o (yielded ops a.tmps) = true) (s x : Operand) (t : TypeId)
    (ho : o.op = .call { callee := .builtin .append, args := #[s, x], argTypes := #[t, t] })
    (base : Nat) (e : TypeId) (z : Value) (bytes : Nat) (ht : P.underlying t = some (.slice e)) (hinfo : (P.info? e).map (fun i => (i.zero, i.size, i.bytes)) = some (some z, 1, bytes)) (hzs : z.cells.size = 1)
    (v : Value) (n : Nat) (xs : List Value) (hs : a.eval s = v) (hown : w.ownsRow base e 1 v n xs)
    (A : Addr) (m c : Nat) (ys : List Value) (hx : a.eval x = .slice (some A) m c) (hl : ys.length = m) (hc : ∀ j y, ys[j]? = some y → w.cell? (A.add j) = some y) (h1 : ∀ y, y ∈ ys → y.oneCell' = true)
    (hn : n + m ≤ 1000000000) (hby : bytes ≤ 1000) (hbase : base ≤ w.heap.size)
    (h : ∀ v' w', w'.ownsRow base e 1 v' (n + m) (xs ++ ys) → w.grownBy w' v.ownBlock → (v'.ownBlock = v.ownBlock ∨ v'.ownBlock = some w.heap.size) → K (a.put o.dst v') w') :
    if Region.wanted o (yielded ops a.tmps) = true then Oper.wp P o a w K Q else E := by
  rw [if_pos hw]
  obtain ⟨i, hi, hz, hsz, hbs⟩ := info_parts hinfo
  obtain ⟨v', w', hrun, r1, r2, _, r4⟩ := run_append_own_at (P := P) w base t o.type e i z 1 bytes ht hi hz hsz hbs hzs (by omega) v n xs hown A m c ys (by omega) hc h1 (by unfold maxLen; omega) (by
    have : (n + m) * bytes ≤ 1000000000 * 1000 := Nat.mul_le_mul (by omega) hby
    omega) hbase
  unfold Oper.wp execOp
  simp only [ho, resolve, invoke, builtin, Sem.run_bind, Sem.run_pure, Result.andThen_ok, List.map_toArray, List.map_cons, List.map_nil, hs, hx, hrun]
  exact h v' w' r1 r2 r4
/-- the two cells of a box stand above -/
def DuoAt (w1 : World) (B : Nat) (x y : Value) (W : World) : Prop := Below w1.heap.size w1 W ∧ W.cell? ⟨B, 0, none⟩ = some x ∧ W.cell? ⟨B, 1, none⟩ = some y
theorem duo_below {w1 W : World} {B : Nat} {x y : Value} (c0 : w1.cell? ⟨B, 0, none⟩ = some x) (c1 : w1.cell? ⟨B, 1, none⟩ = some y) (hB : B < w1.heap.size) (hb : Below w1.heap.size w1 W) : DuoAt w1 B x y W :=
  ⟨hb, (hb.cell (p := ⟨B, 0, none⟩) hB).trans c0, (hb.cell (p := ⟨B, 1, none⟩) hB).trans c1⟩
theorem seen_cells {w W : World} {v : Value} {L : List (List UInt8)} (h : Seen w v (strs L)) (h1 : 1 ≤ L.length) : ∃ b off c, v = .slice (some ⟨b, off, none⟩) L.length c ∧ b < w.heap.size ∧ L.length ≤ 9223372036854775807 ∧ ∀ W, Below w.heap.size w W → ∀ j y, (strs L)[j]? = some y → W.cell? ((⟨b, off, none⟩ : Addr).add j) = some y := by
  obtain ⟨A, c, rfl, hlc, hcm, hx⟩ := h
  rw [strs_length] at hlc hx
  obtain ⟨b, off, rfl, hbl, hcell⟩ := hx (by omega)
  unfold maxLen at hcm
  refine ⟨b, off, c, by rw [strs_length], hbl, by omega, fun W hb j y hj => ?_⟩
  rw [Addr.add_lit]
  exact (hb.cell (p := ⟨b, off + j, none⟩) hbl).trans (hcell j y hj)
end G294
namespace Go.Proofs.YtjgmegfbfjmnfaaDoor
open Go.RowKit G294

set_option maxRecDepth 100000 in
set_option maxHeartbeats 4000000 in
theorem sGoodStripe_any (v u : Value) (s : Strp) (w : World) (hv : Seen w v (strs s.1)) (hu : Seen w u (strs s.2)) : Calls Tryd.prog 39 #[.agg #[v, u]] w (RetBool w (strpOk s)) := by
  have HV := Lib.hid hv
  have HU := Lib.hid hu
  obtain ⟨A, c, hvv⟩ := hv.len
  obtain ⟨B, d, huu⟩ := hu.len
  rw [strs_length] at hvv huu
  subst hvv huu
  have HDEF : Hid (strpOk s = (goodI s.1.length && (par4 s.2.length && textsOk (s.1 ++ s.2)))) := Lib.hid rfl
  clear hv hu
  by_cases h1 : goodI s.1.length = true
  · have H1 : Hid (∀ W, Calls Tryd.prog 57 #[.int .i64 (s.1.length : Int), .int .i64 1, .int .i64 16] W fun e w' => e = .returned (.bool true) ∧ W = w') := Lib.hid (fun W => h1 ▸ l1In_side _ W)
    have b1 := goodI_b h1
    by_cases h2 : par4 s.2.length = true
    · have H2 : Hid (∀ W, Calls Tryd.prog 57 #[.int .i64 (s.2.length : Int), .int .i64 1, .int .i64 4] W fun e w' => e = .returned (.bool true) ∧ W = w') := Lib.hid (fun W => h2 ▸ l1In_four _ W)
      have b2 := par4_b h2
      have HO : Hid (strpOk s = textsOk (s.1 ++ s.2)) := Lib.hid (by rw [HDEF.out, h1, h2]; rfl)
      clear h1 h2
      obtain ⟨b, off, c', hvv, hbl, hlm, hcell⟩ := seen_cells (W := w) HV.out (by omega)
      obtain ⟨b', off', d', huu, hbl', hlm', hcell'⟩ := seen_cells (W := w) HU.out (by omega)
      obtain ⟨rfl, rfl⟩ : A = some ⟨b, off, none⟩ ∧ c = c' := by simpa using hvv
      obtain ⟨rfl, rfl⟩ : B = some ⟨b', off', none⟩ ∧ d = d' := by simpa using huu
      clear hvv huu
      have HC0 := Lib.hid hcell
      have HC1 := Lib.hid hcell'
      have HL0 : Hid ((strs s.1).length = s.1.length) := Lib.hid (strs_length _)
      have HL1 : Hid ((strs s.2).length = s.2.length) := Lib.hid (strs_length _)
      have HLL : Hid ((s.1 ++ s.2).length = s.1.length + s.2.length) := Lib.hid (by simp)
      have HA : Hid (strs (s.1 ++ s.2) = strs s.1 ++ strs s.2) := Lib.hid (strs_append _ _)
      have bb1 : 1 ≤ s.1.length ∧ s.1.length ≤ 16 := by omega
      have bb2 : 1 ≤ s.2.length ∧ s.2.length ≤ 4 := by omega
      clear hcell hcell' b1 b2 HDEF HV HU
      generalize s.1.length = n at *
      generalize s.2.length = m at *
      have a1 := turn_alloc w (.cells #[.slice (some ⟨b, off, none⟩) n c, .slice (some ⟨b', off', none⟩) m d] 25)
      have l1 := alloc_lt w (.cells #[.slice (some ⟨b, off, none⟩) n c, .slice (some ⟨b', off', none⟩) m d] 25)
      have c0 := alloc_duo0 w (.slice (some ⟨b, off, none⟩) n c) (.slice (some ⟨b', off', none⟩) m d) 25
      have c1 := alloc_duo1 w (.slice (some ⟨b, off, none⟩) n c) (.slice (some ⟨b', off', none⟩) m d) 25
      go_enter Tryd.func39, Tryd.ntmps39
      go_wp2_with fail
      generalize (w.alloc (.cells #[.slice (some ⟨b, off, none⟩) n c, .slice (some ⟨b', off', none⟩) m d] 25)) = w1 at *
      have HW : Hid (∀ W, Below w1.heap.size w1 W → Below w.heap.size w W) := Lib.hid (fun W h => (TurnIn.of_below h).base a1.to_below a1.size (by omega))
      have HS : Hid (∀ W, Below w1.heap.size w1 W → DuoAt w1 w.heap.size (.slice (some ⟨b, off, none⟩) n c) (.slice (some ⟨b', off', none⟩) m d) W) := Lib.hid (fun W h => duo_below c0 c1 l1 h)
      have hS0 : Below w1.heap.size w1 w1.drew ∧ w1.drew.cell? ⟨w.heap.size, 0, none⟩ = some (.slice (some ⟨b, off, none⟩) n c) ∧ w1.drew.cell? ⟨w.heap.size, 1, none⟩ = some (.slice (some ⟨b', off', none⟩) m d) := ⟨(Below.refl _ _).drew, c0, c1⟩
      have hbA : Below w1.heap.size w1 (w1.alloc (.cells #[] 9)).drew := ((Below.refl _ _).alloc (Nat.le_refl _) _).drew
      have hSA : Below w1.heap.size w1 (w1.alloc (.cells #[] 9)).drew ∧ (w1.alloc (.cells #[] 9)).drew.cell? ⟨w.heap.size, 0, none⟩ = some (.slice (some ⟨b, off, none⟩) n c) ∧ (w1.alloc (.cells #[] 9)).drew.cell? ⟨w.heap.size, 1, none⟩ = some (.slice (some ⟨b', off', none⟩) m d) := HS.out _ hbA
      have hown0 : (w1.alloc (.cells #[] 9)).drew.ownsRow w1.heap.size 9 1 (.slice (some ⟨w1.heap.size, 0, none⟩) 0 0) 0 [] := (World.ownsRow_lit w1 #[] 0 (Nat.le_refl _) (by unfold maxLen; omega) rfl).drew
      have HYA := Lib.hid (HC0.out _ (HW.out _ hbA))
      go_region_held3 (fun W => Below w1.heap.size w1 W ∧ W.cell? ⟨w.heap.size, 0, none⟩ = some (.slice (some ⟨b, off, none⟩) n c) ∧ W.cell? ⟨w.heap.size, 1, none⟩ = some (.slice (some ⟨b', off', none⟩) m d))
        (first | exact hS0 | exact hSA | exact hS1 | exact hS2 | assumption)
        (first
          | (go_at_call 57; (first | (with_reducible refine (H1.out _).mono ?_; rintro e w' ⟨rfl, rfl⟩) | (with_reducible refine (H2.out _).mono ?_; rintro e w' ⟨rfl, rfl⟩)))
          | (refine step_appendG (by rfl) _ _ _ (by rfl) w1.heap.size 9 _ _ Tryd.underlying23 infoStr rfl _ 0 [] (by rfl) hown0 ⟨b, off, none⟩ n c (strs s.1) (by rfl) HL0.out HYA.out (strs_oneC _) (by omega) (by omega) (by simp) ?_; intro u1 w2 hown1 hg1 hv1; obtain ⟨C1, m1, d1, rfl⟩ := own_isSlice hown1; have hb2 : Below w1.heap.size w1 w2 := hbA.grown hg1 hbA.size (fun g e => by simp [Value.ownBlock] at e; omega); have hS1 := HS.out _ hb2; have HYB := Lib.hid (HC1.out _ (HW.out _ hb2)); have hs2 := hb2.size)
          | (refine step_appendG (by rfl) _ _ _ (by rfl) w1.heap.size 9 _ _ Tryd.underlying23 infoStr rfl _ (0 + n) ([] ++ strs s.1) (by rfl) hown1 ⟨b', off', none⟩ m d (strs s.2) (by rfl) HL1.out HYB.out (strs_oneC _) (by omega) (by omega) hs2 ?_; intro u2 w3 hown2 hg2 hv2; have hb3 : Below w1.heap.size w1 w3 := hb2.grown hg2 hs2 (fun g e => (hown1.lt g e).1); have hS2 := HS.out _ hb3; have HX : Hid (Seen w3 u2 (strs (s.1 ++ s.2))) := Lib.hid (Seen.of_own (by rw [HA.out]; simpa using hown2)); obtain ⟨C2, m2, d2, rfl⟩ := own_isSlice hown2)
          | (go_at_call 85; refine (l3Texts_any _ _ _ HX.out).mono ?_; rintro e w' ⟨rfl, rfl⟩))
      all_goals
        go_wp2_with fail
        go_ret
        exact ⟨by rw [HO.out]; rfl, TurnIn.of_below (HW.out _ hS2.1)⟩
    · have H2 : Hid (∀ W, Calls Tryd.prog 57 #[.int .i64 (s.2.length : Int), .int .i64 1, .int .i64 4] W fun e w' => e = .returned (.bool false) ∧ W = w') := Lib.hid (fun W => (show par4 s.2.length = false by simpa using h2) ▸ l1In_four _ W)
      have HO : Hid (strpOk s = false) := Lib.hid (by rw [HDEF.out, (show par4 s.2.length = false by simpa using h2)]; simp)
      clear h1 h2 HDEF HV HU b1
      generalize s.1.length = n at *
      generalize s.2.length = m at *
      have a1 := turn_alloc w (.cells #[.slice A n c, .slice B m d] 25)
      have c0 := alloc_duo0 w (.slice A n c) (.slice B m d) 25
      have c1 := alloc_duo1 w (.slice A n c) (.slice B m d) 25
      go_enter Tryd.func39, Tryd.ntmps39
      go_wp2_with fail
      go_quiet ((go_at_call 57; first | with_reducible exact quietly (H1.out _) | exact quietly (H2.out _)))
      go_wp2_with fail
      go_ret
      exact ⟨by rw [HO.out]; rfl, TurnIn.of_below (below_drewN a1.to_below _)⟩
  · have H1 : Hid (∀ W, Calls Tryd.prog 57 #[.int .i64 (s.1.length : Int), .int .i64 1, .int .i64 16] W fun e w' => e = .returned (.bool false) ∧ W = w') := Lib.hid (fun W => (show goodI s.1.length = false by simpa using h1) ▸ l1In_side _ W)
    have HO : Hid (strpOk s = false) := Lib.hid (by rw [HDEF.out, (show goodI s.1.length = false by simpa using h1)]; simp)
    clear h1 HDEF HV HU
    generalize s.1.length = n at *
    generalize s.2.length = m at *
    have a1 := turn_alloc w (.cells #[.slice A n c, .slice B m d] 25)
    have c0 := alloc_duo0 w (.slice A n c) (.slice B m d) 25
    have c1 := alloc_duo1 w (.slice A n c) (.slice B m d) 25
    go_enter Tryd.func39, Tryd.ntmps39
    go_wp2_with fail
    go_quiet ((go_at_call 57; exact quietly (H1.out _)))
    go_wp2_with fail
    go_ret
    exact ⟨by rw [HO.out]; rfl, TurnIn.of_below (below_drewN a1.to_below _)⟩

end Go.Proofs.YtjgmegfbfjmnfaaDoor

/- The methods that make the texts of a product, a sum, a merge and a change. -/
namespace G294
open Go Go.RowKit
theorem grew_str {P : Program} {f : FuncId} {args : Array Value} {w : World} {p : Grew w} {s : List UInt8} (h : Calls P f args p.at_ (RetStr p.at_ s)) :
    Calls P f args p.at_ fun e w'' => e = .returned (.string (str s)) ∧ ∃ q : Grew w, w'' = q.at_ :=
  h.mono fun _ w'' ⟨he, ht⟩ => ⟨he, ⟨w'', ht.base p.old p.old.size (by omega)⟩, rfl⟩
theorem grew_same {P : Program} {f : FuncId} {args : Array Value} {w : World} {p : Grew w} {v : Value} (h : Calls P f args p.at_ fun e w'' => e = .returned v ∧ p.at_ = w'') :
    Calls P f args p.at_ fun e w'' => e = .returned v ∧ ∃ q : Grew w, w'' = q.at_ :=
  h.mono fun _ w'' ⟨he, ht⟩ => ⟨he, p, ht.symm⟩
theorem seen_at {w : World} {v : Value} {L : List (List UInt8)} (h : Seen w v (strs L)) {i : Nat} (hi : i < L.length) : ∃ b off c, v = .slice (some ⟨b, off, none⟩) L.length c ∧ b < w.heap.size ∧ L.length ≤ 9223372036854775807 ∧ w.cell? ⟨b, off + i, none⟩ = some (.string (str (L.getD i []))) := by
  obtain ⟨A, c, rfl, hlc, hcm, hx⟩ := h
  rw [strs_length] at hlc hx
  obtain ⟨b, off, rfl, hbl, hcell⟩ := hx (by omega)
  unfold maxLen at hcm
  refine ⟨b, off, c, by rw [strs_length], hbl, by omega, ?_⟩
  rw [hcell i _ (strs_get L i hi)]
  simp [List.getD, hi]
theorem alloc4 (w : World) (a b c d : Value) (T : TypeId) : (w.alloc (.cells #[a, b, c, d] T)).cell? ⟨w.heap.size, 0, none⟩ = some a ∧ (w.alloc (.cells #[a, b, c, d] T)).cell? ⟨w.heap.size, 1, none⟩ = some b ∧ (w.alloc (.cells #[a, b, c, d] T)).cell? ⟨w.heap.size, 2, none⟩ = some c ∧ (w.alloc (.cells #[a, b, c, d] T)).cell? ⟨w.heap.size, 3, none⟩ = some d := by simp
end G294
namespace Go.Proofs.YtjgmegfbfjmnfaaDoor
open Go.RowKit G294

set_option maxRecDepth 100000 in
set_option maxHeartbeats 1000000 in
theorem productText_own (r c n : Nat) (F : Ents) (T : List (List UInt8)) (vm vt : Value) (i : Nat) (w : World) (hm : SeenM w vm (mkM r c F)) (htx : Seen w vt (strs T)) (hi : i < r) (hc : T.length = c) (hc1 : 1 ≤ c) (hcc : c ≤ 1000)
    (hn : ∀ j, j < c → (T.getD j []).length = n) (hn2 : n ≤ 1000) (ht : Tab w) (h0 : 0 < w.heap.size) : Calls Tryd.prog 52 #[.agg #[vm, vt], .int .i64 i] w (RetStr w (comb c n (F i) T)) := by
  obtain ⟨bb, off, cp, A, c', hvv, hrm, hbb, hrow, hcl, hsr⟩ := hm.rowF i hi
  subst hvv
  obtain ⟨A2, c2, hvv2⟩ := htx.len
  rw [strs_length, hc] at hvv2
  subst hvv2
  have a1 := turn_alloc w (.cells #[.slice (some ⟨bb, off, none⟩) r cp, .slice A2 c c2] 90)
  have l1 := alloc_lt w (.cells #[.slice (some ⟨bb, off, none⟩) r cp, .slice A2 c c2] 90)
  have e0 := grew_cell (alloc_duo0 w (.slice (some ⟨bb, off, none⟩) r cp) (.slice A2 c c2) 90) l1
  have e1 := grew_cell (alloc_duo1 w (.slice (some ⟨bb, off, none⟩) r cp) (.slice A2 c c2) 90) l1
  have er := grew_cell (cell_turn a1 hrow hbb) (Nat.lt_of_lt_of_le hbb a1.size)
  have HC := Lib.hid (fun p : Grew (w.alloc (.cells #[.slice (some ⟨bb, off, none⟩) r cp, .slice A2 c c2] 90)) => grew_str (combined_own c n (F i) T (.slice A c c') (.slice A2 c c2) p.at_ ((hsr.touch a1).below p.old) ((htx.touch a1).below p.old) hc hc1 hcc hn hn2 ((ht.below a1.to_below h0).below p.old (Nat.lt_of_lt_of_le h0 a1.size)) (Nat.lt_of_lt_of_le (Nat.lt_of_lt_of_le h0 a1.size) p.old.size)))
  have HA1 := Lib.hid a1
  have hki : (i : Int) < (r : Int) := by omega
  unfold maxLen at hrm
  clear hm htx hrow hsr ht hn l1 hc a1
  go_enter Tryd.func52, Tryd.ntmps52
  go_wp2_with fail
  refine wp_region_grew (by kernel_rfl) (by kernel_rfl) ?_
  repeat (first | go_big_quiet_skip | quiet_step ((go_at_call 63; exact HC.out _)))
  refine wpQuiet_nil ?_
  rintro _ ⟨p, rfl⟩
  go_wp2_with fail
  go_ret
  exact ⟨rfl, turn_of_below HA1.out.to_below (TurnIn.of_below p.old)⟩

set_option maxRecDepth 100000 in
set_option maxHeartbeats 1000000 in
theorem sumText_own (va vb : Value) (L M : List (List UInt8)) (i : Nat) (w : World) (ha : Seen w va (strs L)) (hb : Seen w vb (strs M)) (hi : i < L.length) (hj : i < M.length) (hl : (M.getD i []).length = (L.getD i []).length) (hn : (L.getD i []).length ≤ 1000) (ht : Tab w) (h0 : 0 < w.heap.size) :
    Calls Tryd.prog 43 #[.agg #[va, vb], .int .i64 i] w (RetStr w (plusL (L.getD i []) 1 (M.getD i []))) := by
  obtain ⟨b, off, c, rfl, hbl, hlm, hcx⟩ := seen_at ha hi
  obtain ⟨b', off', c', rfl, hbl', hlm', hcy⟩ := seen_at hb hj
  generalize L.getD i [] = x at *
  generalize M.getD i [] = y at *
  have hki : (i : Int) < (L.length : Int) := by omega
  have hkj : (i : Int) < (M.length : Int) := by omega
  generalize L.length = n at *
  generalize M.length = m at *
  have a1 := turn_alloc w (.cells #[.slice (some ⟨b, off, none⟩) n c, .slice (some ⟨b', off', none⟩) m c'] 83)
  have l1 := alloc_lt w (.cells #[.slice (some ⟨b, off, none⟩) n c, .slice (some ⟨b', off', none⟩) m c'] 83)
  have e0 := grew_cell (alloc_duo0 w (.slice (some ⟨b, off, none⟩) n c) (.slice (some ⟨b', off', none⟩) m c') 83) l1
  have e1 := grew_cell (alloc_duo1 w (.slice (some ⟨b, off, none⟩) n c) (.slice (some ⟨b', off', none⟩) m c') 83) l1
  have ex := grew_cell (cell_turn a1 hcx hbl) (Nat.lt_of_lt_of_le hbl a1.size)
  have ey := grew_cell (cell_turn a1 hcy hbl') (Nat.lt_of_lt_of_le hbl' a1.size)
  have HC : Hid (∀ p : Grew (w.alloc (.cells #[.slice (some ⟨b, off, none⟩) n c, .slice (some ⟨b', off', none⟩) m c'] 83)), Calls Tryd.prog 84 #[.string (str x), .int .u8 1, .string (str y)] p.at_ fun e w'' => e = .returned (.string (str (plusL x 1 y))) ∧ ∃ q : Grew (w.alloc (.cells #[.slice (some ⟨b, off, none⟩) n c, .slice (some ⟨b', off', none⟩) m c'] 83)), w'' = q.at_) :=
    Lib.hid (fun p => grew_str (plusTimes_own x y 1 p.at_ hl hn ((ht.below a1.to_below h0).below p.old (Nat.lt_of_lt_of_le h0 a1.size)) (Nat.lt_of_lt_of_le (Nat.lt_of_lt_of_le h0 a1.size) p.old.size)))
  have HA1 := Lib.hid a1
  clear ha hb hcx hcy ht l1
  go_enter Tryd.func43, Tryd.ntmps43
  go_wp2_with fail
  refine wp_region_grew (by kernel_rfl) (by kernel_rfl) ?_
  repeat (first | go_big_quiet_skip | quiet_step ((go_at_call 84; exact HC.out _)))
  refine wpQuiet_nil ?_
  rintro _ ⟨p, rfl⟩
  go_wp2_with fail
  go_ret
  exact ⟨rfl, turn_of_below HA1.out.to_below (TurnIn.of_below p.old)⟩

set_option maxRecDepth 100000 in
set_option maxHeartbeats 2000000 in
theorem mergeText_own (k : Nat) (va vb vc vd : Value) (D L E M : List (List UInt8)) (i : Nat) (w : World) (hd : Seen w va (strs D)) (ha : Seen w vb (strs L)) (he : Seen w vc (strs E)) (hb : Seen w vd (strs M)) (hk : D.length = k) (hk2 : k ≤ 1000) (hi : i < L.length) (hj : i < M.length) (hi2 : i ≤ 1000) (hl : (M.getD i []).length = (L.getD i []).length) (hn : (L.getD i []).length ≤ 1000) (ht : Tab w) (h0 : 0 < w.heap.size) :
    Calls Tryd.prog 38 #[.agg #[va, vb, vc, vd], .int .i64 i] w (RetStr w (plusL (L.getD i []) (prmF i k) (M.getD i []))) := by
  obtain ⟨b, off, c, rfl, hbl, hlm, hcx⟩ := seen_at ha hi
  obtain ⟨b', off', c', rfl, hbl', hlm', hcy⟩ := seen_at hb hj
  obtain ⟨A, ca, hvv⟩ := hd.len
  rw [strs_length, hk] at hvv
  subst hvv
  obtain ⟨A2, ca2, hvv⟩ := he.len
  rw [strs_length] at hvv
  subst hvv
  generalize L.getD i [] = x at *
  generalize M.getD i [] = y at *
  have hki : (i : Int) < (L.length : Int) := by omega
  have hkj : (i : Int) < (M.length : Int) := by omega
  generalize L.length = n at *
  generalize M.length = m at *
  generalize E.length = e at *
  have a1 := turn_alloc w (.cells #[.slice A k ca, .slice (some ⟨b, off, none⟩) n c, .slice A2 e ca2, .slice (some ⟨b', off', none⟩) m c'] 79)
  have l1 := alloc_lt w (.cells #[.slice A k ca, .slice (some ⟨b, off, none⟩) n c, .slice A2 e ca2, .slice (some ⟨b', off', none⟩) m c'] 79)
  obtain ⟨z0, z1, z2, z3⟩ := alloc4 w (.slice A k ca) (.slice (some ⟨b, off, none⟩) n c) (.slice A2 e ca2) (.slice (some ⟨b', off', none⟩) m c') 79
  have e0 := grew_cell z0 l1
  have e1 := grew_cell z1 l1
  have e2 := grew_cell z2 l1
  have e3 := grew_cell z3 l1
  have ex := grew_cell (cell_turn a1 hcx hbl) (Nat.lt_of_lt_of_le hbl a1.size)
  have ey := grew_cell (cell_turn a1 hcy hbl') (Nat.lt_of_lt_of_le hbl' a1.size)
  have HT1 := Lib.hid (ht.below a1.to_below h0)
  have h01 := Nat.lt_of_lt_of_le h0 a1.size
  have HA1 := Lib.hid a1
  clear ha hb hd he hcx hcy l1 z0 z1 z2 z3 a1 ht
  go_enter Tryd.func38, Tryd.ntmps38
  go_wp2_with fail
  generalize (w.alloc (.cells #[.slice A k ca, .slice (some ⟨b, off, none⟩) n c, .slice A2 e ca2, .slice (some ⟨b', off', none⟩) m c'] 79)) = w1 at *
  have HC : Hid (∀ p : Grew w1, Calls Tryd.prog 84 #[.string (str x), .int .u8 ((prmF i k).toNat : Int), .string (str y)] p.at_ fun e w'' => e = .returned (.string (str (plusL x (prmF i k) y))) ∧ ∃ q : Grew w1, w'' = q.at_) :=
    Lib.hid (fun p => grew_str (plusTimes_own x y (prmF i k) p.at_ hl hn (HT1.out.below p.old h01) (Nat.lt_of_lt_of_le h01 p.old.size)))
  have HF : Hid (∀ p : Grew w1, Calls Tryd.prog 56 #[.int .i64 i, .int .i64 k] p.at_ fun e w'' => e = .returned (.int .u8 ((prmF i k).toNat : Int)) ∧ ∃ q : Grew w1, w'' = q.at_) :=
    Lib.hid (fun p => grew_same (parityFactor_any i k p.at_ hi2 hk2 (HT1.out.below p.old h01)))
  refine wp_region_grew (by kernel_rfl) (by kernel_rfl) ?_
  repeat (first | go_big_quiet_skip | quiet_step ((first | (go_at_call 84; exact HC.out _) | (go_at_call 56; exact HF.out _))))
  refine wpQuiet_nil ?_
  rintro _ ⟨p, rfl⟩
  go_wp2_with fail
  go_ret
  exact ⟨rfl, turn_of_below HA1.out.to_below (TurnIn.of_below p.old)⟩

end Go.Proofs.YtjgmegfbfjmnfaaDoor
