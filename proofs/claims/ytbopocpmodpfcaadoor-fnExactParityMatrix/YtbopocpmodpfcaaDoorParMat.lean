/- The matrix of the parities: the program's and the model's. -/
import Derived.Test.YtbopocpmodpfcaaDoorNodeRow
import Derived.Test.YtbopocpmodpfcaaDoorSpecSides
import Derived.Test.YtbopocpmodpfcaaDoorBoxes
set_option linter.unusedSimpArgs false
set_option linter.unusedVariables false
namespace G294
open Go Go.RowKit
def prmF (i j : Nat) : UInt8 := powB (powB 3 i) j
def par4 (m : Int) : Bool := decide (1 ≤ m ∧ m ≤ 4)
def prmOk (k m : Int) : Bool := goodI k && par4 m
def prmR (k m : Int) : Mat := if prmOk k m = true then mkM m.toNat k.toNat prmF else []
theorem prmR_siz (k m : Int) : sizM (prmR k m) ≤ 256 := by
  unfold prmR; split
  · rename_i h
    simp only [prmOk, goodI, par4, Bool.and_eq_true, decide_eq_true_eq] at h
    exact sizM_side _ (by omega) (by omega)
  · simp [sizM]
end G294
namespace Go.Proofs.YtbopocpmodpfcaaDoor
open Go.RowKit G294

set_option maxHeartbeats 1000000 in
theorem goodStripeParity_any (n : Int) (w : World) : Calls Tryd.prog 66 #[.int .i64 n] w fun e w' => e = .returned (.bool (par4 n)) ∧ w = w' := by
  by_cases h1 : 1 ≤ n
  · by_cases h2 : n ≤ 4
    · have H3 : Hid (par4 n = true) := Lib.hid (by simp [par4, h1, h2])
      go_enter Tryd.func66, Tryd.ntmps66
      go_wp2_with fail
      go_ret
      exact ⟨by rw [H3.out]; rfl, rfl⟩
    · have H3 : Hid (par4 n = false) := Lib.hid (by simp [par4, h2])
      go_enter Tryd.func66, Tryd.ntmps66
      go_wp2_with fail
      go_ret
      exact ⟨by rw [H3.out]; rfl, rfl⟩
  · have H3 : Hid (par4 n = false) := Lib.hid (by simp [par4, h1])
    go_enter Tryd.func66, Tryd.ntmps66
    go_wp2_with fail
    go_ret
    exact ⟨by rw [H3.out]; rfl, rfl⟩

theorem l1In_four (n : Int) (w : World) : Calls Tryd.prog 73 #[.int .i64 n, .int .i64 1, .int .i64 4] w fun e w' => e = .returned (.bool (par4 n)) ∧ w = w' := l1In_any n 1 4 w

set_option maxHeartbeats 1000000 in
theorem parityFactor_any (i j : Nat) (w : World) (hi : i ≤ 1000) (hj : j ≤ 1000) (ht : Tab w) : Calls Tryd.prog 72 #[.int .i64 i, .int .i64 j] w fun e w' => e = .returned (.int .u8 ((prmF i j).toNat : Int)) ∧ w = w' := by
  have HP1 : Hid (Calls Tryd.prog 101 #[.int .u8 3, .int .i64 i] w fun e w' => e = .returned (.int .u8 ((powB 3 i).toNat : Int)) ∧ w = w') := Lib.hid (powerOf_u8 3 i hi w ht)
  have HP2 := Lib.hid (powerOf_u8 (powB 3 i) j hj w ht)
  clear ht
  go_enter Tryd.func72, Tryd.ntmps72
  go_wp2_with fail
  refine HP1.out.mono ?_
  rintro e w' ⟨rfl, rfl⟩
  go_wp2_with fail
  refine HP2.out.mono ?_
  rintro e w' ⟨rfl, rfl⟩
  go_wp2_with fail
  go_ret
  exact ⟨rfl, rfl⟩

theorem prmAt (r c : Nat) (w : World) (hr : r ≤ 16) (hc : c ≤ 16) (ht : Tab w) (h0 : 0 < w.heap.size) :
    GivesAt Tryd.prog 72 #[] r c prmF w := by
  intro W i j hb hi hj
  refine (parityFactor_any i j W (by omega) (by omega) (ht.below hb h0)).mono ?_
  rintro e w' ⟨rfl, rfl⟩
  exact ⟨rfl, 0, rfl⟩

set_option maxRecDepth 100000 in
set_option maxHeartbeats 1000000 in
theorem parityMatrix_own (n m : Int) (w : World) (ht : Tab w) (h0 : 0 < w.heap.size) :
    Calls Tryd.prog 23 #[.int .i64 n, .int .i64 m] w (RetMatOk 5 22 w (prmR n m) (prmOk n m)) := by
  have hb1 : Below w.heap.size w (w.alloc (.cells #[.slice none 0 0] 39)) := (Below.refl _ _).alloc (Nat.le_refl _) _
  have HT := Lib.hid (ht.below hb1 h0)
  have HOdef : Hid (prmOk n m = (goodI n && par4 m)) := rfl
  clear ht
  by_cases h : goodI n = true
  · have H1 := Lib.hid h
    by_cases h' : par4 m = true
    · have H2 := Lib.hid h'
      have HO : Hid (prmOk n m = true) := by show prmOk n m = true; rw [HOdef.out, h, h']; rfl
      have b1 : 1 ≤ n ∧ n ≤ 16 := by simpa [goodI] using h
      have b2 : 1 ≤ m ∧ m ≤ 4 := by simpa [par4] using h'
      obtain ⟨c, rfl⟩ := Int.eq_ofNat_of_zero_le (show 0 ≤ n by omega)
      obtain ⟨r, rfl⟩ := Int.eq_ofNat_of_zero_le (show 0 ≤ m by omega)
      have HR : Hid (prmR c r = mkM r c prmF) := by show prmR c r = _; unfold prmR; rw [if_pos HO.out]; simp
      have eg := enters_of Tryd.func72 (by kernel_rfl) rfl
      have HG := Lib.hid (prmAt r c _ (by omega) (by omega) HT.out (by simp <;> omega))
      clear h h'
      go_enter Tryd.func23, Tryd.ntmps23
      go_wp2_with fail
      refine (goodSide_any _ _).mono ?_
      rintro e w' ⟨rfl, rfl⟩
      rw [H1.out]
      go_wp2_with fail
      refine (goodStripeParity_any _ _).mono ?_
      rintro e w' ⟨rfl, rfl⟩
      rw [H2.out]
      go_wp2_with fail
      refine (newGridB r c _ _ _ _ eg HG.out (by omega) (by omega)).mono ?_
      rintro e w' ⟨v', vs', rfl, hM, ht⟩
      obtain ⟨A', n', c', rfl⟩ := hM.isSlice
      have hq := cell_turn ht (B := w.heap.size) (o := 0) (x := .slice none 0 0) (by simp) (by simp)
      have hqf := frozen_turn ht (B := w.heap.size) (o := 0) (x := false) (by simp) (by simp)
      have HF := Lib.hid (ret_store hb1 hM ht w.heap.size 0 (Nat.le_refl _) (by simp) (.slice A' n' c'))
      clear hM ht hb1
      go_wp2_with fail
      refine bodyPost_ret (v := .tuple #[.agg #[.slice A' n' c'], .bool true]) (by simp [results, Tryd.results23, go_sem, hq]) rfl ?_
      exact ⟨.slice A' n' c', vs', by rw [HO.out], by rw [HR.out]; exact HF.out.1, HF.out.2⟩
    · have H2 : Hid (par4 m = false) := by show par4 m = false; simpa using h'
      have HO : Hid (prmOk n m = false) := by show prmOk n m = false; rw [HOdef.out, H2.out]; simp
      have HR : Hid (prmR n m = []) := if_neg (by rw [HO.out]; simp)
      clear h h'
      go_enter Tryd.func23, Tryd.ntmps23
      go_wp2_with fail
      refine (goodSide_any _ _).mono ?_
      rintro e w' ⟨rfl, rfl⟩
      rw [H1.out]
      go_wp2_with fail
      refine (goodStripeParity_any _ _).mono ?_
      rintro e w' ⟨rfl, rfl⟩
      rw [H2.out]
      go_wp2_with fail
      refine bodyPost_ret (v := .tuple #[.agg #[.slice none 0 0], .bool false]) (by simp [results, Tryd.results23, go_sem]) rfl ?_
      exact ⟨_, [], by rw [HO.out], by rw [HR.out]; exact OwnM.nil _ _ _ _, TurnIn.of_below hb1⟩
  · have H1 : Hid (goodI n = false) := by show goodI n = false; simpa using h
    have HO : Hid (prmOk n m = false) := by show prmOk n m = false; rw [HOdef.out, H1.out]; simp
    have HR : Hid (prmR n m = []) := if_neg (by rw [HO.out]; simp)
    clear h
    go_enter Tryd.func23, Tryd.ntmps23
    go_wp2_with fail
    refine (goodSide_any _ _).mono ?_
    rintro e w' ⟨rfl, rfl⟩
    rw [H1.out]
    go_wp2_with fail
    refine bodyPost_ret (v := .tuple #[.agg #[.slice none 0 0], .bool false]) (by simp [results, Tryd.results23, go_sem]) rfl ?_
    exact ⟨_, [], by rw [HO.out], by rw [HR.out]; exact OwnM.nil _ _ _ _, TurnIn.of_below hb1⟩

set_option maxRecDepth 100000 in
set_option maxHeartbeats 2000000 in
theorem l6Matrix_own (r c : Nat) (w : World) (h1 : 1 ≤ r) (h2 : 1 ≤ c) (hr : r ≤ 16) (hc : c ≤ 16) : Calls Tryd.prog 63 #[.int .i64 c, .int .i64 r] w (RetMat 5 22 w (mkM r c prmF)) := by
  have hb0 : Below w.heap.size w (w.alloc (.cells #[.slice none 0 0] 39)) := (Below.refl _ _).alloc (Nat.le_refl _) _
  go_enter Tryd.func63, Tryd.ntmps63
  go_wp2_with fail
  refine (l2Blank_own r c _ (by omega) (by omega)).mono ?_
  rintro e w1 ⟨v, vs, rfl, hM, ht⟩
  obtain ⟨g, cp, rfl, hg1, hg2, hg3, hg4⟩ := hM.sliceF h1
  have hc0 := cell_turn ht (B := w.heap.size) (o := 0) (x := .slice none 0 0) (by simp) (by simp)
  have hf0 := frozen_turn ht (B := w.heap.size) (o := 0) (x := false) (by simp) (by simp)
  have hb1 := ht.base hb0 (by simp) (by omega)
  have hs1 := ht.size
  rw [World.size_alloc] at hs1 hM hg1
  have hF := Fill.start (t := 39) rfl (hM.congr (L' := mkM r c fun i j => if i < 0 then prmF i j else 0) (mkM_congr fun i j _ _ => by simp)) hc0 hf0 hb1 hs1
  have HF0 := Lib.hid hF
  clear hM ht hb0 hb1 hc0 hf0 hF
  unfold maxLen at hg4
  have hcB : (w1.alloc (.cells #[.slice (some ⟨g, 0, none⟩) r cp] 39)).cell? ⟨w1.heap.size, 0, none⟩ = some (.slice (some ⟨g, 0, none⟩) r cp) := by simp
  go_wp2_with fail
  generalize w1.alloc (.cells #[.slice (some ⟨g, 0, none⟩) r cp] 39) = w2 at *
  generalize w1.heap.size = B at *
  go_loopw [14] (fun i wr => ∃ k : Nat, k ≤ r ∧ i = .int .i64 k ∧ Hid (Fill 5 22 w wr B (.slice (some ⟨g, 0, none⟩) r cp) (mkM r c fun i j => if i < k then prmF i j else 0) vs))
    (fun i _ => r - (intOf i).toNat)
  case atStart => exact ⟨0, Nat.zero_le _, rfl, HF0.out⟩
  case round =>
    obtain ⟨k, hk, rfl, HF⟩ := hrel
    have hvar := HF.out.var
    clear hcB
    by_cases hlt : k < r
    · have hki : (k : Int) < (r : Int) := by omega
      obtain ⟨bb, cp2, hu, e1, e2, e3, e4, e5, hfz, hcell⟩ := HF.out.own.rowF k hlt (by omega)
      have hco := HF.out.own.cellAt hu
      have HU := Lib.hid hu
      have HF1 := Lib.hid (HF.out.congr (L' := mkM r c fun i j => if i < k ∨ (i = k ∧ j < 0) then prmF i j else 0) (mkM_congr fun i j _ _ => by simp))
      unfold maxLen at e5
      clear hcell hfz hu e3
      go_wp2_with fail
      go_loopw [23] (fun i wq => ∃ m : Nat, m ≤ c ∧ i = .int .i64 m ∧ Hid (Fill 5 22 w wq B (.slice (some ⟨g, 0, none⟩) r cp) (mkM r c fun i j => if i < k ∨ (i = k ∧ j < m) then prmF i j else 0) vs))
        (fun i _ => c - (intOf i).toNat)
      case atStart => exact ⟨0, Nat.zero_le _, rfl, HF1.out⟩
      case round =>
        obtain ⟨m, hm, rfl, HF⟩ := hrel
        have hvar := HF.out.var
        clear hco hvar
        by_cases hlm : m < c
        · have hmi : (m : Int) < (c : Int) := by omega
          have hk0 : (0 : Int) ≤ (k : Int) := Int.natCast_nonneg _
          have hm0 : (0 : Int) ≤ (m : Int) := Int.natCast_nonneg _
          have hvar := HF.out.var
          have hco := HF.out.own.cellAt HU.out
          obtain ⟨bb', cp2', hu', e1', e2', e3', e4', e5', hfz, hcell⟩ := HF.out.own.rowF k hlt (by omega)
          obtain ⟨rfl, rfl⟩ : bb = bb' ∧ cp2 = cp2' := by simpa using HU.out.symm.trans hu'
          have hcx := hcell m hlm
          have hfr := hfz m
          have hlo := HF.out.lo
          have n1 : B ≠ bb := by omega
          have n1' : bb ≠ B := by omega
          have n2 : g ≠ bb := fun e => e3' (by rw [e]; rfl)
          have n2' : bb ≠ g := fun e => n2 e.symm
          have HF2 := Lib.hid (fun q => ((HF.out.drewN q).storeF (j := m) (x := prmF k m) hlt HU.out).congr (L' := mkM r c fun i j => if i < k ∨ (i = k ∧ j < m + 1) then prmF i j else 0) (mkM_congr fun i j _ _ => by
            by_cases a1 : i = k
            · subst a1
              by_cases a2 : j = m
              · subst a2; simp
              · by_cases a3 : j < m
                · simp [a2, a3]; omega
                · simp [a2, a3]; omega
            · simp [a1]))
          have HPP : Hid (∀ W, Calls Tryd.prog 56 #[.int .u8 3, .int .i64 k] W fun e w' => e = .returned (.int .u8 ((powB 3 k).toNat : Int)) ∧ W = w') := Lib.hid (fun W => l1Power_u8 3 k (by omega) W)
          have HPQ : Hid (∀ W, Calls Tryd.prog 56 #[.int .u8 ((powB 3 k).toNat : Int), .int .i64 m] W fun e w' => e = .returned (.int .u8 ((prmF k m).toNat : Int)) ∧ W = w') := Lib.hid (fun W => l1Power_u8 (powB 3 k) m (by omega) W)
          clear hcell hfz hu' e3' e5'
          go_wp2_with fail
          go_region_held3 (fun w' => w'.cell? ⟨B, 0, none⟩ = some (.slice (some ⟨g, 0, none⟩) r cp) ∧ w'.cell? ⟨g, k, none⟩ = some (.slice (some ⟨bb, 0, none⟩) c cp2))
            (first | go_keep)
            ((go_at_call 56; (first | (with_reducible refine (HPP.out _).mono ?_; rintro e w' ⟨rfl, rfl⟩) | (with_reducible refine (HPQ.out _).mono ?_; rintro e w' ⟨rfl, rfl⟩))))
          go_wp2_with fail
          go_roundw
          case rel => exact ⟨m + 1, by omega, by go_num, HF2.out 1⟩
          case measure => simp [intOf]; omega
        · obtain rfl : m = c := by omega
          have hmi : ¬ (m : Int) < (m : Int) := by omega
          go_wp2_with fail
          go_roundw
          case rel => exact ⟨k + 1, by omega, by go_num, HF.out.congr (mkM_congr fun i j _ hj => by
            by_cases a1 : i < k
            · simp [a1]; omega
            · by_cases a2 : i = k
              · subst a2; simp [hj]
              · simp [a1, a2]; omega)⟩
          case measure => simp [intOf]; omega
    · obtain rfl : k = r := by omega
      have hki : ¬ (k : Int) < (k : Int) := by omega
      have hc0 := HF.out.res
      have hf0 := HF.out.resf
      go_wp2_with fail
      refine bodyPost_ret (v := .agg #[.slice (some ⟨g, 0, none⟩) k cp]) (by simp [results, Tryd.results63, go_sem, hc0]) rfl ?_
      exact (HF.out.congr (L' := mkM k c prmF) (mkM_congr fun i j hi _ => by simp [hi])).finish

set_option maxRecDepth 100000 in
set_option maxHeartbeats 1000000 in
theorem sParityMatrix_own (n m : Int) (w : World) : Calls Tryd.prog 24 #[.int .i64 n, .int .i64 m] w (RetMatOk 5 22 w (prmR n m) (prmOk n m)) := by
  have hb1 : Below w.heap.size w (w.alloc (.cells #[.slice none 0 0] 39)) := (Below.refl _ _).alloc (Nat.le_refl _) _
  have HOdef : Hid (prmOk n m = (goodI n && par4 m)) := rfl
  by_cases h : goodI n = true
  · have H1 := Lib.hid h
    by_cases h' : par4 m = true
    · have H2 := Lib.hid h'
      have HO : Hid (prmOk n m = true) := by show prmOk n m = true; rw [HOdef.out, h, h']; rfl
      have b1 : 1 ≤ n ∧ n ≤ 16 := by simpa [goodI] using h
      have b2 : 1 ≤ m ∧ m ≤ 4 := by simpa [par4] using h'
      obtain ⟨c, rfl⟩ := Int.eq_ofNat_of_zero_le (show 0 ≤ n by omega)
      obtain ⟨r, rfl⟩ := Int.eq_ofNat_of_zero_le (show 0 ≤ m by omega)
      have HR : Hid (prmR c r = mkM r c prmF) := by show prmR c r = _; unfold prmR; rw [if_pos HO.out]; simp
      clear h h'
      go_enter Tryd.func24, Tryd.ntmps24
      go_wp2_with fail
      refine (l1In_side _ _).mono ?_
      rintro e w' ⟨rfl, rfl⟩
      rw [H1.out]
      go_wp2_with fail
      refine (l1In_four _ _).mono ?_
      rintro e w' ⟨rfl, rfl⟩
      rw [H2.out]
      go_wp2_with fail
      refine (l6Matrix_own r c _ (by omega) (by omega) (by omega) (by omega)).mono ?_
      rintro e w' ⟨v', vs', rfl, hM, ht⟩
      obtain ⟨A', n', c', rfl⟩ := hM.isSlice
      have hq := cell_turn ht (B := w.heap.size) (o := 0) (x := .slice none 0 0) (by simp) (by simp)
      have hqf := frozen_turn ht (B := w.heap.size) (o := 0) (x := false) (by simp) (by simp)
      have HF := Lib.hid (ret_store hb1 hM ht w.heap.size 0 (Nat.le_refl _) (by simp) (.slice A' n' c'))
      clear hM ht hb1
      go_wp2_with fail
      refine bodyPost_ret (v := .tuple #[.agg #[.slice A' n' c'], .bool true]) (by simp [results, Tryd.results24, go_sem, hq]) rfl ?_
      exact ⟨.slice A' n' c', vs', by rw [HO.out], by rw [HR.out]; exact HF.out.1, HF.out.2⟩
    · have H2 : Hid (par4 m = false) := by show par4 m = false; simpa using h'
      have HO : Hid (prmOk n m = false) := by show prmOk n m = false; rw [HOdef.out, H2.out]; simp
      have HR : Hid (prmR n m = []) := if_neg (by rw [HO.out]; simp)
      clear h h'
      go_enter Tryd.func24, Tryd.ntmps24
      go_wp2_with fail
      refine (l1In_side _ _).mono ?_
      rintro e w' ⟨rfl, rfl⟩
      rw [H1.out]
      go_wp2_with fail
      refine (l1In_four _ _).mono ?_
      rintro e w' ⟨rfl, rfl⟩
      rw [H2.out]
      go_wp2_with fail
      refine bodyPost_ret (v := .tuple #[.agg #[.slice none 0 0], .bool false]) (by simp [results, Tryd.results24, go_sem]) rfl ?_
      exact ⟨_, [], by rw [HO.out], by rw [HR.out]; exact OwnM.nil _ _ _ _, TurnIn.of_below hb1⟩
  · have H1 : Hid (goodI n = false) := by show goodI n = false; simpa using h
    have HO : Hid (prmOk n m = false) := by show prmOk n m = false; rw [HOdef.out, H1.out]; simp
    have HR : Hid (prmR n m = []) := if_neg (by rw [HO.out]; simp)
    clear h
    go_enter Tryd.func24, Tryd.ntmps24
    go_wp2_with fail
    refine (l1In_side _ _).mono ?_
    rintro e w' ⟨rfl, rfl⟩
    rw [H1.out]
    go_wp2_with fail
    refine bodyPost_ret (v := .tuple #[.agg #[.slice none 0 0], .bool false]) (by simp [results, Tryd.results24, go_sem]) rfl ?_
    exact ⟨_, [], by rw [HO.out], by rw [HR.out]; exact OwnM.nil _ _ _ _, TurnIn.of_below hb1⟩

end Go.Proofs.YtbopocpmodpfcaaDoor
