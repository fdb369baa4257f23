/- Joined texts: SpecSides, ParMat, Grew, PlusT, Loc, OpenLoc, OpenMsr. -/
import Derived.Test.YtjklngheehhggaaDoorBd05
import Derived.Test.YtjklngheehhggaaDoorBd07
import Derived.Test.YtjklngheehhggaaDoorBd03
import Derived.Test.YtjklngheehhggaaDoorBd00
import Derived.Test.YtjklngheehhggaaDoorBd02
import Derived.Deep.QuietTactic
import Derived.Deep.RegionHeld3
import Derived.Test.YtjklngheehhggaaDoorBd06
import Derived.Test.YtjklngheehhggaaDoorProg
import Derived.Lib.SmallJoins
set_option linter.unusedSimpArgs false
set_option linter.unusedVariables false
/- The model's Identity, Vandermonde and Cauchy. -/
namespace Go.Proofs.YtjklngheehhggaaDoor
open Go.RowKit G294

end Go.Proofs.YtjklngheehhggaaDoor

/- The matrix of the parities: the program's and the model's. -/
namespace G294
open Go Go.RowKit
def prmF (i j : Nat) : UInt8 := powB (powB 3 i) j
def par4 (m : Int) : Bool := decide (1 ≤ m ∧ m ≤ 4)
def prmOk (k m : Int) : Bool := goodI k && par4 m
def prmR (k m : Int) : Mat := if prmOk k m = true then mkM m.toNat k.toNat prmF else []
theorem prmR_siz (k m : Int) : sizM (prmR k m) ≤ 256 := by
  unfold prmR; split
  · rename_i h
    simp only [prmOk, goodI, par4, Bool.and_eq_true, decide_eq_true_eq] at h
    exact sizM_side _ (by omega) (by omega)
  · simp [sizM]
end G294
namespace Go.Proofs.YtjklngheehhggaaDoor
open Go.RowKit G294

set_option maxHeartbeats 1000000 in
theorem goodStripeParity_any (n : Int) (w : World) : Calls Tryd.prog 111 #[.int .i64 n] w fun e w' => e = .returned (.bool (par4 n)) ∧ w = w' := by
  by_cases h1 : 1 ≤ n
  · by_cases h2 : n ≤ 4
    · have H3 : Hid (par4 n = true) := Lib.hid (by simp [par4, h1, h2])
      go_enter Tryd.func111, Tryd.ntmps111
      go_wp2_with fail
      go_ret
      exact ⟨by rw [H3.out]; rfl, rfl⟩
    · have H3 : Hid (par4 n = false) := Lib.hid (by simp [par4, h2])
      go_enter Tryd.func111, Tryd.ntmps111
      go_wp2_with fail
      go_ret
      exact ⟨by rw [H3.out]; rfl, rfl⟩
  · have H3 : Hid (par4 n = false) := Lib.hid (by simp [par4, h1])
    go_enter Tryd.func111, Tryd.ntmps111
    go_wp2_with fail
    go_ret
    exact ⟨by rw [H3.out]; rfl, rfl⟩

theorem l1In_four (n : Int) (w : World) : Calls Tryd.prog 88 #[.int .i64 n, .int .i64 1, .int .i64 4] w fun e w' => e = .returned (.bool (par4 n)) ∧ w = w' := l1In_any n 1 4 w

set_option maxHeartbeats 1000000 in
theorem parityFactor_any (i j : Nat) (w : World) (hi : i ≤ 1000) (hj : j ≤ 1000) (ht : Tab w) : Calls Tryd.prog 116 #[.int .i64 i, .int .i64 j] w fun e w' => e = .returned (.int .u8 ((prmF i j).toNat : Int)) ∧ w = w' := by
  have HP1 : Hid (Calls Tryd.prog 166 #[.int .u8 3, .int .i64 i] w fun e w' => e = .returned (.int .u8 ((powB 3 i).toNat : Int)) ∧ w = w') := Lib.hid (powerOf_u8 3 i hi w ht)
  have HP2 := Lib.hid (powerOf_u8 (powB 3 i) j hj w ht)
  clear ht
  go_enter Tryd.func116, Tryd.ntmps116
  go_wp2_with fail
  refine HP1.out.mono ?_
  rintro e w' ⟨rfl, rfl⟩
  go_wp2_with fail
  refine HP2.out.mono ?_
  rintro e w' ⟨rfl, rfl⟩
  go_wp2_with fail
  go_ret
  exact ⟨rfl, rfl⟩

theorem prmAt (r c : Nat) (w : World) (hr : r ≤ 16) (hc : c ≤ 16) (ht : Tab w) (h0 : 1 < w.heap.size) :
    GivesAt Tryd.prog 116 #[] r c prmF w := by
  intro W i j hb hi hj
  refine (parityFactor_any i j W (by omega) (by omega) (ht.below hb h0)).mono ?_
  rintro e w' ⟨rfl, rfl⟩
  exact ⟨rfl, 0, rfl⟩

set_option maxRecDepth 100000 in
set_option maxHeartbeats 1000000 in
theorem parityMatrix_own (n m : Int) (w : World) (ht : Tab w) (h0 : 1 < w.heap.size) :
    Calls Tryd.prog 49 #[.int .i64 n, .int .i64 m] w (RetMatOk 5 22 w (prmR n m) (prmOk n m)) := by
  have hb1 : Below w.heap.size w (w.alloc (.cells #[.slice none 0 0] 79)) := (Below.refl _ _).alloc (Nat.le_refl _) _
  have HT := Lib.hid (ht.below hb1 h0)
  have HOdef : Hid (prmOk n m = (goodI n && par4 m)) := rfl
  clear ht
  by_cases h : goodI n = true
  · have H1 := Lib.hid h
    by_cases h' : par4 m = true
    · have H2 := Lib.hid h'
      have HO : Hid (prmOk n m = true) := by show prmOk n m = true; rw [HOdef.out, h, h']; rfl
      have b1 : 1 ≤ n ∧ n ≤ 16 := by simpa [goodI] using h
      have b2 : 1 ≤ m ∧ m ≤ 4 := by simpa [par4] using h'
      obtain ⟨c, rfl⟩ := Int.eq_ofNat_of_zero_le (show 0 ≤ n by omega)
      obtain ⟨r, rfl⟩ := Int.eq_ofNat_of_zero_le (show 0 ≤ m by omega)
      have HR : Hid (prmR c r = mkM r c prmF) := by show prmR c r = _; unfold prmR; rw [if_pos HO.out]; simp
      have eg := enters_of Tryd.func116 (by kernel_rfl) rfl
      have HG := Lib.hid (prmAt r c _ (by omega) (by omega) HT.out (by simp <;> omega))
      clear h h'
      go_enter Tryd.func49, Tryd.ntmps49
      go_wp2_with fail
      refine (goodSide_any _ _).mono ?_
      rintro e w' ⟨rfl, rfl⟩
      rw [H1.out]
      go_wp2_with fail
      refine (goodStripeParity_any _ _).mono ?_
      rintro e w' ⟨rfl, rfl⟩
      rw [H2.out]
      go_wp2_with fail
      refine (newGridB r c _ _ _ _ eg HG.out (by omega) (by omega)).mono ?_
      rintro e w' ⟨v', vs', rfl, hM, ht⟩
      obtain ⟨A', n', c', rfl⟩ := hM.isSlice
      have hq := cell_turn ht (B := w.heap.size) (o := 0) (x := .slice none 0 0) (by simp) (by simp)
      have hqf := frozen_turn ht (B := w.heap.size) (o := 0) (x := false) (by simp) (by simp)
      have HF := Lib.hid (ret_store hb1 hM ht w.heap.size 0 (Nat.le_refl _) (by simp) (.slice A' n' c'))
      clear hM ht hb1
      go_wp2_with fail
      refine bodyPost_ret (v := .tuple #[.agg #[.slice A' n' c'], .bool true]) (by simp [results, Tryd.results49, go_sem, hq]) rfl ?_
      exact ⟨.slice A' n' c', vs', by rw [HO.out], by rw [HR.out]; exact HF.out.1, HF.out.2⟩
    · have H2 : Hid (par4 m = false) := by show par4 m = false; simpa using h'
      have HO : Hid (prmOk n m = false) := by show prmOk n m = false; rw [HOdef.out, H2.out]; simp
      have HR : Hid (prmR n m = []) := if_neg (by rw [HO.out]; simp)
      clear h h'
      go_enter Tryd.func49, Tryd.ntmps49
      go_wp2_with fail
      refine (goodSide_any _ _).mono ?_
      rintro e w' ⟨rfl, rfl⟩
      rw [H1.out]
      go_wp2_with fail
      refine (goodStripeParity_any _ _).mono ?_
      rintro e w' ⟨rfl, rfl⟩
      rw [H2.out]
      go_wp2_with fail
      refine bodyPost_ret (v := .tuple #[.agg #[.slice none 0 0], .bool false]) (by simp [results, Tryd.results49, go_sem]) rfl ?_
      exact ⟨_, [], by rw [HO.out], by rw [HR.out]; exact OwnM.nil _ _ _ _, TurnIn.of_below hb1⟩
  · have H1 : Hid (goodI n = false) := by show goodI n = false; simpa using h
    have HO : Hid (prmOk n m = false) := by show prmOk n m = false; rw [HOdef.out, H1.out]; simp
    have HR : Hid (prmR n m = []) := if_neg (by rw [HO.out]; simp)
    clear h
    go_enter Tryd.func49, Tryd.ntmps49
    go_wp2_with fail
    refine (goodSide_any _ _).mono ?_
    rintro e w' ⟨rfl, rfl⟩
    rw [H1.out]
    go_wp2_with fail
    refine bodyPost_ret (v := .tuple #[.agg #[.slice none 0 0], .bool false]) (by simp [results, Tryd.results49, go_sem]) rfl ?_
    exact ⟨_, [], by rw [HO.out], by rw [HR.out]; exact OwnM.nil _ _ _ _, TurnIn.of_below hb1⟩

set_option maxRecDepth 100000 in
set_option maxHeartbeats 2000000 in
theorem l6Matrix_own (r c : Nat) (w : World) (h1 : 1 ≤ r) (h2 : 1 ≤ c) (hr : r ≤ 16) (hc : c ≤ 16) : Calls Tryd.prog 109 #[.int .i64 c, .int .i64 r] w (RetMat 5 22 w (mkM r c prmF)) := by
  have hb0 : Below w.heap.size w (w.alloc (.cells #[.slice none 0 0] 79)) := (Below.refl _ _).alloc (Nat.le_refl _) _
  go_enter Tryd.func109, Tryd.ntmps109
  go_wp2_with fail
  refine (l2Blank_own r c _ (by omega) (by omega)).mono ?_
  rintro e w1 ⟨v, vs, rfl, hM, ht⟩
  obtain ⟨g, cp, rfl, hg1, hg2, hg3, hg4⟩ := hM.sliceF h1
  have hc0 := cell_turn ht (B := w.heap.size) (o := 0) (x := .slice none 0 0) (by simp) (by simp)
  have hf0 := frozen_turn ht (B := w.heap.size) (o := 0) (x := false) (by simp) (by simp)
  have hb1 := ht.base hb0 (by simp) (by omega)
  have hs1 := ht.size
  rw [World.size_alloc] at hs1 hM hg1
  have hF := Fill.start (t := 79) rfl (hM.congr (L' := mkM r c fun i j => if i < 0 then prmF i j else 0) (mkM_congr fun i j _ _ => by simp)) hc0 hf0 hb1 hs1
  have HF0 := Lib.hid hF
  clear hM ht hb0 hb1 hc0 hf0 hF
  unfold maxLen at hg4
  have hcB : (w1.alloc (.cells #[.slice (some ⟨g, 0, none⟩) r cp] 79)).cell? ⟨w1.heap.size, 0, none⟩ = some (.slice (some ⟨g, 0, none⟩) r cp) := by simp
  go_wp2_with fail
  generalize w1.alloc (.cells #[.slice (some ⟨g, 0, none⟩) r cp] 79) = w2 at *
  generalize w1.heap.size = B at *
  go_loopw [14] (fun i wr => ∃ k : Nat, k ≤ r ∧ i = .int .i64 k ∧ Hid (Fill 5 22 w wr B (.slice (some ⟨g, 0, none⟩) r cp) (mkM r c fun i j => if i < k then prmF i j else 0) vs))
    (fun i _ => r - (intOf i).toNat)
  case atStart => exact ⟨0, Nat.zero_le _, rfl, HF0.out⟩
  case round =>
    obtain ⟨k, hk, rfl, HF⟩ := hrel
    have hvar := HF.out.var
    clear hcB
    by_cases hlt : k < r
    · have hki : (k : Int) < (r : Int) := by omega
      obtain ⟨bb, cp2, hu, e1, e2, e3, e4, e5, hfz, hcell⟩ := HF.out.own.rowF k hlt (by omega)
      have hco := HF.out.own.cellAt hu
      have HU := Lib.hid hu
      have HF1 := Lib.hid (HF.out.congr (L' := mkM r c fun i j => if i < k ∨ (i = k ∧ j < 0) then prmF i j else 0) (mkM_congr fun i j _ _ => by simp))
      unfold maxLen at e5
      clear hcell hfz hu e3
      go_wp2_with fail
      go_loopw [23] (fun i wq => ∃ m : Nat, m ≤ c ∧ i = .int .i64 m ∧ Hid (Fill 5 22 w wq B (.slice (some ⟨g, 0, none⟩) r cp) (mkM r c fun i j => if i < k ∨ (i = k ∧ j < m) then prmF i j else 0) vs))
        (fun i _ => c - (intOf i).toNat)
      case atStart => exact ⟨0, Nat.zero_le _, rfl, HF1.out⟩
      case round =>
        obtain ⟨m, hm, rfl, HF⟩ := hrel
        have hvar := HF.out.var
        clear hco hvar
        by_cases hlm : m < c
        · have hmi : (m : Int) < (c : Int) := by omega
          have hk0 : (0 : Int) ≤ (k : Int) := Int.natCast_nonneg _
          have hm0 : (0 : Int) ≤ (m : Int) := Int.natCast_nonneg _
          have hvar := HF.out.var
          have hco := HF.out.own.cellAt HU.out
          obtain ⟨bb', cp2', hu', e1', e2', e3', e4', e5', hfz, hcell⟩ := HF.out.own.rowF k hlt (by omega)
          obtain ⟨rfl, rfl⟩ : bb = bb' ∧ cp2 = cp2' := by simpa using HU.out.symm.trans hu'
          have hcx := hcell m hlm
          have hfr := hfz m
          have hlo := HF.out.lo
          have n1 : B ≠ bb := by omega
          have n1' : bb ≠ B := by omega
          have n2 : g ≠ bb := fun e => e3' (by rw [e]; rfl)
          have n2' : bb ≠ g := fun e => n2 e.symm
          have HF2 := Lib.hid (fun q => ((HF.out.drewN q).storeF (j := m) (x := prmF k m) hlt HU.out).congr (L' := mkM r c fun i j => if i < k ∨ (i = k ∧ j < m + 1) then prmF i j else 0) (mkM_congr fun i j _ _ => by
            by_cases a1 : i = k
            · subst a1
              by_cases a2 : j = m
              · subst a2; simp
              · by_cases a3 : j < m
                · simp [a2, a3]; omega
                · simp [a2, a3]; omega
            · simp [a1]))
          have HPP : Hid (∀ W, Calls Tryd.prog 103 #[.int .u8 3, .int .i64 k] W fun e w' => e = .returned (.int .u8 ((powB 3 k).toNat : Int)) ∧ W = w') := Lib.hid (fun W => l1Power_u8 3 k (by omega) W)
          have HPQ : Hid (∀ W, Calls Tryd.prog 103 #[.int .u8 ((powB 3 k).toNat : Int), .int .i64 m] W fun e w' => e = .returned (.int .u8 ((prmF k m).toNat : Int)) ∧ W = w') := Lib.hid (fun W => l1Power_u8 (powB 3 k) m (by omega) W)
          clear hcell hfz hu' e3' e5'
          go_wp2_with fail
          go_region_held3 (fun w' => w'.cell? ⟨B, 0, none⟩ = some (.slice (some ⟨g, 0, none⟩) r cp) ∧ w'.cell? ⟨g, k, none⟩ = some (.slice (some ⟨bb, 0, none⟩) c cp2))
            (first | go_keep)
            ((go_at_call 103; (first | (with_reducible refine (HPP.out _).mono ?_; rintro e w' ⟨rfl, rfl⟩) | (with_reducible refine (HPQ.out _).mono ?_; rintro e w' ⟨rfl, rfl⟩))))
          go_wp2_with fail
          go_roundw
          case rel => exact ⟨m + 1, by omega, by go_num, HF2.out 1⟩
          case measure => simp [intOf]; omega
        · obtain rfl : m = c := by omega
          have hmi : ¬ (m : Int) < (m : Int) := by omega
          go_wp2_with fail
          go_roundw
          case rel => exact ⟨k + 1, by omega, by go_num, HF.out.congr (mkM_congr fun i j _ hj => by
            by_cases a1 : i < k
            · simp [a1]; omega
            · by_cases a2 : i = k
              · subst a2; simp [hj]
              · simp [a1, a2]; omega)⟩
          case measure => simp [intOf]; omega
    · obtain rfl : k = r := by omega
      have hki : ¬ (k : Int) < (k : Int) := by omega
      have hc0 := HF.out.res
      have hf0 := HF.out.resf
      go_wp2_with fail
      refine bodyPost_ret (v := .agg #[.slice (some ⟨g, 0, none⟩) k cp]) (by simp [results, Tryd.results109, go_sem, hc0]) rfl ?_
      exact (HF.out.congr (L' := mkM k c prmF) (mkM_congr fun i j hi _ => by simp [hi])).finish

set_option maxRecDepth 100000 in
set_option maxHeartbeats 1000000 in
theorem sParityMatrix_own (n m : Int) (w : World) : Calls Tryd.prog 50 #[.int .i64 n, .int .i64 m] w (RetMatOk 5 22 w (prmR n m) (prmOk n m)) := by
  have hb1 : Below w.heap.size w (w.alloc (.cells #[.slice none 0 0] 79)) := (Below.refl _ _).alloc (Nat.le_refl _) _
  have HOdef : Hid (prmOk n m = (goodI n && par4 m)) := rfl
  by_cases h : goodI n = true
  · have H1 := Lib.hid h
    by_cases h' : par4 m = true
    · have H2 := Lib.hid h'
      have HO : Hid (prmOk n m = true) := by show prmOk n m = true; rw [HOdef.out, h, h']; rfl
      have b1 : 1 ≤ n ∧ n ≤ 16 := by simpa [goodI] using h
      have b2 : 1 ≤ m ∧ m ≤ 4 := by simpa [par4] using h'
      obtain ⟨c, rfl⟩ := Int.eq_ofNat_of_zero_le (show 0 ≤ n by omega)
      obtain ⟨r, rfl⟩ := Int.eq_ofNat_of_zero_le (show 0 ≤ m by omega)
      have HR : Hid (prmR c r = mkM r c prmF) := by show prmR c r = _; unfold prmR; rw [if_pos HO.out]; simp
      clear h h'
      go_enter Tryd.func50, Tryd.ntmps50
      go_wp2_with fail
      refine (l1In_side _ _).mono ?_
      rintro e w' ⟨rfl, rfl⟩
      rw [H1.out]
      go_wp2_with fail
      refine (l1In_four _ _).mono ?_
      rintro e w' ⟨rfl, rfl⟩
      rw [H2.out]
      go_wp2_with fail
      refine (l6Matrix_own r c _ (by omega) (by omega) (by omega) (by omega)).mono ?_
      rintro e w' ⟨v', vs', rfl, hM, ht⟩
      obtain ⟨A', n', c', rfl⟩ := hM.isSlice
      have hq := cell_turn ht (B := w.heap.size) (o := 0) (x := .slice none 0 0) (by simp) (by simp)
      have hqf := frozen_turn ht (B := w.heap.size) (o := 0) (x := false) (by simp) (by simp)
      have HF := Lib.hid (ret_store hb1 hM ht w.heap.size 0 (Nat.le_refl _) (by simp) (.slice A' n' c'))
      clear hM ht hb1
      go_wp2_with fail
      refine bodyPost_ret (v := .tuple #[.agg #[.slice A' n' c'], .bool true]) (by simp [results, Tryd.results50, go_sem, hq]) rfl ?_
      exact ⟨.slice A' n' c', vs', by rw [HO.out], by rw [HR.out]; exact HF.out.1, HF.out.2⟩
    · have H2 : Hid (par4 m = false) := by show par4 m = false; simpa using h'
      have HO : Hid (prmOk n m = false) := by show prmOk n m = false; rw [HOdef.out, H2.out]; simp
      have HR : Hid (prmR n m = []) := if_neg (by rw [HO.out]; simp)
      clear h h'
      go_enter Tryd.func50, Tryd.ntmps50
      go_wp2_with fail
      refine (l1In_side _ _).mono ?_
      rintro e w' ⟨rfl, rfl⟩
      rw [H1.out]
      go_wp2_with fail
      refine (l1In_four _ _).mono ?_
      rintro e w' ⟨rfl, rfl⟩
      rw [H2.out]
      go_wp2_with fail
      refine bodyPost_ret (v := .tuple #[.agg #[.slice none 0 0], .bool false]) (by simp [results, Tryd.results50, go_sem]) rfl ?_
      exact ⟨_, [], by rw [HO.out], by rw [HR.out]; exact OwnM.nil _ _ _ _, TurnIn.of_below hb1⟩
  · have H1 : Hid (goodI n = false) := by show goodI n = false; simpa using h
    have HO : Hid (prmOk n m = false) := by show prmOk n m = false; rw [HOdef.out, H1.out]; simp
    have HR : Hid (prmR n m = []) := if_neg (by rw [HO.out]; simp)
    clear h
    go_enter Tryd.func50, Tryd.ntmps50
    go_wp2_with fail
    refine (l1In_side _ _).mono ?_
    rintro e w' ⟨rfl, rfl⟩
    rw [H1.out]
    go_wp2_with fail
    refine bodyPost_ret (v := .tuple #[.agg #[.slice none 0 0], .bool false]) (by simp [results, Tryd.results50, go_sem]) rfl ?_
    exact ⟨_, [], by rw [HO.out], by rw [HR.out]; exact OwnM.nil _ _ _ _, TurnIn.of_below hb1⟩

end Go.Proofs.YtjklngheehhggaaDoor

/- Regions that draw their order, whose operations read and whose callees lay new memory alone and answer the same in all such worlds. -/
namespace G294
open Go Go.RowKit
structure Grew (w : World) where
  at_ : World
  old : Below w.heap.size w at_
instance (w : World) : Inhabited (Grew w) := ⟨⟨w, Below.refl _ _⟩⟩
instance (w : World) : Nonempty (Grew w) := ⟨default⟩
theorem wp_region_grew {P : Program} {id : Nat} {Q : Exit → Act → World → Prop} {a : Act} {w : World} {l : List Oper} (hm : P.follows .mixedOrders = true) (hB : Region.lexB .any l.toArray = true)
    (h : wpQuiet P l.toArray (fun w' => ∃ p : Grew w, w' = p.at_) (fun a' => ∀ w', (∃ p : Grew w, w' = p.at_) → Q .normal a' w') l a) : (Code.region id l.toArray true).wp P Q a w :=
  wp_region_quiet (C := fun w' => ∃ p : Grew w, w' = p.at_) hm hB ⟨⟨w.drew, (Below.refl _ _).drew⟩, rfl⟩ (by simpa using h)
theorem grew_bool {P : Program} {f : FuncId} {args : Array Value} {w : World} {p : Grew w} {b : Bool} (h : Calls P f args p.at_ (RetBool p.at_ b)) :
    Calls P f args p.at_ fun e w'' => e = .returned (.bool b) ∧ ∃ q : Grew w, w'' = q.at_ :=
  h.mono fun _ w'' ⟨he, ht⟩ => ⟨he, ⟨w'', ht.base p.old p.old.size (by omega)⟩, rfl⟩
theorem grew_cell {w : World} {B o : Nat} {x : Value} (h : w.cell? ⟨B, o, none⟩ = some x) (hB : B < w.heap.size) (p : Grew w) : p.at_.cell? ⟨B, o, none⟩ = some x := (p.old.cell (p := ⟨B, o, none⟩) hB).trans h
end G294

/- plusTimes, and the methods that make the texts of a product, a sum, a merge and a change. -/
namespace G294
open Go Go.RowKit
/-- a text plus a multiple of an equally long one -/
def plusL (a : List UInt8) (f : UInt8) (b : List UInt8) : List UInt8 := mkRow a.length fun p => a.getD p 0 ^^^ gmul f (b.getD p 0)
@[simp] theorem plusL_length (a : List UInt8) (f : UInt8) (b : List UInt8) : (plusL a f b).length = a.length := by simp [plusL]
theorem comb_plus (a b : List UInt8) (f : UInt8) : comb 2 a.length (fun j => if j = 0 then 1 else f) [a, b] = plusL a f b := by
  refine mkRow_congr fun p hp => ?_
  rw [combF_succ, combF_succ]
  show (0 ^^^ gmul 1 (a.getD p 0)) ^^^ gmul f (b.getD p 0) = _
  rw [gmul_one_left, UInt8.zero_xor]
theorem mkRow_two (f : UInt8) : mkRow 2 (fun j => if j = 0 then 1 else f) = [1, f] := by simp [mkRow, List.range_succ]
end G294
namespace Go.Proofs.YtjklngheehhggaaDoor
open Go.RowKit G294

set_option maxRecDepth 100000 in
set_option maxHeartbeats 1000000 in
theorem plusTimes_own (a b : List UInt8) (f : UInt8) (w : World) (hl : b.length = a.length) (hn : a.length ≤ 1000) (ht : Tab w) (h0 : 1 < w.heap.size) :
    Calls Tryd.prog 164 #[.string (str a), .int .u8 (f.toNat : Int), .string (str b)] w (RetStr w (plusL a f b)) := by
  have k1 : TurnIn 0 0 w ((w.alloc (.cells #[.int .u8 1, .int .u8 (f.toNat : Int)] 5)).alloc (.cells #[.string (str a), .string (str b)] 9)) := turn_trans (turn_alloc _ _) (turn_alloc _ _) (by omega)
  have z1 : ((w.alloc (.cells #[.int .u8 1, .int .u8 (f.toNat : Int)] 5)).alloc (.cells #[.string (str a), .string (str b)] 9)).heap.size = w.heap.size + 2 := by simp
  have ka := turn_alloc (w.alloc (.cells #[.int .u8 1, .int .u8 (f.toNat : Int)] 5)) (.cells #[.string (str a), .string (str b)] 9)
  have r0 := cell_turn ka (alloc_duo0 w (.int .u8 1) (.int .u8 (f.toNat : Int)) 5) (alloc_lt _ _)
  have r1 := cell_turn ka (alloc_duo1 w (.int .u8 1) (.int .u8 (f.toNat : Int)) 5) (alloc_lt _ _)
  have s0 := alloc_duo0 (w.alloc (.cells #[.int .u8 1, .int .u8 (f.toNat : Int)] 5)) (.string (str a)) (.string (str b)) 9
  have s1 := alloc_duo1 (w.alloc (.cells #[.int .u8 1, .int .u8 (f.toNat : Int)] 5)) (.string (str a)) (.string (str b)) 9
  rw [World.size_alloc] at s0 s1
  have HR : Hid (Seen ((w.alloc (.cells #[.int .u8 1, .int .u8 (f.toNat : Int)] 5)).alloc (.cells #[.string (str a), .string (str b)] 9)) (.slice (some ⟨w.heap.size, 0, none⟩) 2 2) (bys (mkRow 2 (fun j => if j = 0 then 1 else f)))) := by
    refine Lib.hid ⟨some ⟨w.heap.size, 0, none⟩, 2, by rw [mkRow_two]; rfl, by rw [mkRow_two]; exact Nat.le_refl _, by unfold maxLen; omega, fun _ => ⟨w.heap.size, 0, rfl, by omega, fun i u hu => ?_⟩⟩
    rw [mkRow_two] at hu
    rcases i with _ | _ | i
    · simp only [bys, List.map_cons, List.getElem?_cons_zero, Option.some.injEq] at hu; rw [← hu]; exact r0
    · simp only [bys, List.map_cons, List.getElem?_cons_succ, List.getElem?_cons_zero, Option.some.injEq] at hu; rw [← hu]; exact r1
    · simp [bys] at hu
  have HS : Hid (Seen ((w.alloc (.cells #[.int .u8 1, .int .u8 (f.toNat : Int)] 5)).alloc (.cells #[.string (str a), .string (str b)] 9)) (.slice (some ⟨w.heap.size + 1, 0, none⟩) 2 2) (strs [a, b])) := by
    refine Lib.hid ⟨some ⟨w.heap.size + 1, 0, none⟩, 2, rfl, Nat.le_refl _, by unfold maxLen; omega, fun _ => ⟨w.heap.size + 1, 0, rfl, by omega, fun i u hu => ?_⟩⟩
    rcases i with _ | _ | i
    · simp only [strs, List.map_cons, List.getElem?_cons_zero, Option.some.injEq] at hu; rw [← hu]; exact s0
    · simp only [strs, List.map_cons, List.getElem?_cons_succ, List.getElem?_cons_zero, Option.some.injEq] at hu; rw [← hu]; exact s1
    · simp [strs] at hu
  have HT := Lib.hid (ht.below k1.to_below h0)
  have HK := Lib.hid k1
  have HL : Hid (∀ j, j < 2 → (([a, b] : List (List UInt8)).getD j []).length = a.length) := fun j hj => by
    rcases j with _ | _ | j
    · rfl
    · exact hl
    · omega
  have hz : w.heap.size + 2 ≤ ((w.alloc (.cells #[.int .u8 1, .int .u8 (f.toNat : Int)] 5)).alloc (.cells #[.string (str a), .string (str b)] 9)).heap.size := by omega
  have HZ := Lib.hid hz
  clear r0 r1 s0 s1 ka z1 k1 ht hz
  go_enter Tryd.func164, Tryd.ntmps164
  go_wp2_with fail
  refine (combined_own 2 a.length _ [a, b] _ _ _ HR.out HS.out rfl (by omega) (by omega) HL.out hn HT.out (by have := HZ.out; omega)).mono ?_
  rintro e w2 ⟨rfl, k⟩
  rw [comb_plus]
  go_wp2_with fail
  go_ret
  exact ⟨rfl, turn_trans HK.out k (by omega)⟩

end Go.Proofs.YtjklngheehhggaaDoor

/- Local codes: their numbers; the program's and the model's GoodLocal. -/
namespace G294
open Go Go.RowKit
def numOk (n : Int) : Bool := decide (1 ≤ n ∧ n ≤ 4)
def locOk (g e q : Int) : Bool := numOk g && numOk e && numOk q && decide (g * e ≤ 8)
/-- a local code as a value -/
abbrev locV (g e q : Int) : Value := .agg #[.int .i64 g, .int .i64 e, .int .i64 q]
theorem mul_bd {a b : Int} (h1 : 1 ≤ a ∧ a ≤ 4) (h2 : 1 ≤ b ∧ b ≤ 4) : 1 ≤ a * b ∧ a * b ≤ 16 := by
  obtain ⟨h1, h1'⟩ := h1
  obtain ⟨h2, h2'⟩ := h2
  have e1 : a = 1 ∨ a = 2 ∨ a = 3 ∨ a = 4 := by omega
  rcases e1 with rfl | rfl | rfl | rfl <;> omega
theorem numOk_b {n : Int} (h : numOk n = true) : 1 ≤ n ∧ n ≤ 4 := by simpa [numOk] using h
theorem locOk_b {g e q : Int} (h : locOk g e q = true) : ((1 ≤ g ∧ g ≤ 4) ∧ (1 ≤ e ∧ e ≤ 4)) ∧ (1 ≤ q ∧ q ≤ 4) ∧ 1 ≤ g * e ∧ g * e ≤ 8 := by
  have h' : (((1 ≤ g ∧ g ≤ 4) ∧ (1 ≤ e ∧ e ≤ 4)) ∧ (1 ≤ q ∧ q ≤ 4)) ∧ g * e ≤ 8 := by simpa [locOk, numOk] using h
  exact ⟨h'.1.1, h'.1.2, (mul_bd h'.1.1.1 h'.1.1.2).1, h'.2⟩
end G294
namespace Go.Proofs.YtjklngheehhggaaDoor
open Go.RowKit G294

set_option maxHeartbeats 400000 in
theorem goodLocalNumber_any (n : Int) (w : World) : Calls Tryd.prog 221 #[.int .i64 n] w fun e w' => e = .returned (.bool (numOk n)) ∧ w = w' := by
  by_cases h1 : 1 ≤ n
  · have hd : decide (1 ≤ n) = true := by simpa using h1
    by_cases h2 : n ≤ 4
    · have HV : Hid (numOk n = true) := by show numOk n = true; simp [numOk, h1, h2]
      go_enter Tryd.func221, Tryd.ntmps221
      go_wp2_with fail
      go_ret
      exact ⟨by rw [HV.out]; simp [h2], rfl⟩
    · have HV : Hid (numOk n = false) := by show numOk n = false; simp [numOk, h2]
      go_enter Tryd.func221, Tryd.ntmps221
      go_wp2_with fail
      go_ret
      exact ⟨by rw [HV.out]; simp [h2], rfl⟩
  · have hd : decide (1 ≤ n) = false := by simpa using h1
    have HV : Hid (numOk n = false) := by show numOk n = false; simp [numOk, h1]
    go_enter Tryd.func221, Tryd.ntmps221
    go_wp2_with fail
    go_ret
    exact ⟨by rw [HV.out]; rfl, rfl⟩

set_option maxRecDepth 100000 in
set_option maxHeartbeats 400000 in
theorem localData_any (g e q : Int) (w : World) (h : 1 ≤ g * e ∧ g * e ≤ 16) : Calls Tryd.prog 181 #[locV g e q] w (RetInt w (g * e)) := by
  have kk := turn_alloc w (.cells #[.int .i64 g, .int .i64 e, .int .i64 q] 102)
  obtain ⟨h1, h2⟩ := h
  go_enter Tryd.func181, Tryd.ntmps181
  go_wp2_with fail
  go_ret
  exact ⟨rfl, kk⟩

set_option maxRecDepth 100000 in
set_option maxHeartbeats 400000 in
theorem l4Data_any (g e q : Int) (w : World) (h : 1 ≤ g * e ∧ g * e ≤ 16) : Calls Tryd.prog 178 #[locV g e q] w (RetInt w (g * e)) := by
  have kk := turn_alloc w (.cells #[.int .i64 g, .int .i64 e, .int .i64 q] 102)
  obtain ⟨h1, h2⟩ := h
  go_enter Tryd.func178, Tryd.ntmps178
  go_wp2_with fail
  go_ret
  exact ⟨rfl, kk⟩

set_option maxRecDepth 100000 in
set_option maxHeartbeats 1000000 in
theorem goodLocal_any (g e q : Int) (w : World) : Calls Tryd.prog 203 #[locV g e q] w (RetBool w (locOk g e q)) := by
  have a1 := turn_alloc w (.cells #[.int .i64 g, .int .i64 e, .int .i64 q] 102)
  have cg : (w.alloc (.cells #[.int .i64 g, .int .i64 e, .int .i64 q] 102)).cell? ⟨w.heap.size, 0, none⟩ = some (.int .i64 g) := by simp
  have ce : (w.alloc (.cells #[.int .i64 g, .int .i64 e, .int .i64 q] 102)).cell? ⟨w.heap.size, 1, none⟩ = some (.int .i64 e) := by simp
  have cq : (w.alloc (.cells #[.int .i64 g, .int .i64 e, .int .i64 q] 102)).cell? ⟨w.heap.size, 2, none⟩ = some (.int .i64 q) := by simp
  by_cases hg : numOk g = true
  · have Hg := Lib.hid hg
    clear hg
    by_cases he : numOk e = true
    · have He := Lib.hid he
      clear he
      by_cases hq : numOk q = true
      · have Hq := Lib.hid hq
        clear hq
        have hb := mul_bd (numOk_b Hg.out) (numOk_b He.out)
        obtain ⟨hb1, hb2⟩ := hb
        by_cases hp : g * e ≤ 8
        · have hpd : decide (g * e ≤ 8) = true := by simpa using hp
          have HV : Hid (locOk g e q = true) := by show locOk g e q = true; simp [locOk, Hg.out, He.out, Hq.out, hp]
          go_enter Tryd.func203, Tryd.ntmps203
          go_wp2_with fail
          refine (goodLocalNumber_any _ _).mono ?_
          rintro e' w' ⟨rfl, rfl⟩
          rw [Hg.out]
          go_wp2_with fail
          refine (goodLocalNumber_any _ _).mono ?_
          rintro e' w' ⟨rfl, rfl⟩
          rw [He.out]
          go_wp2_with fail
          refine (goodLocalNumber_any _ _).mono ?_
          rintro e' w' ⟨rfl, rfl⟩
          rw [Hq.out]
          go_wp2_with fail
          refine (localData_any g e q _ ⟨hb1, hb2⟩).mono ?_
          rintro e' w2 ⟨rfl, k2⟩
          go_wp2_with fail
          go_ret
          exact ⟨by rw [HV.out]; simp [hpd], (turn_trans a1 k2 (by omega))⟩
        · have hpd : decide (g * e ≤ 8) = false := by simpa using hp
          have HV : Hid (locOk g e q = false) := by show locOk g e q = false; simp [locOk, Hg.out, He.out, Hq.out, hp]
          go_enter Tryd.func203, Tryd.ntmps203
          go_wp2_with fail
          refine (goodLocalNumber_any _ _).mono ?_
          rintro e' w' ⟨rfl, rfl⟩
          rw [Hg.out]
          go_wp2_with fail
          refine (goodLocalNumber_any _ _).mono ?_
          rintro e' w' ⟨rfl, rfl⟩
          rw [He.out]
          go_wp2_with fail
          refine (goodLocalNumber_any _ _).mono ?_
          rintro e' w' ⟨rfl, rfl⟩
          rw [Hq.out]
          go_wp2_with fail
          refine (localData_any g e q _ ⟨hb1, hb2⟩).mono ?_
          rintro e' w2 ⟨rfl, k2⟩
          go_wp2_with fail
          go_ret
          exact ⟨by rw [HV.out]; simp [hpd], (turn_trans a1 k2 (by omega))⟩
      · have Hq : Hid (numOk q = false) := by show numOk q = false; simpa using hq
        clear hq
        have HV : Hid (locOk g e q = false) := by show locOk g e q = false; simp [locOk, Hg.out, He.out, Hq.out]
        go_enter Tryd.func203, Tryd.ntmps203
        go_wp2_with fail
        refine (goodLocalNumber_any _ _).mono ?_
        rintro e' w' ⟨rfl, rfl⟩
        rw [Hg.out]
        go_wp2_with fail
        refine (goodLocalNumber_any _ _).mono ?_
        rintro e' w' ⟨rfl, rfl⟩
        rw [He.out]
        go_wp2_with fail
        refine (goodLocalNumber_any _ _).mono ?_
        rintro e' w' ⟨rfl, rfl⟩
        rw [Hq.out]
        go_wp2_with fail
        go_ret
        exact ⟨by rw [HV.out]; rfl, a1⟩
    · have He : Hid (numOk e = false) := by show numOk e = false; simpa using he
      clear he
      have HV : Hid (locOk g e q = false) := by show locOk g e q = false; simp [locOk, Hg.out, He.out]
      go_enter Tryd.func203, Tryd.ntmps203
      go_wp2_with fail
      refine (goodLocalNumber_any _ _).mono ?_
      rintro e' w' ⟨rfl, rfl⟩
      rw [Hg.out]
      go_wp2_with fail
      refine (goodLocalNumber_any _ _).mono ?_
      rintro e' w' ⟨rfl, rfl⟩
      rw [He.out]
      go_wp2_with fail
      go_ret
      exact ⟨by rw [HV.out]; rfl, a1⟩
  · have Hg : Hid (numOk g = false) := by show numOk g = false; simpa using hg
    clear hg
    have HV : Hid (locOk g e q = false) := by show locOk g e q = false; simp [locOk, Hg.out]
    go_enter Tryd.func203, Tryd.ntmps203
    go_wp2_with fail
    refine (goodLocalNumber_any _ _).mono ?_
    rintro e' w' ⟨rfl, rfl⟩
    rw [Hg.out]
    go_wp2_with fail
    go_ret
    exact ⟨by rw [HV.out]; rfl, a1⟩

set_option maxRecDepth 100000 in
set_option maxHeartbeats 1000000 in
theorem sGoodLocal_any (g e q : Int) (w : World) : Calls Tryd.prog 176 #[locV g e q] w (RetBool w (locOk g e q)) := by
  have a1 := turn_alloc w (.cells #[.int .i64 g, .int .i64 e, .int .i64 q] 102)
  have cg : (w.alloc (.cells #[.int .i64 g, .int .i64 e, .int .i64 q] 102)).cell? ⟨w.heap.size, 0, none⟩ = some (.int .i64 g) := by simp
  have ce : (w.alloc (.cells #[.int .i64 g, .int .i64 e, .int .i64 q] 102)).cell? ⟨w.heap.size, 1, none⟩ = some (.int .i64 e) := by simp
  have cq : (w.alloc (.cells #[.int .i64 g, .int .i64 e, .int .i64 q] 102)).cell? ⟨w.heap.size, 2, none⟩ = some (.int .i64 q) := by simp
  by_cases hg : numOk g = true
  · have Hg := Lib.hid hg
    clear hg
    by_cases he : numOk e = true
    · have He := Lib.hid he
      clear he
      have hb := mul_bd (numOk_b Hg.out) (numOk_b He.out)
      obtain ⟨hb1, hb2⟩ := hb
      by_cases hp : g * e ≤ 8
      · have hpd : decide (g * e ≤ 8) = true := by simpa using hp
        by_cases hq : numOk q = true
        · have Hq := Lib.hid hq
          clear hq
          have HV : Hid (locOk g e q = true) := by show locOk g e q = true; simp [locOk, Hg.out, He.out, Hq.out, hp]
          go_enter Tryd.func176, Tryd.ntmps176
          go_wp2_with fail
          refine (l1In_any _ _ _ _).mono ?_
          rintro e' w' ⟨rfl, rfl⟩
          rw [show inB g 1 4 = true from Hg.out]
          go_wp2_with fail
          refine (l1In_any _ _ _ _).mono ?_
          rintro e' w' ⟨rfl, rfl⟩
          rw [show inB e 1 4 = true from He.out]
          go_wp2_with fail
          refine (l1In_any _ _ _ _).mono ?_
          rintro e' w' ⟨rfl, rfl⟩
          rw [show inB q 1 4 = true from Hq.out]
          go_wp2_with fail
          go_ret
          exact ⟨by rw [HV.out]; first | rfl | simp [hpd], a1⟩
        · have Hq : Hid (numOk q = false) := by show numOk q = false; simpa using hq
          clear hq
          have HV : Hid (locOk g e q = false) := by show locOk g e q = false; simp [locOk, Hg.out, He.out, Hq.out, hp]
          go_enter Tryd.func176, Tryd.ntmps176
          go_wp2_with fail
          refine (l1In_any _ _ _ _).mono ?_
          rintro e' w' ⟨rfl, rfl⟩
          rw [show inB g 1 4 = true from Hg.out]
          go_wp2_with fail
          refine (l1In_any _ _ _ _).mono ?_
          rintro e' w' ⟨rfl, rfl⟩
          rw [show inB e 1 4 = true from He.out]
          go_wp2_with fail
          refine (l1In_any _ _ _ _).mono ?_
          rintro e' w' ⟨rfl, rfl⟩
          rw [show inB q 1 4 = false from Hq.out]
          go_wp2_with fail
          go_ret
          exact ⟨by rw [HV.out]; first | rfl | simp [hpd], a1⟩
      · have hpd : decide (g * e ≤ 8) = false := by simpa using hp
        have HV : Hid (locOk g e q = false) := by show locOk g e q = false; simp [locOk, Hg.out, He.out, hp]
        go_enter Tryd.func176, Tryd.ntmps176
        go_wp2_with fail
        refine (l1In_any _ _ _ _).mono ?_
        rintro e' w' ⟨rfl, rfl⟩
        rw [show inB g 1 4 = true from Hg.out]
        go_wp2_with fail
        refine (l1In_any _ _ _ _).mono ?_
        rintro e' w' ⟨rfl, rfl⟩
        rw [show inB e 1 4 = true from He.out]
        go_wp2_with fail
        go_ret
        exact ⟨by rw [HV.out]; first | rfl | simp [hpd], a1⟩
    · have He : Hid (numOk e = false) := by show numOk e = false; simpa using he
      clear he
      have HV : Hid (locOk g e q = false) := by show locOk g e q = false; simp [locOk, Hg.out, He.out]
      go_enter Tryd.func176, Tryd.ntmps176
      go_wp2_with fail
      refine (l1In_any _ _ _ _).mono ?_
      rintro e' w' ⟨rfl, rfl⟩
      rw [show inB g 1 4 = true from Hg.out]
      go_wp2_with fail
      refine (l1In_any _ _ _ _).mono ?_
      rintro e' w' ⟨rfl, rfl⟩
      rw [show inB e 1 4 = false from He.out]
      go_wp2_with fail
      go_ret
      exact ⟨by rw [HV.out]; first | rfl | simp [hpd], a1⟩
  · have Hg : Hid (numOk g = false) := by show numOk g = false; simpa using hg
    clear hg
    have HV : Hid (locOk g e q = false) := by show locOk g e q = false; simp [locOk, Hg.out]
    go_enter Tryd.func176, Tryd.ntmps176
    go_wp2_with fail
    refine (l1In_any _ _ _ _).mono ?_
    rintro e' w' ⟨rfl, rfl⟩
    rw [show inB g 1 4 = false from Hg.out]
    go_wp2_with fail
    go_ret
    exact ⟨by rw [HV.out]; first | rfl | simp [hpd], a1⟩

set_option maxRecDepth 100000 in
set_option maxHeartbeats 1000000 in
theorem toLocal_any (g e q : Int) (w : World) : Calls Tryd.prog 64 #[locV g e q] w fun r w' => r = .returned (locV g e q) ∧ TurnIn 0 0 w w' := by
  have kk : TurnIn 0 0 w (((w.alloc (.cells #[.int .i64 g, .int .i64 e, .int .i64 q] 98)).alloc (.cells #[.int .i64 g, .int .i64 e, .int .i64 q] 102)).alloc (.cells #[.int .i64 g, .int .i64 e, .int .i64 q] 102)) := turn_trans (turn_trans (turn_alloc _ _) (turn_alloc _ _) (by omega)) (turn_alloc _ _) (by omega)
  go_enter Tryd.func64, Tryd.ntmps64
  go_wp2_with fail
  refine bodyPost_ret (v := locV g e q) (by simp [results, Tryd.results64, go_sem]) rfl ?_
  exact ⟨rfl, kk⟩

end Go.Proofs.YtjklngheehhggaaDoor

/- From the readings of a law's arguments to what its walk asks: a struct of three ints. -/
namespace G294
open Go Go.ChangeShapes Go.WideShapes Go.ChangeAt Go.RowKit Go.Deep Go.Joins
section
variable {H : Type} {enc : TypeId × Value → H} {P : Program} {W : World} {base : Nat} {t : TypeId} {v : Value} {d : DataW H} {p : List MemPlace} {f0 f1 f2 : Field}
theorem open_three (hs : P.underlying t = some (.struct #[f0, f1, f2])) (hone : oneCellFields P #[f0, f1, f2] = true) (hC : P.cellsOf t = 3) (u0 : P.underlying f0.type = some (.int .i64)) (u1 : P.underlying f1.type = some (.int .i64)) (u2 : P.underlying f2.type = some (.int .i64))
    (hv : Value.okWide P W .any base t v) (h : DataW.Trod enc P W 0 (fun _ => true) true t v d p) : ∃ g e q : Int, v = .agg #[.int .i64 g, .int .i64 e, .int .i64 q] := by
  obtain ⟨v0, v1, v2, y0, y1, y2, n, rfl, _, _, h0, h1, h2⟩ := open_agg3 hs hone hC hv h
  obtain ⟨g, hg, _⟩ := DataW.trod_int u0 h0
  obtain ⟨e, he, _⟩ := DataW.trod_int u1 h1
  obtain ⟨q, hq, _⟩ := DataW.trod_int u2 h2
  simp only [List.cons.injEq, and_true] at hg he hq
  exact ⟨g, e, q, by rw [hg, he, hq]⟩
end
theorem alloc_tri0 (w : World) (x y z : Value) (T : TypeId) : (w.alloc (.cells #[x, y, z] T)).cell? ⟨w.heap.size, 0, none⟩ = some x := by simp
theorem alloc_tri1 (w : World) (x y z : Value) (T : TypeId) : (w.alloc (.cells #[x, y, z] T)).cell? ⟨w.heap.size, 1, none⟩ = some y := by simp
theorem alloc_tri2 (w : World) (x y z : Value) (T : TypeId) : (w.alloc (.cells #[x, y, z] T)).cell? ⟨w.heap.size, 2, none⟩ = some z := by simp
theorem alloc_ltT (w : World) (o : Obj) : w.heap.size < (w.alloc o).heap.size := by simp
theorem cell_keepT {w w' : World} {B o a b : Nat} {x : Value} (h : w.cell? ⟨B, o, none⟩ = some x) (hl : B < w.heap.size) (t : TurnIn a b w w') (d : B < a ∨ b ≤ B) : w'.cell? ⟨B, o, none⟩ = some x :=
  (World.cell?_of_block (t.block B hl (by omega))).trans h
end G294

/- From the readings of a law's arguments to what its walk asks: a struct of two ints. -/
namespace G294
open Go Go.ChangeShapes Go.WideShapes Go.ChangeAt Go.RowKit Go.Deep Go.Joins
section
variable {H : Type} {enc : TypeId × Value → H} {P : Program} {W : World} {base : Nat} {t : TypeId} {v : Value} {d : DataW H} {p : List MemPlace} {f0 f1 : Field}
theorem open_two (hs : P.underlying t = some (.struct #[f0, f1])) (hone : oneCellFields P #[f0, f1] = true) (hC : P.cellsOf t = 2) (u0 : P.underlying f0.type = some (.int .i64)) (u1 : P.underlying f1.type = some (.int .i64))
    (hv : Value.okWide P W .any base t v) (h : DataW.Trod enc P W 0 (fun _ => true) true t v d p) : ∃ g e : Int, v = .agg #[.int .i64 g, .int .i64 e] := by
  obtain ⟨v0, v1, y0, y1, n, rfl, _, _, h0, h1⟩ := open_agg2 hs hone hC hv h
  obtain ⟨g, hg, _⟩ := DataW.trod_int u0 h0
  obtain ⟨e, he, _⟩ := DataW.trod_int u1 h1
  simp only [List.cons.injEq, and_true] at hg he
  exact ⟨g, e, by rw [hg, he]⟩
end
end G294
