/- The program's Identity, Transposed, Vandermonde and Cauchy. -/
import Derived.Test.YtlkoafnlklhaeaaDoorConv
import Derived.Test.YtlkoafnlklhaeaaDoorTurned
import Derived.Test.YtlkoafnlklhaeaaDoorGood
import Derived.Test.YtlkoafnlklhaeaaDoorFieldWalksB
set_option linter.unusedSimpArgs false
set_option linter.unusedVariables false
namespace G294
open Go Go.RowKit
theorem turn_setCell (w : World) (B o : Nat) (x : Value) : TurnIn B (B + 1) w (w.setCell ⟨B, o, none⟩ x) :=
  ⟨rfl, rfl, rfl, by simp, fun k hk hd => heap_setCell_other w ⟨B, o, none⟩ k x (by intro e; simp at e; omega)⟩
theorem cell_set_other (w : World) {B B' : Nat} (o o' : Nat) (x : Value) (h : B ≠ B') : (w.setCell ⟨B, o, none⟩ x).cell? ⟨B', o', none⟩ = w.cell? ⟨B', o', none⟩ :=
  World.cell?_of_block (heap_setCell_other w ⟨B, o, none⟩ B' x (by intro e; simp at e; omega))
theorem frozen_set_other (w : World) {B B' : Nat} (o o' : Nat) (x : Value) (h : B ≠ B') : (w.setCell ⟨B, o, none⟩ x).frozen? ⟨B', o', none⟩ = w.frozen? ⟨B', o', none⟩ :=
  World.frozen?_of_block (heap_setCell_other w ⟨B, o, none⟩ B' x (by intro e; simp at e; omega))
/-- a result is stored into a variable that the call made ahead of it -/
theorem ret_store {E EE : TypeId} {w w1 w' : World} {v : Value} {L : Mat} {vs : List Value} (hb : Below w.heap.size w w1) (hM : OwnM E EE w' w1.heap.size w'.heap.size v L vs) (ht : TurnIn 0 0 w1 w') (B o : Nat) (h1 : w.heap.size ≤ B) (h2 : B < w1.heap.size) (x : Value) :
    OwnM E EE (w'.setCell ⟨B, o, none⟩ x) w.heap.size (w'.setCell ⟨B, o, none⟩ x).heap.size v L vs ∧ TurnIn 0 0 w (w'.setCell ⟨B, o, none⟩ x) := by
  have k := turn_setCell w' B o x
  have hs := k.size
  refine ⟨(hM.keep k (by omega)).wider (by have := hb.size; omega) hs (Nat.le_refl _), TurnIn.of_below ?_⟩
  have h3 : Below w.heap.size w w' := ht.base hb hb.size (by omega)
  exact h3.setCell h1 _
theorem cell_turn {w w' : World} (t : TurnIn 0 0 w w') {B o : Nat} {x : Value} (h : w.cell? ⟨B, o, none⟩ = some x) (hB : B < w.heap.size) : w'.cell? ⟨B, o, none⟩ = some x := (t.to_below.cell (p := ⟨B, o, none⟩) hB).trans h
theorem frozen_turn {w w' : World} (t : TurnIn 0 0 w w') {B o : Nat} {x : Bool} (h : w.frozen? ⟨B, o, none⟩ = x) (hB : B < w.heap.size) : w'.frozen? ⟨B, o, none⟩ = x := (t.to_below.frozen (p := ⟨B, o, none⟩) hB).trans h
end G294
namespace Go.Proofs.YtlkoafnlklhaeaaDoor
open Go.RowKit G294

set_option maxHeartbeats 1000000 in
theorem identity_own (n : Int) (w : World) : Calls Tryd.prog 105 #[.int .i64 n] w (RetMatOk 5 24 w (idR n) (idOk n)) := by
  have hb1 : Below w.heap.size w (w.alloc (.cells #[.slice none 0 0] 70)) := (Below.refl _ _).alloc (Nat.le_refl _) _
  by_cases h : goodI n = true
  · have HO := Lib.hid h
    have h2 : 1 ≤ n ∧ n ≤ 16 := by simpa [goodI] using h
    obtain ⟨m, rfl⟩ := Int.eq_ofNat_of_zero_le (show 0 ≤ n by omega)
    have HR : Hid (idR m = mkM m m idF) := by show idR m = _; unfold idR; rw [if_pos HO.out]; simp
    clear h
    go_enter Tryd.func105, Tryd.ntmps105
    go_wp2_with fail
    refine (goodSide_any _ _).mono ?_
    rintro e w' ⟨rfl, rfl⟩
    rw [HO.out]
    go_wp2_with fail
    refine (identityGridB m _ (by omega)).mono ?_
    rintro e w' ⟨v', vs', rfl, hM, ht⟩
    obtain ⟨A', n', c', rfl⟩ := hM.isSlice
    have hq := cell_turn ht (B := w.heap.size) (o := 0) (x := .slice none 0 0) (by simp) (by simp)
    have hqf := frozen_turn ht (B := w.heap.size) (o := 0) (x := false) (by simp) (by simp)
    have HF := Lib.hid (ret_store hb1 hM ht w.heap.size 0 (Nat.le_refl _) (by simp) (.slice A' n' c'))
    clear hM ht hb1
    go_wp2_with fail
    refine bodyPost_ret (v := .tuple #[.agg #[.slice A' n' c'], .bool true]) (by simp [results, Tryd.results105, go_sem, hq]) rfl ?_
    exact ⟨.slice A' n' c', vs', by show _ = Ending.returned (.tuple #[.agg #[.slice A' n' c'], .bool (idOk m)]); unfold idOk; rw [HO.out], by rw [HR.out]; exact HF.out.1, HF.out.2⟩
  · have HO : Hid (goodI n = false) := by show goodI n = false; simpa using h
    have HR : Hid (idR n = []) := if_neg h
    clear h
    go_enter Tryd.func105, Tryd.ntmps105
    go_wp2_with fail
    refine (goodSide_any _ _).mono ?_
    rintro e w' ⟨rfl, rfl⟩
    rw [HO.out]
    go_wp2_with fail
    refine bodyPost_ret (v := .tuple #[.agg #[.slice none 0 0], .bool false]) (by simp [results, Tryd.results105, go_sem]) rfl ?_
    exact ⟨_, [], by unfold idOk; rw [HO.out], by rw [HR.out]; exact OwnM.nil _ _ _ _, TurnIn.of_below hb1⟩

set_option maxRecDepth 100000 in
set_option maxHeartbeats 1000000 in
theorem transposed_own (v : Value) (L : Mat) (w : World) (hs : SeenM w v L) : Calls Tryd.prog 159 #[.agg #[v]] w (RetMatOk 5 24 w (transR L) (goodM L)) := by
  have hb0 : Below w.heap.size w (w.alloc (.cells #[v] 70)) := (Below.refl _ _).alloc (Nat.le_refl _) _
  have hb2 : Below w.heap.size w ((w.alloc (.cells #[v] 70)).alloc (.cells #[.slice none 0 0] 70)) := hb0.alloc (by simp) _
  have HS := Lib.hid (hs.below hb2)
  obtain ⟨A, c, rfl, hlc, hcm⟩ := hs.len
  have HB := Lib.hid hb2
  have hsz : ((w.alloc (.cells #[.slice A L.length c] 70)).alloc (.cells #[.slice none 0 0] 70)).heap.size = w.heap.size + 2 := by simp
  have HSZ := Lib.hid hsz
  clear hb0 hb2 hs hsz
  by_cases hg : goodM L = true
  · have HG := Lib.hid hg
    have HL := Lib.hid (good_eq hg)
    have HR : Hid (transR L = mkM (wid L) L.length fun i j => ent L j i) := if_pos hg
    have hgg := (goodM_iff L).1 hg
    obtain ⟨g1, g2, g3, g4, _⟩ := hgg
    clear hg
    go_enter Tryd.func159, Tryd.ntmps159
    go_wp2_with fail
    refine (igood_any _ L _ HS.out).mono ?_
    rintro e w3 ⟨rfl, k3⟩
    rw [HG.out]
    have q0 := cell_turn k3 (B := w.heap.size) (o := 0) (x := .slice A L.length c) (by simp) (by rw [HSZ.out]; omega)
    have K3 := Lib.hid k3
    have HB3 := Lib.hid (k3.base HB.out (by rw [HSZ.out]; omega) (by omega))
    have HS3 := Lib.hid (show SeenM w3 (.slice A L.length c) (mkM L.length (wid L) (ent L)) from HL.out ▸ HS.out.touch k3)
    clear k3
    go_wp2_with fail
    refine (turnedB L.length (wid L) (ent L) _ _ HS3.out g1 (by omega) (by omega)).mono ?_
    rintro e w4 ⟨v', vs', rfl, hM, ht⟩
    obtain ⟨A', n', c', rfl⟩ := hM.isSlice
    have hs3 := K3.out.size
    rw [HSZ.out] at hs3
    have hq := cell_turn ht (cell_turn K3.out (B := w.heap.size + 1) (o := 0) (x := .slice none 0 0) (by simp) (by rw [HSZ.out]; omega)) (by omega)
    have hqf := frozen_turn ht (frozen_turn K3.out (B := w.heap.size + 1) (o := 0) (x := false) (by simp) (by rw [HSZ.out]; omega)) (by omega)
    have HF := Lib.hid (ret_store HB3.out hM ht (w.heap.size + 1) 0 (by omega) (by omega) (.slice A' n' c'))
    clear hM ht
    go_wp2_with fail
    refine bodyPost_ret (v := .tuple #[.agg #[.slice A' n' c'], .bool true]) (by simp [results, Tryd.results159, go_sem, hq]) rfl ?_
    exact ⟨.slice A' n' c', vs', by rw [HG.out], by rw [HR.out]; exact HF.out.1, HF.out.2⟩
  · have HG : Hid (goodM L = false) := by show goodM L = false; simpa using hg
    have HR : Hid (transR L = []) := if_neg hg
    clear hg
    go_enter Tryd.func159, Tryd.ntmps159
    go_wp2_with fail
    refine (igood_any _ L _ HS.out).mono ?_
    rintro e w3 ⟨rfl, k3⟩
    rw [HG.out]
    have hq := cell_turn k3 (B := w.heap.size + 1) (o := 0) (x := .slice none 0 0) (by simp) (by rw [HSZ.out]; omega)
    have hqf := frozen_turn k3 (B := w.heap.size + 1) (o := 0) (x := false) (by simp) (by rw [HSZ.out]; omega)
    have HB3 := Lib.hid (k3.base HB.out (by rw [HSZ.out]; omega) (by omega))
    clear k3
    go_wp2_with fail
    refine bodyPost_ret (v := .tuple #[.agg #[.slice none 0 0], .bool false]) (by simp [results, Tryd.results159, go_sem, hq]) rfl ?_
    exact ⟨_, [], by rw [HG.out], by rw [HR.out]; exact OwnM.nil _ _ _ _, TurnIn.of_below (HB3.out.setCell (Nat.le_succ _) _)⟩

theorem vand_u8 (i j : Nat) (hi : i < 256) : ((vandF i j).toNat : Int) = (gp i j : Nat) := by
  unfold vandF; rw [UInt8.toNat_ofNat', Nat.mod_eq_of_lt (gp_lt hi j)]

theorem cau_u8 (c i j : Nat) (h1 : c + i < 256) (h2 : j < 256) : ((cauF c i j).toNat : Int) = (gi ((c + i) ^^^ j) : Nat) := by
  unfold cauF; rw [UInt8.toNat_ofNat', Nat.mod_eq_of_lt (gi_lt (xor_lt h1 h2))]

set_option maxHeartbeats 1000000 in
theorem cauAt (r c B : Nat) (w : World) (hr : r ≤ 16) (hc : c ≤ 16) (hB : B < w.heap.size) (hv : w.cell? ⟨B, 0, none⟩ = some (.int .i64 c)) (ht : Tab w) (h0 : 1 < w.heap.size) :
    GivesAt Tryd.prog 167 #[.pointer (some ⟨B, 0, none⟩)] r c (cauF c) w := by
  intro W i j hb hi hj
  have hv' := (hb.cell (p := ⟨B, 0, none⟩) hB).trans hv
  have htW : Tab W := ht.below hb h0
  have HV := Lib.hid (cau_u8 c i j (by omega) (by omega))
  have HX : Hid (bits BinOp.xor IntKind.u8 ((c : Int) + (i : Int)) (j : Int) = (((c + i) ^^^ j : Nat) : Int)) := by
    show bits BinOp.xor IntKind.u8 ((c : Int) + (i : Int)) (j : Int) = _
    rw [← Int.natCast_add]; exact u8_xor_nat (c + i) j (by omega) (by omega)
  clear ht hv
  go_enter Tryd.func167, Tryd.ntmps167
  go_wp2_with fail
  rw [HX.out]
  refine (inverse_any ((c + i) ^^^ j) (xor_lt (by omega) (by omega)) _ htW).mono ?_
  rintro e w' ⟨rfl, rfl⟩
  go_wp2_with fail
  go_ret
  exact ⟨by rw [HV.out]; rfl, 0, rfl⟩

set_option maxRecDepth 100000 in
set_option maxHeartbeats 1000000 in
theorem cauchy_own (n m : Int) (w : World) (ht : Tab w) (h0 : 1 < w.heap.size) :
    Calls Tryd.prog 109 #[.int .i64 n, .int .i64 m] w (RetMatOk 5 24 w (cauR n m) (sidesOk n m)) := by
  have hb0 : Below w.heap.size w (w.alloc (.cells #[.int .i64 m] 3)) := (Below.refl _ _).alloc (Nat.le_refl _) _
  have hb1 : Below w.heap.size w ((w.alloc (.cells #[.int .i64 m] 3)).alloc (.cells #[.slice none 0 0] 70)) := hb0.alloc (by simp) _
  have HT := Lib.hid (ht.below hb1 h0)
  have HOdef : Hid (sidesOk n m = (goodI n && goodI m)) := rfl
  clear ht hb0
  by_cases h : goodI n = true
  · have H1 := Lib.hid h
    by_cases h' : goodI m = true
    · have H2 := Lib.hid h'
      have HO : Hid (sidesOk n m = true) := by show sidesOk n m = true; rw [HOdef.out, h, h']; rfl
      have b1 : 1 ≤ n ∧ n ≤ 16 := by simpa [goodI] using h
      have b2 : 1 ≤ m ∧ m ≤ 16 := by simpa [goodI] using h'
      obtain ⟨r, rfl⟩ := Int.eq_ofNat_of_zero_le (show 0 ≤ n by omega)
      obtain ⟨c, rfl⟩ := Int.eq_ofNat_of_zero_le (show 0 ≤ m by omega)
      have HR : Hid (cauR r c = mkM r c (cauF c)) := by show cauR r c = _; unfold cauR; rw [if_pos HO.out]; simp
      have eg := enters_of Tryd.func167 (by kernel_rfl) rfl
      have HG := Lib.hid (cauAt r c w.heap.size _ (by omega) (by omega) (by simp; omega) (by simp) HT.out (by simp <;> omega))
      clear h h'
      go_enter Tryd.func109, Tryd.ntmps109
      go_wp2_with fail
      refine (goodSide_any _ _).mono ?_
      rintro e w' ⟨rfl, rfl⟩
      rw [H1.out]
      go_wp2_with fail
      refine (goodSide_any _ _).mono ?_
      rintro e w' ⟨rfl, rfl⟩
      rw [H2.out]
      go_wp2_with fail
      refine (newGridB r c _ _ _ _ eg HG.out (by omega) (by omega)).mono ?_
      rintro e w' ⟨v', vs', rfl, hM, ht⟩
      obtain ⟨A', n', c', rfl⟩ := hM.isSlice
      have hq := cell_turn ht (B := w.heap.size + 1) (o := 0) (x := .slice none 0 0) (by simp) (by simp)
      have hqf := frozen_turn ht (B := w.heap.size + 1) (o := 0) (x := false) (by simp) (by simp)
      have HF := Lib.hid (ret_store hb1 hM ht (w.heap.size + 1) 0 (Nat.le_succ _) (by simp) (.slice A' n' c'))
      clear hM ht hb1
      go_wp2_with fail
      refine bodyPost_ret (v := .tuple #[.agg #[.slice A' n' c'], .bool true]) (by simp [results, Tryd.results109, go_sem, hq]) rfl ?_
      exact ⟨.slice A' n' c', vs', by rw [HO.out], by rw [HR.out]; exact HF.out.1, HF.out.2⟩
    · have H2 : Hid (goodI m = false) := by show goodI m = false; simpa using h'
      have HO : Hid (sidesOk n m = false) := by show sidesOk n m = false; rw [HOdef.out, H2.out]; simp
      have HR : Hid (cauR n m = []) := if_neg (by rw [HO.out]; simp)
      clear h h'
      go_enter Tryd.func109, Tryd.ntmps109
      go_wp2_with fail
      refine (goodSide_any _ _).mono ?_
      rintro e w' ⟨rfl, rfl⟩
      rw [H1.out]
      go_wp2_with fail
      refine (goodSide_any _ _).mono ?_
      rintro e w' ⟨rfl, rfl⟩
      rw [H2.out]
      go_wp2_with fail
      refine bodyPost_ret (v := .tuple #[.agg #[.slice none 0 0], .bool false]) (by simp [results, Tryd.results109, go_sem]) rfl ?_
      exact ⟨_, [], by rw [HO.out], by rw [HR.out]; exact OwnM.nil _ _ _ _, TurnIn.of_below hb1⟩
  · have H1 : Hid (goodI n = false) := by show goodI n = false; simpa using h
    have HO : Hid (sidesOk n m = false) := by show sidesOk n m = false; rw [HOdef.out, H1.out]; simp
    have HR : Hid (cauR n m = []) := if_neg (by rw [HO.out]; simp)
    clear h
    go_enter Tryd.func109, Tryd.ntmps109
    go_wp2_with fail
    refine (goodSide_any _ _).mono ?_
    rintro e w' ⟨rfl, rfl⟩
    rw [H1.out]
    go_wp2_with fail
    refine bodyPost_ret (v := .tuple #[.agg #[.slice none 0 0], .bool false]) (by simp [results, Tryd.results109, go_sem]) rfl ?_
    exact ⟨_, [], by rw [HO.out], by rw [HR.out]; exact OwnM.nil _ _ _ _, TurnIn.of_below hb1⟩
end Go.Proofs.YtlkoafnlklhaeaaDoor
