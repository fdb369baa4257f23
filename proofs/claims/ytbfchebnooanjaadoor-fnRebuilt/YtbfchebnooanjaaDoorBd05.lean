/- Joined texts: Good, MatI, Elim, Comb, SpecRows, TailHeld, RowMath. -/
import Derived.Test.YtbfchebnooanjaaDoorBd02
import Derived.Deep.QuietTactic
import Derived.BigQuiet
import Derived.Deep.RegionHeld3
import Derived.Test.YtbfchebnooanjaaDoorBd04
import Derived.Test.YtbfchebnooanjaaDoorBd00
import Derived.BigRegion
import Derived.StillTailTactics
import Derived.Test.YtbfchebnooanjaaDoorBd03
import Derived.OrdersHeld
import Derived.StillTail
import Derived.Deep.RegionHeld
import Derived.Test.YtbfchebnooanjaaDoorBd01
set_option linter.unusedSimpArgs false
set_option linter.unusedVariables false
/- GoodMatrix, the program's and the model's. -/
namespace G294
theorem goodI_nat (n : Nat) : goodI (n : Int) = decide (1 ≤ n ∧ n ≤ 16) := by
  unfold goodI; rw [decide_eq_decide]; omega
theorem goodM_no1 {L : Mat} (h : goodI L.length = false) : goodM L = false := by
  rw [goodI_nat] at h; simp at h
  rw [Bool.eq_false_iff]; intro e
  have := (goodM_iff L).1 e
  omega
theorem goodM_no2 {L : Mat} (h : goodI (wid L) = false) : goodM L = false := by
  rw [goodI_nat] at h; simp at h
  rw [Bool.eq_false_iff]; intro e
  have := (goodM_iff L).1 e
  omega
theorem goodM_no3 {L : Mat} {k : Nat} (hk : k < L.length) (h : (L.getD k []).length ≠ wid L) : goodM L = false := by
  rw [Bool.eq_false_iff]; intro e
  exact h (((goodM_iff L).1 e).2.2.2.2 k hk)
theorem goodM_yes {L : Mat} (h1 : goodI L.length = true) (h2 : goodI (wid L) = true) (h : ∀ i, i < L.length → (L.getD i []).length = wid L) : goodM L = true := by
  rw [goodI_nat] at h1 h2; simp at h1 h2
  exact (goodM_iff L).2 ⟨h1.1, h1.2, h2.1, h2.2, h⟩
end G294
namespace Go.Proofs.YtbfchebnooanjaaDoor
open Go.RowKit G294

set_option maxHeartbeats 400000 in
theorem goodSide_any (n : Int) (w : World) : Calls Tryd.prog 100 #[.int .i64 n] w fun e w' => e = .returned (.bool (goodI n)) ∧ w = w' := by
  by_cases h1 : 1 ≤ n
  · have hd : decide (1 ≤ n) = true := by simpa using h1
    by_cases h2 : n ≤ 16
    · have HV : Hid (goodI n = true) := by show goodI n = true; simp [goodI, h1, h2]
      go_enter Tryd.func100, Tryd.ntmps100
      go_wp2_with fail
      go_ret
      exact ⟨by rw [HV.out]; simp [h2], rfl⟩
    · have HV : Hid (goodI n = false) := by show goodI n = false; simp [goodI, h2]
      go_enter Tryd.func100, Tryd.ntmps100
      go_wp2_with fail
      go_ret
      exact ⟨by rw [HV.out]; simp [h2], rfl⟩
  · have hd : decide (1 ≤ n) = false := by simpa using h1
    have HV : Hid (goodI n = false) := by show goodI n = false; simp [goodI, h1]
    go_enter Tryd.func100, Tryd.ntmps100
    go_wp2_with fail
    go_ret
    exact ⟨by rw [HV.out]; rfl, rfl⟩

theorem l1In_side (n : Int) (w : World) : Calls Tryd.prog 29 #[.int .i64 n, .int .i64 1, .int .i64 16] w fun e w' => e = .returned (.bool (goodI n)) ∧ w = w' := l1In_any n 1 16 w

set_option maxRecDepth 100000 in
set_option maxHeartbeats 1000000 in
theorem igood_any (v : Value) (L : Mat) (w : World) (hs : SeenM w v L) :
    Calls Tryd.prog 108 #[.agg #[v]] w (RetBool w (goodM L)) := by
  have hb1 : Below w.heap.size w (w.alloc (.cells #[v] 67)) := (Below.refl _ _).alloc (Nat.le_refl _) _
  have HB1 := Lib.hid (TurnIn.of_below hb1)
  obtain ⟨A, c, rfl, hlc, hcm⟩ := hs.len
  unfold maxLen at hcm
  by_cases h1 : goodI L.length = true
  · have H1 := Lib.hid h1
    have hn : 1 ≤ L.length ∧ L.length ≤ 16 := by rw [goodI_nat] at h1; simpa using h1
    have HSM := Lib.hid hs
    obtain ⟨bb, off, c', u0, hv, _, _, hbl, hc0, hs0⟩ := hs.row 0 (by omega)
    obtain ⟨rfl, rfl⟩ : A = some ⟨bb, off, none⟩ ∧ c = c' := by simpa using hv
    obtain ⟨A0, c0, rfl, hl0, hm0, _⟩ := hs0
    rw [bys_length] at hc0 hl0
    rw [Nat.add_zero] at hc0
    unfold maxLen at hm0
    have hw1 : (w.alloc (.cells #[.slice (some ⟨bb, off, none⟩) L.length c] 67)).cell? ⟨bb, off, none⟩ = some (.slice A0 (L.getD 0 []).length c0) := (hb1.cell (p := ⟨bb, off, none⟩) hbl).trans hc0
    have hbx : (w.alloc (.cells #[.slice (some ⟨bb, off, none⟩) L.length c] 67)).cell? ⟨w.heap.size, 0, none⟩ = some (.slice (some ⟨bb, off, none⟩) L.length c) := by simp
    have HBW := Lib.hid hb1
    have hpos : 0 < L.length := by omega
    have hne : bb ≠ w.heap.size := by omega
    have HW : Hid (wid L = (L.getD 0 []).length) := rfl
    clear hv h1 hb1 hs
    generalize hll : L.length = n at *
    generalize hww : (L.getD 0 []).length = n0 at *
    have HLL := Lib.hid hll
    have HWW := Lib.hid hww
    clear hll hww
    by_cases h2 : goodI n0 = true
    · have H2 := Lib.hid h2
      clear h2
      go_enter Tryd.func108, Tryd.ntmps108
      go_wp2_with fail
      refine (goodSide_any _ _).mono ?_
      rintro e w' ⟨rfl, rfl⟩
      rw [H1.out]
      go_wp2_with fail
      refine (goodSide_any _ _).mono ?_
      rintro e w' ⟨rfl, rfl⟩
      rw [H2.out]
      go_wp2_with fail
      generalize w.alloc (.cells #[.slice (some ⟨bb, off, none⟩) n c] 67) = w1 at *
      go_loop [22] (fun i => ∃ k : Nat, k ≤ n ∧ i = .int .i64 k ∧ Hid (∀ i, i < k → (L.getD i []).length = n0)) (fun i => n - (intOf i).toNat)
      case atStart => exact ⟨0, Nat.zero_le _, rfl, fun i h => by omega⟩
      case round =>
        obtain ⟨k, hk, rfl, HK⟩ := hrel
        by_cases hlt : k < n
        · have hki : (k : Int) < (n : Int) := by omega
          obtain ⟨bb2, off2, c2, uk, hv, _, _, hbl2, hck, ⟨Ak, ck, rfl, hlk, hmk, _⟩⟩ := HSM.out.row k (by rw [HLL.out]; exact hlt)
          simp only [Value.slice.injEq, Option.some.injEq, Addr.mk.injEq, and_true] at hv
          obtain ⟨⟨rfl, rfl⟩, _, rfl⟩ := hv
          rw [bys_length] at hck hlk
          have hck' := (HBW.out.cell (p := ⟨bb, off + k, none⟩) hbl2).trans hck
          clear hck
          unfold maxLen at hmk
          by_cases he : (L.getD k []).length = n0
          · have hbb : (((L.getD k []).length : Int) != (n0 : Int)) = false := by rw [he]; simp
            have HK2 : Hid (∀ i, i < k + 1 → (L.getD i []).length = n0) := fun i hi => by
              by_cases e : i = k
              · rw [e]; exact he
              · exact HK.out i (by omega)
            clear he
            generalize (L.getD k []).length = nk at *
            go_wp2_with fail
            go_round
            case rel => exact ⟨k + 1, by omega, by go_num, HK2⟩
            case measure => simp [intOf]; omega
          · have hbb : (((L.getD k []).length : Int) != (n0 : Int)) = true := bne_iff_ne.2 (fun e => he (Int.natCast_inj.1 e))
            have HF := Lib.hid (goodM_no3 (L := L) (k := k) (by rw [HLL.out]; exact hlt) (by rw [HW.out]; exact he))
            clear he
            generalize (L.getD k []).length = nk at *
            go_wp2_with fail
            go_ret
            exact ⟨by rw [HF.out]; rfl, HB1.out⟩
        · obtain rfl : k = n := by omega
          have hki : ¬ (k : Int) < (k : Int) := by omega
          have HF := Lib.hid (goodM_yes (L := L) (by rw [HLL.out]; exact H1.out) (by rw [HW.out]; exact H2.out) (fun i hi => by rw [HW.out]; exact HK.out i (by rw [← HLL.out]; exact hi)))
          go_wp2_with fail
          go_ret
          exact ⟨by rw [HF.out]; rfl, HB1.out⟩
    · have H2 : Hid (goodI n0 = false) := by show goodI n0 = false; simpa using h2
      have HF := Lib.hid (goodM_no2 (L := L) (by rw [HW.out]; exact H2.out))
      clear h2
      go_enter Tryd.func108, Tryd.ntmps108
      go_wp2_with fail
      refine (goodSide_any _ _).mono ?_
      rintro e w' ⟨rfl, rfl⟩
      rw [H1.out]
      go_wp2_with fail
      refine (goodSide_any _ _).mono ?_
      rintro e w' ⟨rfl, rfl⟩
      rw [H2.out]
      go_wp2_with fail
      go_ret
      exact ⟨by rw [HF.out]; rfl, HB1.out⟩
  · have H1 : Hid (goodI L.length = false) := by show goodI L.length = false; simpa using h1
    have HF := Lib.hid (goodM_no1 H1.out)
    clear h1 hs hb1
    generalize L.length = n at *
    go_enter Tryd.func108, Tryd.ntmps108
    go_wp2_with fail
    refine (goodSide_any _ _).mono ?_
    rintro e w' ⟨rfl, rfl⟩
    rw [H1.out]
    go_wp2_with fail
    go_ret
    exact ⟨by rw [HF.out]; rfl, HB1.out⟩

end Go.Proofs.YtbfchebnooanjaaDoor

/- The program's Identity, Transposed, Vandermonde and Cauchy. -/
namespace G294
open Go Go.RowKit
theorem turn_setCell (w : World) (B o : Nat) (x : Value) : TurnIn B (B + 1) w (w.setCell ⟨B, o, none⟩ x) :=
  ⟨rfl, rfl, rfl, by simp, fun k hk hd => heap_setCell_other w ⟨B, o, none⟩ k x (by intro e; simp at e; omega)⟩
theorem cell_set_other (w : World) {B B' : Nat} (o o' : Nat) (x : Value) (h : B ≠ B') : (w.setCell ⟨B, o, none⟩ x).cell? ⟨B', o', none⟩ = w.cell? ⟨B', o', none⟩ :=
  World.cell?_of_block (heap_setCell_other w ⟨B, o, none⟩ B' x (by intro e; simp at e; omega))
theorem frozen_set_other (w : World) {B B' : Nat} (o o' : Nat) (x : Value) (h : B ≠ B') : (w.setCell ⟨B, o, none⟩ x).frozen? ⟨B', o', none⟩ = w.frozen? ⟨B', o', none⟩ :=
  World.frozen?_of_block (heap_setCell_other w ⟨B, o, none⟩ B' x (by intro e; simp at e; omega))
/-- a result is stored into a variable that the call made ahead of it -/
theorem ret_store {E EE : TypeId} {w w1 w' : World} {v : Value} {L : Mat} {vs : List Value} (hb : Below w.heap.size w w1) (hM : OwnM E EE w' w1.heap.size w'.heap.size v L vs) (ht : TurnIn 0 0 w1 w') (B o : Nat) (h1 : w.heap.size ≤ B) (h2 : B < w1.heap.size) (x : Value) :
    OwnM E EE (w'.setCell ⟨B, o, none⟩ x) w.heap.size (w'.setCell ⟨B, o, none⟩ x).heap.size v L vs ∧ TurnIn 0 0 w (w'.setCell ⟨B, o, none⟩ x) := by
  have k := turn_setCell w' B o x
  have hs := k.size
  refine ⟨(hM.keep k (by omega)).wider (by have := hb.size; omega) hs (Nat.le_refl _), TurnIn.of_below ?_⟩
  have h3 : Below w.heap.size w w' := ht.base hb hb.size (by omega)
  exact h3.setCell h1 _
theorem cell_turn {w w' : World} (t : TurnIn 0 0 w w') {B o : Nat} {x : Value} (h : w.cell? ⟨B, o, none⟩ = some x) (hB : B < w.heap.size) : w'.cell? ⟨B, o, none⟩ = some x := (t.to_below.cell (p := ⟨B, o, none⟩) hB).trans h
theorem frozen_turn {w w' : World} (t : TurnIn 0 0 w w') {B o : Nat} {x : Bool} (h : w.frozen? ⟨B, o, none⟩ = x) (hB : B < w.heap.size) : w'.frozen? ⟨B, o, none⟩ = x := (t.to_below.frozen (p := ⟨B, o, none⟩) hB).trans h
end G294
namespace Go.Proofs.YtbfchebnooanjaaDoor
open Go.RowKit G294

set_option maxHeartbeats 1000000 in
theorem identity_own (n : Int) (w : World) : Calls Tryd.prog 81 #[.int .i64 n] w (RetMatOk 5 22 w (idR n) (idOk n)) := by
  have hb1 : Below w.heap.size w (w.alloc (.cells #[.slice none 0 0] 67)) := (Below.refl _ _).alloc (Nat.le_refl _) _
  by_cases h : goodI n = true
  · have HO := Lib.hid h
    have h2 : 1 ≤ n ∧ n ≤ 16 := by simpa [goodI] using h
    obtain ⟨m, rfl⟩ := Int.eq_ofNat_of_zero_le (show 0 ≤ n by omega)
    have HR : Hid (idR m = mkM m m idF) := by show idR m = _; unfold idR; rw [if_pos HO.out]; simp
    clear h
    go_enter Tryd.func81, Tryd.ntmps81
    go_wp2_with fail
    refine (goodSide_any _ _).mono ?_
    rintro e w' ⟨rfl, rfl⟩
    rw [HO.out]
    go_wp2_with fail
    refine (identityGridB m _ (by omega)).mono ?_
    rintro e w' ⟨v', vs', rfl, hM, ht⟩
    obtain ⟨A', n', c', rfl⟩ := hM.isSlice
    have hq := cell_turn ht (B := w.heap.size) (o := 0) (x := .slice none 0 0) (by simp) (by simp)
    have hqf := frozen_turn ht (B := w.heap.size) (o := 0) (x := false) (by simp) (by simp)
    have HF := Lib.hid (ret_store hb1 hM ht w.heap.size 0 (Nat.le_refl _) (by simp) (.slice A' n' c'))
    clear hM ht hb1
    go_wp2_with fail
    refine bodyPost_ret (v := .tuple #[.agg #[.slice A' n' c'], .bool true]) (by simp [results, Tryd.results81, go_sem, hq]) rfl ?_
    exact ⟨.slice A' n' c', vs', by show _ = Ending.returned (.tuple #[.agg #[.slice A' n' c'], .bool (idOk m)]); unfold idOk; rw [HO.out], by rw [HR.out]; exact HF.out.1, HF.out.2⟩
  · have HO : Hid (goodI n = false) := by show goodI n = false; simpa using h
    have HR : Hid (idR n = []) := if_neg h
    clear h
    go_enter Tryd.func81, Tryd.ntmps81
    go_wp2_with fail
    refine (goodSide_any _ _).mono ?_
    rintro e w' ⟨rfl, rfl⟩
    rw [HO.out]
    go_wp2_with fail
    refine bodyPost_ret (v := .tuple #[.agg #[.slice none 0 0], .bool false]) (by simp [results, Tryd.results81, go_sem]) rfl ?_
    exact ⟨_, [], by unfold idOk; rw [HO.out], by rw [HR.out]; exact OwnM.nil _ _ _ _, TurnIn.of_below hb1⟩

theorem vand_u8 (i j : Nat) (hi : i < 256) : ((vandF i j).toNat : Int) = (gp i j : Nat) := by
  unfold vandF; rw [UInt8.toNat_ofNat', Nat.mod_eq_of_lt (gp_lt hi j)]

theorem cau_u8 (c i j : Nat) (h1 : c + i < 256) (h2 : j < 256) : ((cauF c i j).toNat : Int) = (gi ((c + i) ^^^ j) : Nat) := by
  unfold cauF; rw [UInt8.toNat_ofNat', Nat.mod_eq_of_lt (gi_lt (xor_lt h1 h2))]

set_option maxHeartbeats 1000000 in
theorem cauAt (r c B : Nat) (w : World) (hr : r ≤ 16) (hc : c ≤ 16) (hB : B < w.heap.size) (hv : w.cell? ⟨B, 0, none⟩ = some (.int .i64 c)) (ht : Tab w) (h0 : 0 < w.heap.size) :
    GivesAt Tryd.prog 103 #[.pointer (some ⟨B, 0, none⟩)] r c (cauF c) w := by
  intro W i j hb hi hj
  have hv' := (hb.cell (p := ⟨B, 0, none⟩) hB).trans hv
  have htW : Tab W := ht.below hb h0
  have HV := Lib.hid (cau_u8 c i j (by omega) (by omega))
  have HX : Hid (bits BinOp.xor IntKind.u8 ((c : Int) + (i : Int)) (j : Int) = (((c + i) ^^^ j : Nat) : Int)) := by
    show bits BinOp.xor IntKind.u8 ((c : Int) + (i : Int)) (j : Int) = _
    rw [← Int.natCast_add]; exact u8_xor_nat (c + i) j (by omega) (by omega)
  clear ht hv
  go_enter Tryd.func103, Tryd.ntmps103
  go_wp2_with fail
  rw [HX.out]
  refine (inverse_any ((c + i) ^^^ j) (xor_lt (by omega) (by omega)) _ htW).mono ?_
  rintro e w' ⟨rfl, rfl⟩
  go_wp2_with fail
  go_ret
  exact ⟨by rw [HV.out]; rfl, 0, rfl⟩

set_option maxRecDepth 100000 in
set_option maxHeartbeats 1000000 in
theorem cauchy_own (n m : Int) (w : World) (ht : Tab w) (h0 : 0 < w.heap.size) :
    Calls Tryd.prog 82 #[.int .i64 n, .int .i64 m] w (RetMatOk 5 22 w (cauR n m) (sidesOk n m)) := by
  have hb0 : Below w.heap.size w (w.alloc (.cells #[.int .i64 m] 3)) := (Below.refl _ _).alloc (Nat.le_refl _) _
  have hb1 : Below w.heap.size w ((w.alloc (.cells #[.int .i64 m] 3)).alloc (.cells #[.slice none 0 0] 67)) := hb0.alloc (by simp) _
  have HT := Lib.hid (ht.below hb1 h0)
  have HOdef : Hid (sidesOk n m = (goodI n && goodI m)) := rfl
  clear ht hb0
  by_cases h : goodI n = true
  · have H1 := Lib.hid h
    by_cases h' : goodI m = true
    · have H2 := Lib.hid h'
      have HO : Hid (sidesOk n m = true) := by show sidesOk n m = true; rw [HOdef.out, h, h']; rfl
      have b1 : 1 ≤ n ∧ n ≤ 16 := by simpa [goodI] using h
      have b2 : 1 ≤ m ∧ m ≤ 16 := by simpa [goodI] using h'
      obtain ⟨r, rfl⟩ := Int.eq_ofNat_of_zero_le (show 0 ≤ n by omega)
      obtain ⟨c, rfl⟩ := Int.eq_ofNat_of_zero_le (show 0 ≤ m by omega)
      have HR : Hid (cauR r c = mkM r c (cauF c)) := by show cauR r c = _; unfold cauR; rw [if_pos HO.out]; simp
      have eg := enters_of Tryd.func103 (by kernel_rfl) rfl
      have HG := Lib.hid (cauAt r c w.heap.size _ (by omega) (by omega) (by simp; omega) (by simp) HT.out (by simp <;> omega))
      clear h h'
      go_enter Tryd.func82, Tryd.ntmps82
      go_wp2_with fail
      refine (goodSide_any _ _).mono ?_
      rintro e w' ⟨rfl, rfl⟩
      rw [H1.out]
      go_wp2_with fail
      refine (goodSide_any _ _).mono ?_
      rintro e w' ⟨rfl, rfl⟩
      rw [H2.out]
      go_wp2_with fail
      refine (newGridB r c _ _ _ _ eg HG.out (by omega) (by omega)).mono ?_
      rintro e w' ⟨v', vs', rfl, hM, ht⟩
      obtain ⟨A', n', c', rfl⟩ := hM.isSlice
      have hq := cell_turn ht (B := w.heap.size + 1) (o := 0) (x := .slice none 0 0) (by simp) (by simp)
      have hqf := frozen_turn ht (B := w.heap.size + 1) (o := 0) (x := false) (by simp) (by simp)
      have HF := Lib.hid (ret_store hb1 hM ht (w.heap.size + 1) 0 (Nat.le_succ _) (by simp) (.slice A' n' c'))
      clear hM ht hb1
      go_wp2_with fail
      refine bodyPost_ret (v := .tuple #[.agg #[.slice A' n' c'], .bool true]) (by simp [results, Tryd.results82, go_sem, hq]) rfl ?_
      exact ⟨.slice A' n' c', vs', by rw [HO.out], by rw [HR.out]; exact HF.out.1, HF.out.2⟩
    · have H2 : Hid (goodI m = false) := by show goodI m = false; simpa using h'
      have HO : Hid (sidesOk n m = false) := by show sidesOk n m = false; rw [HOdef.out, H2.out]; simp
      have HR : Hid (cauR n m = []) := if_neg (by rw [HO.out]; simp)
      clear h h'
      go_enter Tryd.func82, Tryd.ntmps82
      go_wp2_with fail
      refine (goodSide_any _ _).mono ?_
      rintro e w' ⟨rfl, rfl⟩
      rw [H1.out]
      go_wp2_with fail
      refine (goodSide_any _ _).mono ?_
      rintro e w' ⟨rfl, rfl⟩
      rw [H2.out]
      go_wp2_with fail
      refine bodyPost_ret (v := .tuple #[.agg #[.slice none 0 0], .bool false]) (by simp [results, Tryd.results82, go_sem]) rfl ?_
      exact ⟨_, [], by rw [HO.out], by rw [HR.out]; exact OwnM.nil _ _ _ _, TurnIn.of_below hb1⟩
  · have H1 : Hid (goodI n = false) := by show goodI n = false; simpa using h
    have HO : Hid (sidesOk n m = false) := by show sidesOk n m = false; rw [HOdef.out, H1.out]; simp
    have HR : Hid (cauR n m = []) := if_neg (by rw [HO.out]; simp)
    clear h
    go_enter Tryd.func82, Tryd.ntmps82
    go_wp2_with fail
    refine (goodSide_any _ _).mono ?_
    rintro e w' ⟨rfl, rfl⟩
    rw [H1.out]
    go_wp2_with fail
    refine bodyPost_ret (v := .tuple #[.agg #[.slice none 0 0], .bool false]) (by simp [results, Tryd.results82, go_sem]) rfl ?_
    exact ⟨_, [], by rw [HO.out], by rw [HR.out]; exact OwnM.nil _ _ _ _, TurnIn.of_below hb1⟩
end Go.Proofs.YtbfchebnooanjaaDoor

/- Elimination in place: pivotBelow, scaleRow, clearColumn, eliminate. -/
namespace Go.Proofs.YtbfchebnooanjaaDoor
open Go.RowKit G294

def pivV (o : Option Nat) : Value := match o with
  | none => .tuple #[.int .i64 0, .bool false]
  | some k => .tuple #[.int .i64 k, .bool true]

set_option maxRecDepth 100000 in
set_option maxHeartbeats 1000000 in
theorem pivotBelow_any (r c a j : Nat) (F : Ents) (v : Value) (w : World) (hs : SeenM w v (mkM r c F)) (hr1 : 1 ≤ r) (hr : r ≤ 1000) (hc : c ≤ 1000) (ha : a ≤ r) (hj : j < c) :
    Calls Tryd.prog 123 #[v, .int .i64 a, .int .i64 j] w fun e w' => e = .returned (pivV (piv F r a j)) ∧ w = w' := by
  have HS := Lib.hid hs
  obtain ⟨A, cp, hvv, _, _⟩ := hs.len
  rw [mkM_length] at hvv
  subst hvv
  clear hs
  go_enter Tryd.func123, Tryd.ntmps123
  go_wp2_with fail
  go_loop [9] (fun i => ∃ k : Nat, a ≤ k ∧ k ≤ r ∧ i = .int .i64 k ∧ Hid (∀ i, a ≤ i → i < k → F i j = 0)) (fun i => r - (intOf i).toNat)
  case atStart => exact ⟨a, Nat.le_refl _, ha, rfl, fun i h1 h2 => by omega⟩
  case round =>
    obtain ⟨k, hak, hk, rfl, HK⟩ := hrel
    by_cases hlt : k < r
    · have hki : (k : Int) < (r : Int) := by omega
      have hji : (j : Int) < (c : Int) := by omega
      obtain ⟨bb, off, cp5, b', off', c', e6, hl5, h5, h6, h7, hl6, h8⟩ := HS.out.cellF k j hlt hj
      simp only [Value.slice.injEq] at e6
      obtain ⟨rfl, z9, rfl⟩ := e6
      clear z9
      unfold maxLen at hl5 hl6
      by_cases h0 : F k j = 0
      · have hb : (((F k j).toNat : Int) != 0) = false := by rw [h0]; rfl
        have HK2 : Hid (∀ i, a ≤ i → i < k + 1 → F i j = 0) := fun i h1 h2 => by
          by_cases e : i = k
          · rw [e]; exact h0
          · exact HK.out i h1 (by omega)
        clear h0
        go_wp2_with fail
        go_round
        case rel => exact ⟨k + 1, by omega, by omega, by go_num, HK2⟩
        case measure => simp [intOf]; omega
      · have hb : (((F k j).toNat : Int) != 0) = true := by
          rw [bne_iff_ne]; intro e
          exact h0 (u8_ext (by simpa using e))
        have HP := Lib.hid (piv_some hak hlt h0 HK.out)
        clear h0
        go_wp2_with fail
        go_ret2
        exact ⟨by rw [HP.out]; rfl, rfl⟩
    · obtain rfl : k = r := by omega
      have hki : ¬ (k : Int) < (k : Int) := by omega
      have HP := Lib.hid (piv_none HK.out)
      go_wp2_with fail
      go_ret2
      exact ⟨by rw [HP.out]; rfl, rfl⟩

/-- row k turns in place -/
def RowTurn (E EE : TypeId) (w : World) (lo hi : Nat) (v : Value) (L : Mat) (vs : List Value) (e : Ending) (w' : World) : Prop := e = .returned (.tuple #[]) ∧ OwnM E EE w' lo hi v L vs ∧ TurnIn lo hi w w'

set_option maxRecDepth 100000 in
set_option maxHeartbeats 1000000 in
theorem scaleRow_any (r c k lo hi : Nat) (F : Ents) (s : UInt8) (v u : Value) (vs : List Value) (w : World) (hM : OwnM 127 142 w lo hi v (mkM r c F) vs) (hk : k < r) (hu : vs[k]? = some u) (hc1 : 1 ≤ c) (hc : c ≤ 1000) (ht : Tab w) (h0 : 0 < lo) :
    Calls Tryd.prog 124 #[u, .int .u8 (s.toNat : Int)] w (RowTurn 127 142 w lo hi v (mkM r c (scF k s F)) vs) := by
  obtain ⟨bb, cp, hu2, e1, e2, e3, e4, e5, hfz, hcell⟩ := hM.rowF k hk hc1
  obtain rfl : u = .slice (some ⟨bb, 0, none⟩) c cp := Option.some.inj (hu.symm.trans hu2)
  have HU := Lib.hid hu
  have HM0 := Lib.hid (hM.congr (L' := mkM r c fun i j => if i = k ∧ j < 0 then gmul s (F k j) else F i j) (mkM_congr fun i j _ _ => by simp))
  have HT := Lib.hid ht
  have hm1 := methTimes
  unfold maxLen at e5
  clear hM hu hu2 hfz hcell ht
  go_enter Tryd.func124, Tryd.ntmps124
  go_wp2_with fail
  go_loopw [7] (fun i wr => ∃ m : Nat, m ≤ c ∧ i = .int .i64 m ∧ Hid (OwnM 127 142 wr lo hi v (mkM r c fun i j => if i = k ∧ j < m then gmul s (F k j) else F i j) vs) ∧ Hid (TurnIn lo hi w wr)) (fun i _ => c - (intOf i).toNat)
  case atStart => exact ⟨0, Nat.zero_le _, rfl, HM0, Lib.hid ⟨rfl, rfl, rfl, Nat.le_refl _, fun _ _ _ => rfl⟩⟩
  case round =>
    obtain ⟨m, hm, rfl, HM, HK⟩ := hrel
    by_cases hlm : m < c
    · have hmi : (m : Int) < (c : Int) := by omega
      obtain ⟨bb', cp', hu2, f1, f2, f3, f4, f5, hfz, hcell⟩ := HM.out.rowF k hk hc1
      obtain ⟨rfl, rfl⟩ : bb = bb' ∧ cp = cp' := by simpa using HU.out.symm.trans hu2
      have hcx := hcell m hlm
      have e : (if k = k ∧ m < m then gmul s (F k m) else F k m) = F k m := if_neg (by omega)
      rw [e] at hcx
      have hfr := hfz m
      have htr : Tab wr := fun i hi => (World.cell?_of_block (HK.out.block 0 (by have := HM0.out.top; omega) (by omega))).trans (HT.out i hi)
      have HTR := Lib.hid htr
      have HM2 := Lib.hid ((HM.out.storeF (j := m) (x := gmul s (F k m)) hk HU.out).congr (L' := mkM r c fun i j => if i = k ∧ j < m + 1 then gmul s (F k j) else F i j) (mkM_congr fun i j _ _ => by
        by_cases a1 : i = k
        · subst a1
          by_cases a2 : j = m
          · subst a2; simp
          · by_cases a3 : j < m
            · simp [a2, a3]; omega
            · simp [a2, a3]; omega
        · simp [a1]))
      have HK2 := Lib.hid (turn_trans HK.out (turn_setCell wr bb m (.int .u8 ((gmul s (F k m)).toNat : Int))) (by omega))
      have HC := Lib.hid (gmul_comm (F k m) s)
      clear hcell hfz hu2 f3 f5 htr e
      go_wp2_with fail
      refine (fbTimes_any (F k m) s _ HTR.out).mono ?_
      rintro e w' ⟨rfl, rfl⟩
      rw [HC.out]
      go_wp2_with fail
      go_roundw
      case rel => exact ⟨m + 1, by omega, by go_num, HM2, HK2⟩
      case measure => simp [intOf]; omega
    · obtain rfl : m = c := by omega
      have hmi : ¬ (m : Int) < (m : Int) := by omega
      go_wp2_with fail
      go_end0
      exact ⟨rfl, HM.out.congr (mkM_congr fun i j _ hj => by
        unfold scF
        by_cases a1 : i = k
        · subst a1; simp [hj]
        · simp [a1]), HK.out⟩

theorem stilly {P : Program} {f : FuncId} {args : Array Value} {w : World} {v : Value} (h : Calls P f args w fun e w' => e = .returned v ∧ w = w') :
    Calls P f args w fun e w' => e = .returned v ∧ w' = w := h.mono fun _ _ ⟨he, hw⟩ => ⟨he, hw.symm⟩

/-- column j cleared in the rows ahead of k and in the first m columns of row k -/
def clK (a j k m : Nat) (F : Ents) : Ents := fun i jj => if i < k ∨ (i = k ∧ jj < m) then clF a (fun i => F i j) F i jj else F i jj

set_option maxRecDepth 100000 in
set_option maxHeartbeats 2000000 in
theorem clearColumn_any (r c a j lo hi : Nat) (F : Ents) (v : Value) (vs : List Value) (w : World) (hM : OwnM 127 142 w lo hi v (mkM r c F) vs) (ha : a < r) (hj : j < c) (hr : r ≤ 1000) (hc : c ≤ 1000) (ht : Tab w) (h0 : 0 < lo) :
    Calls Tryd.prog 125 #[v, .int .i64 a, .int .i64 j] w (RowTurn 127 142 w lo hi v (mkM r c (clF a (fun i => F i j) F)) vs) := by
  obtain ⟨g, cp, rfl, hg1, hg2, hg3, hg4⟩ := hM.sliceF (by omega)
  have HM0 := Lib.hid (hM.congr (L' := mkM r c (clK a j 0 0 F)) (mkM_congr fun i jj _ _ => by simp [clK]))
  have HT := Lib.hid ht
  have hm1 := methTimes
  have hm2 := methPlus
  unfold maxLen at hg4
  clear hM ht
  go_enter Tryd.func125, Tryd.ntmps125
  go_wp2_with fail
  go_loopw [11] (fun i wr => ∃ k : Nat, k ≤ r ∧ i = .int .i64 k ∧ Hid (OwnM 127 142 wr lo hi (.slice (some ⟨g, 0, none⟩) r cp) (mkM r c (clK a j k 0 F)) vs) ∧ Hid (TurnIn lo hi w wr)) (fun i _ => r - (intOf i).toNat)
  case atStart => exact ⟨0, Nat.zero_le _, rfl, HM0, Lib.hid ⟨rfl, rfl, rfl, Nat.le_refl _, fun _ _ _ => rfl⟩⟩
  case round =>
    obtain ⟨k, hk, rfl, HM, HK⟩ := hrel
    by_cases hlt : k < r
    · have hki : (k : Int) < (r : Int) := by omega
      by_cases hka : k = a
      · have hbb : ((k : Int) == (a : Int)) = true := by simp [hka]
        have HM2 := Lib.hid (HM.out.congr (L' := mkM r c (clK a j (k + 1) 0 F)) (mkM_congr fun i jj _ _ => by
          unfold clK
          by_cases a1 : i = k
          · subst a1; simp [clF, hka]
          · by_cases a2 : i < k
            · simp [a2, show i < k + 1 by omega]
            · simp [a1, a2, show ¬ i < k + 1 by omega]))
        clear hka
        go_wp2_with fail
        go_roundw
        case rel => exact ⟨k + 1, by omega, by go_num, HM2, HK⟩
        case measure => simp [intOf]; omega
      · have hbb : ((k : Int) == (a : Int)) = false := by simp; omega
        obtain ⟨bk, ck, huk, k1, k2, k3, k4, k5, kfz, kcell⟩ := HM.out.rowF k hlt (by omega)
        obtain ⟨ba, ca, hua, a1, a2, a3, a4, a5, afz, acell⟩ := HM.out.rowF a ha (by omega)
        have hck := HM.out.cellAt huk
        have hcf := kcell j hj
        have ef : clK a j k 0 F k j = F k j := by simp [clK]
        rw [ef] at hcf
        have hne : bk ≠ ba := fun e => hka ((HM.out.apart a _ ba hua rfl).2 k _ huk (by rw [e]; rfl))
        have HUK := Lib.hid huk
        have HUA := Lib.hid hua
        have n1 : g ≠ bk := fun e => k3 (by rw [e]; rfl)
        have n2 : g ≠ ba := fun e => a3 (by rw [e]; rfl)
        have hji : (j : Int) < (c : Int) := by omega
        unfold maxLen at k5 a5
        have HKA := Lib.hid hka
        clear kcell acell kfz afz huk hua k3 a3 ef hka
        go_wp2_with fail
        go_loopw [29] (fun i wq => ∃ m : Nat, m ≤ c ∧ i = .int .i64 m ∧ Hid (OwnM 127 142 wq lo hi (.slice (some ⟨g, 0, none⟩) r cp) (mkM r c (clK a j k m F)) vs) ∧ Hid (TurnIn lo hi w wq)) (fun i _ => c - (intOf i).toNat)
        case atStart => exact ⟨0, Nat.zero_le _, rfl, HM, HK⟩
        case round =>
          obtain ⟨m, hm, rfl, HM, HK⟩ := hrel
          clear hck hcf
          by_cases hlm : m < c
          · have hmi : (m : Int) < (c : Int) := by omega
            have hk0 : (0 : Int) ≤ (k : Int) := Int.natCast_nonneg _
            have hm0 : (0 : Int) ≤ (m : Int) := Int.natCast_nonneg _
            have ha0 : (0 : Int) ≤ (a : Int) := Int.natCast_nonneg _
            have hai : (a : Int) < (r : Int) := by omega
            obtain ⟨bk', ck', huk, _, _, _, _, _, kfz, kcell⟩ := HM.out.rowF k hlt (by omega)
            obtain ⟨rfl, rfl⟩ : bk = bk' ∧ ck = ck' := by simpa using HUK.out.symm.trans huk
            obtain ⟨ba', ca', hua, _, _, _, _, _, afz, acell⟩ := HM.out.rowF a ha (by omega)
            obtain ⟨rfl, rfl⟩ : ba = ba' ∧ ca = ca' := by simpa using HUA.out.symm.trans hua
            have hck := HM.out.cellAt HUK.out
            have hca := HM.out.cellAt HUA.out
            have hcx := kcell m hlm
            have hcy := acell m hlm
            have hfr := kfz m
            have ex : clK a j k m F k m = F k m := by simp [clK]
            have ey : clK a j k m F a m = F a m := by unfold clK clF; split <;> simp
            rw [ex] at hcx
            rw [ey] at hcy
            have htr : Tab wr := fun i hi => (World.cell?_of_block (HK.out.block 0 (by have := HM0.out.top; omega) (by omega))).trans (HT.out i hi)
            have htd : Tab wr.drew := htr
            have HTR := Lib.hid htd
            obtain ⟨y, hyy⟩ : ∃ y : UInt8, y = F k m ^^^ gmul (F k j) (F a m) := ⟨_, rfl⟩
            have HPL : Hid (∀ W, Calls Tryd.prog 144 #[.int .u8 ((F k m).toNat : Int), .int .u8 ((gmul (F k j) (F a m)).toNat : Int)] W fun e w' => e = .returned (.int .u8 (y.toNat : Int)) ∧ w' = W) := by
              intro W
              rw [hyy]
              exact stilly (fbPlus_any (F k m) (gmul (F k j) (F a m)) W)
            have HM2 := Lib.hid (((HM.out.storeF (j := m) (x := y) hlt HUK.out).congr (L' := mkM r c (clK a j k (m + 1) F)) (mkM_congr fun i jj _ _ => by
              unfold clK
              by_cases b1 : i = k
              · subst b1
                by_cases b2 : jj = m
                · subst b2
                  have : ¬ i = a := HKA.out
                  simp [clF, this, hyy]
                · by_cases b3 : jj < m
                  · simp [b2, b3, show jj < m + 1 by omega]
                  · simp [b2, b3, show ¬ jj < m + 1 by omega]
              · simp [b1])).drewN 1)
            have hk2 := turn_trans HK.out (turn_setCell wr bk m (.int .u8 (y.toNat : Int))) (by omega)
            have HK2 : Hid (TurnIn lo hi w (wr.setCell ⟨bk, m, none⟩ (.int .u8 (y.toNat : Int))).drew) := ⟨hk2.os, hk2.tape, hk2.output, hk2.size, hk2.block⟩
            clear kcell acell kfz afz huk hua ex ey htr htd hk2 hyy
            go_wp2_with fail
            refine wp_region_still_tail 25 (by kernel_rfl) (by kernel_rfl) ?_
            simp only [List.take_succ_cons, List.take_zero, List.drop_succ_cons, List.drop_zero]
            repeat (first | still_step | still_call (stilly (fbTimes_any (F k j) (F a m) _ HTR.out)) | still_call (HPL.out _))
            refine wpStill_nil ?_
            go_wp2_with fail
            go_roundw
            case rel => exact ⟨m + 1, by omega, by go_num, HM2, HK2⟩
            case measure => simp [intOf]; omega
          · obtain rfl : m = c := by omega
            have hmi : ¬ (m : Int) < (m : Int) := by omega
            go_wp2_with fail
            go_roundw
            case rel => exact ⟨k + 1, by omega, by go_num, Lib.hid (HM.out.congr (mkM_congr fun i jj _ hjj => by
              unfold clK
              by_cases b1 : i = k
              · subst b1; simp [hjj]
              · by_cases b2 : i < k
                · simp [b2, show i < k + 1 by omega]
                · simp [b1, b2, show ¬ i < k + 1 by omega])), HK⟩
            case measure => simp [intOf]; omega
    · obtain rfl : k = r := by omega
      have hki : ¬ (k : Int) < (k : Int) := by omega
      go_wp2_with fail
      go_end0
      exact ⟨rfl, HM.out.congr (mkM_congr fun i j hi _ => by simp [clK, hi]), HK.out⟩
end Go.Proofs.YtbfchebnooanjaaDoor

/- A row of a matrix by texts: the program's combined. -/
namespace G294
open Go Go.RowKit
/-- the product of a row and the bytes of texts -/
def combF (c : Nat) (f : Nat → UInt8) (T : List (List UInt8)) (p : Nat) : UInt8 := sumK c fun j => gmul (f j) (ent T j p)
def comb (c n : Nat) (f : Nat → UInt8) (T : List (List UInt8)) : List UInt8 := mkRow n (combF c f T)
theorem combF_succ (c : Nat) (f : Nat → UInt8) (T : List (List UInt8)) (p : Nat) : combF (c + 1) f T p = combF c f T p ^^^ gmul (f c) (ent T c p) := rfl
theorem str_get (t : List UInt8) (q : Nat) (h : q < (str t).size) : (str t)[q] = t.getD q 0 := by
  have h' : q < t.length := by rwa [str_size] at h
  show t.toArray[q]'(by simpa using h') = _
  simp [List.getD, h']
/-- one byte of a row of the call's own is stored -/
theorem OwnBytes.store {E : TypeId} {w : World} {lo hi g n cap q : Nat} {l l' : List UInt8} {x : UInt8} (h : OwnBytes E w lo hi (.slice (some ⟨g, 0, none⟩) n cap) l) (hn : l.length = n) (e : l.set q x = l') :
    OwnBytes E (w.setCell ⟨g, q, none⟩ (.int .u8 (x.toNat : Int))) lo hi (.slice (some ⟨g, 0, none⟩) n cap) l' := by
  have h1 := h.1
  rw [hn] at h1
  have hst := h1.stored q (.int .u8 (x.toNat : Int))
  refine ⟨?_, by simpa using h.2.1, h.2.2⟩
  have e2 : bys l' = (bys l).set q (.int .u8 (x.toNat : Int)) := by rw [← e]; simp [bys, List.map_set]
  have e3 : l'.length = n := by rw [← e]; simpa using hn
  rw [e2, e3]
  exact hst.1
theorem comb_step (n j q : Nat) (f : Nat → UInt8) (T : List (List UInt8)) : (mkRow n fun p => if p < q then combF (j + 1) f T p else combF j f T p).set q (combF (j + 1) f T q) = mkRow n fun p => if p < q + 1 then combF (j + 1) f T p else combF j f T p := by
  rw [mkRow_set]
  apply mkRow_congr
  intro p hp
  by_cases e : p = q
  · subst e; simp
  · rw [if_neg e]
    by_cases h2 : p < q
    · rw [if_pos h2, if_pos (by omega)]
    · rw [if_neg h2, if_neg (by omega)]
end G294
namespace Go.Proofs.YtbfchebnooanjaaDoor
open Go.RowKit G294

set_option maxRecDepth 100000 in
set_option maxHeartbeats 4000000 in
theorem combined_own (c n : Nat) (f : Nat → UInt8) (T : List (List UInt8)) (vr vt : Value) (w : World) (hr : Seen w vr (bys (mkRow c f))) (htx : Seen w vt (strs T)) (hc : T.length = c) (hc1 : 1 ≤ c) (hcc : c ≤ 1000)
    (hn : ∀ j, j < c → (T.getD j []).length = n) (hn2 : n ≤ 1000) (ht : Tab w) (h0 : 0 < w.heap.size) : Calls Tryd.prog 84 #[vr, vt] w (RetStr w (comb c n f T)) := by
  obtain ⟨i0, hi0, hz0, hz1, hz2⟩ := info_parts infoByte
  obtain ⟨A, cp, rfl, hlc, hcm, hx⟩ := hr
  obtain ⟨A', cp', rfl, hlc', hcm', hx'⟩ := htx
  simp only [bys_length, mkRow_length] at hlc hx ⊢
  rw [strs_length, hc] at hlc' hx'
  simp only [strs_length, hc]
  unfold maxLen at hcm hcm'
  obtain ⟨b, off, rfl, hbl, hcell⟩ := hx (by omega)
  obtain ⟨b', off', rfl, hbl', hcell'⟩ := hx' (by omega)
  have hrow : ∀ j, j < c → w.cell? ⟨b, off + j, none⟩ = some (.int .u8 ((f j).toNat : Int)) := fun j hj => by
    have := hcell j _ (bys_get _ j (by simpa using hj))
    rwa [mkRow_get] at this
  have htxt : ∀ j, j < c → w.cell? ⟨b', off' + j, none⟩ = some (.string (str (T.getD j []))) := fun j hj => by
    have := hcell' j _ (strs_get T j (by omega))
    rw [this]; simp [List.getD, show j < T.length by omega]
  have hc0 := htxt 0 (by omega)
  rw [Nat.add_zero] at hc0
  have hs0 : (str (T.getD 0 [])).size = n := by rw [str_size]; exact hn 0 (by omega)
  generalize T.getD 0 [] = t0 at hc0 hs0
  have HROW := Lib.hid hrow
  have HTXT := Lib.hid htxt
  have HNN := Lib.hid hn
  have HT := Lib.hid ht
  clear hcell hcell' hx hx' hrow htxt hn ht hc
  go_enter Tryd.func84, Tryd.ntmps84
  go_wp2_with (at_make; refine wpList_make_full _ rfl _ _ _ rfl w.heap.size _ i0 _ 1 Tryd.underlying22 hi0 hz0 hz1 _ _ _ _ n rfl rfl rfl rfl ?b2 ?b3 ?b4 ?_)
  case b2 => rw [hz2]; omega
  case b3 => unfold maxLen; omega
  case b4 => exact Nat.le_refl _
  intro w1 hown1 hg1
  have hb1 : Below w.heap.size w w1 := below_of_grown hg1 (Nat.le_refl _) (by simp)
  rw [toList_madeCells_one] at hown1
  have hO : OwnBytes 5 w1 w.heap.size w1.heap.size (.slice (some ⟨w.heap.size, 0, none⟩) n n) (mkRow n (combF 0 f T)) := by
    refine OwnBytes.of_made ?_
    rw [mkRow_length, bys_zero n (combF 0 f T) (fun _ _ => rfl)]; exact hown1
  clear hg1 hown1
  go_wp2_with fail
  go_loopw [16] (fun i wr => ∃ j : Nat, j ≤ c ∧ i = .int .i64 j ∧ OwnBytes 5 wr w.heap.size wr.heap.size (.slice (some ⟨w.heap.size, 0, none⟩) n n) (mkRow n (combF j f T)) ∧ Below w.heap.size w wr)
    (fun i _ => c - (intOf i).toNat)
  case atStart => exact ⟨0, Nat.zero_le _, rfl, hO, hb1⟩
  case round =>
    obtain ⟨j, hj, rfl, hO, hb⟩ := hrel
    clear hb1 hc0 hs0
    by_cases hlt : j < c
    · have hji : (j : Int) < (c : Int) := by omega
      have hct : wr.cell? ⟨b', off' + j, none⟩ = some (.string (str (T.getD j []))) := (hb.cell (p := ⟨b', off' + j, none⟩) hbl').trans (HTXT.out j hlt)
      have hst : (str (T.getD j [])).size = n := by rw [str_size]; exact HNN.out j hlt
      have HE : Hid (∀ p, ent T j p = (T.getD j []).getD p 0) := fun p => rfl
      generalize T.getD j [] = tj at hct hst HE
      have hO2 : OwnBytes 5 wr w.heap.size wr.heap.size (.slice (some ⟨w.heap.size, 0, none⟩) n n) (mkRow n fun p => if p < 0 then combF (j + 1) f T p else combF j f T p) := by simpa using hO
      clear hO
      go_wp2_with fail
      go_loopw [23] (fun i wq => ∃ q : Nat, q ≤ n ∧ i = .int .i64 q ∧ OwnBytes 5 wq w.heap.size wq.heap.size (.slice (some ⟨w.heap.size, 0, none⟩) n n) (mkRow n fun p => if p < q then combF (j + 1) f T p else combF j f T p) ∧ Below w.heap.size w wq)
        (fun i _ => n - (intOf i).toNat)
      case atStart => exact ⟨0, Nat.zero_le _, rfl, hO2, hb⟩
      case round =>
        obtain ⟨q, hq, rfl, hO, hbq⟩ := hrel
        clear hO2 hct hb
        by_cases hlq : q < n
        · have hqi : (q : Int) < (n : Int) := by omega
          have hcs := hO.cellAt (k := q) (by simpa using hlq)
          have hfr := hO.frozenAt q
          rw [mkRow_getD _ _ _ hlq, if_neg (by omega)] at hcs
          have hcr : wr.cell? ⟨b, off + j, none⟩ = some (.int .u8 ((f j).toNat : Int)) := (hbq.cell (p := ⟨b, off + j, none⟩) hbl).trans (HROW.out j hlt)
          obtain ⟨y, hy⟩ : ∃ y, y = tj.getD q 0 := ⟨_, rfl⟩
          have hsg := str_get tj q (by omega)
          rw [← hy] at hsg
          have HY : Hid (ent T j q = y) := (HE.out q).trans hy.symm
          clear hy
          have htq : Tab wr := HT.out.below hbq h0
          have HC := Lib.hid (stilly (times_u8 (f j) y wr.drew (show Tab wr.drew from htq)))
          have hxor : bits BinOp.xor IntKind.u8 ((combF j f T q).toNat : Int) ((gmul (f j) y).toNat : Int) = ((combF (j + 1) f T q).toNat : Int) := by
            rw [xor_u8, combF_succ, HY.out]
          have hO3 := (hO.store (q := q) (x := combF (j + 1) f T q) (by simp) (comb_step n j q f T))
          have hb3 : Below w.heap.size w (wr.setCell ⟨w.heap.size, q, none⟩ (.int .u8 ((combF (j + 1) f T q).toNat : Int))) := hbq.setCell (Nat.le_refl _) _
          have HO3 := Lib.hid hO3
          have hzz : (wr.setCell ⟨w.heap.size, q, none⟩ (.int .u8 ((combF (j + 1) f T q).toNat : Int))).heap.size = wr.heap.size := by simp
          clear htq hO3
          go_wp2_with fail
          refine wp_region_still_tail 14 (by kernel_rfl) (by kernel_rfl) ?_
          simp only [List.take_succ_cons, List.take_zero, List.drop_succ_cons, List.drop_zero]
          repeat (first | still_step | still_call (HC.out))
          refine wpStill_nil ?_
          go_wp2_with fail
          go_roundw
          case rel => exact ⟨q + 1, by omega, by go_num, by
            have h := HO3.out
            refine ⟨h.1, Nat.le_refl _, fun g e => ?_⟩
            have := h.2.2 g e
            show g < (wr.setCell ⟨w.heap.size, q, none⟩ (.int .u8 ((combF (j + 1) f T q).toNat : Int))).heap.size
            rw [hzz]; exact this, hb3.drew⟩
          case measure => simp [intOf]; omega
        · obtain rfl : q = n := by omega
          have hqi : ¬ (q : Int) < (q : Int) := by omega
          go_wp2_with fail
          go_roundw
          case rel => exact ⟨j + 1, by omega, by go_num, by
            have e : (mkRow q fun p => if p < q then combF (j + 1) f T p else combF j f T p) = mkRow q (combF (j + 1) f T) := mkRow_congr fun p hp => if_pos hp
            rw [e] at hO; exact hO, hbq⟩
          case measure => simp [intOf]; omega
    · obtain rfl : j = c := by omega
      have hji : ¬ (j : Int) < (j : Int) := by omega
      have hseen : Seen wr (.slice (some ⟨w.heap.size, 0, none⟩) n n) (bys (comb j n f T)) := hO.seen
      have hconv := run_string_seen (P := Tryd.prog) 22 5 9 Tryd.underlying22 Tryd.underlying5 Tryd.underlying9 hseen
      clear hO hseen
      go_wp2_with fail
      go_ret
      exact ⟨rfl, TurnIn.of_below hb⟩

end Go.Proofs.YtbfchebnooanjaaDoor

/- A matrix by texts: the model's l3Rows. -/
namespace G294
open Go Go.RowKit
/-- the texts that a matrix makes of texts -/
def rowsT (r c n : Nat) (F : Ents) (T : List (List UInt8)) : List (List UInt8) := mkM r n fun i => combF c (F i) T
@[simp] theorem rowsT_length (r c n : Nat) (F : Ents) (T : List (List UInt8)) : (rowsT r c n F T).length = r := by simp [rowsT]
theorem rowsT_succ (r c n : Nat) (F : Ents) (T : List (List UInt8)) : rowsT (r + 1) c n F T = rowsT r c n F T ++ [comb c n (F r) T] := by simp [rowsT, mkM, comb, List.range_succ]
end G294
namespace Go.Proofs.YtbfchebnooanjaaDoor
open Go.RowKit G294

set_option maxRecDepth 100000 in
set_option maxHeartbeats 4000000 in
theorem l3Rows_own (r c n : Nat) (F : Ents) (T : List (List UInt8)) (vm vt : Value) (w : World) (hm : SeenM w vm (mkM r c F)) (htx : Seen w vt (strs T)) (hc : T.length = c) (hc1 : 1 ≤ c) (hcc : c ≤ 1000) (hrr : r ≤ 1000)
    (hn : ∀ j, j < c → (T.getD j []).length = n) (hn2 : n ≤ 1000) : Calls Tryd.prog 30 #[.agg #[vm], vt] w (RetStrs 9 w (rowsT r c n F T)) := by
  obtain ⟨i0, hi0, hz0, hz1, hz2⟩ := info_parts infoByte
  have hb0 : Below w.heap.size w (w.alloc (.cells #[vm] 67)) := (Below.refl _ _).alloc (Nat.le_refl _) _
  have HM := Lib.hid hm
  obtain ⟨A0, cp0, rfl, hl0, hm0⟩ := hm.len
  rw [mkM_length] at hl0 HM hb0 ⊢
  obtain ⟨A', cp', rfl, hlc', hcm', hx'⟩ := htx
  rw [strs_length, hc] at hlc' hx'
  simp only [strs_length, hc]
  unfold maxLen at hm0 hcm'
  obtain ⟨b', off', rfl, hbl', hcell'⟩ := hx' (by omega)
  have htxt : ∀ j, j < c → w.cell? ⟨b', off' + j, none⟩ = some (.string (str (T.getD j []))) := fun j hj => by
    have := hcell' j _ (strs_get T j (by omega))
    rw [this]; simp [List.getD, show j < T.length by omega]
  have hc0 : w.cell? ⟨b', off', none⟩ = some (.string (str (T.getD 0 []))) := by
    have := htxt 0 (by omega)
    rwa [Nat.add_zero] at this
  have hs0 : (str (T.getD 0 [])).size = n := by rw [str_size]; exact hn 0 (by omega)
  generalize T.getD 0 [] = t0 at hc0 hs0
  have HTXT := Lib.hid htxt
  have HNN := Lib.hid hn
  clear hcell' hx' htxt hn hc hm
  go_enter Tryd.func30, Tryd.ntmps30
  go_wp2_with fail
  go_loopw [5, 15] (fun o i wr => ∃ k : Nat, k ≤ r ∧ i = .int .i64 k ∧ wr.ownsRow w.heap.size 9 1 o k (strs (rowsT k c n F T)) ∧ Below w.heap.size w wr)
    (fun _ i _ => r - (intOf i).toNat)
  case atStart => exact ⟨0, Nat.zero_le _, rfl, World.ownsRow_nil _ _ _ _, hb0⟩
  case round =>
    obtain ⟨k, hk, rfl, hown, hb⟩ := hrel
    clear hb0
    by_cases hlt : k < r
    · have hki : (k : Int) < (r : Int) := by omega
      obtain ⟨bb, off, c9, A1, c1, hvv, _, hbb, hcx, hc9, hsr⟩ := (HM.out.below hb).rowF k hlt
      simp only [Value.slice.injEq] at hvv
      obtain ⟨rfl, z9, rfl⟩ := hvv
      obtain ⟨A2, c2, hA2, hcc2, hcm2, hx2⟩ := hsr
      simp only [bys_length, mkRow_length] at hA2 hcc2 hx2
      obtain ⟨b, off2, hA3, hb2, hrow⟩ := hx2 (by omega)
      simp only [Value.slice.injEq] at hA2
      obtain ⟨rfl, _, rfl⟩ := hA2
      subst hA3
      have hcw0 : wr.cell? ⟨b', off', none⟩ = some (.string (str t0)) := (hb.cell (p := ⟨b', off', none⟩) hbl').trans hc0
      have HROW : Hid (∀ j, j < c → wr.cell? ⟨b, off2 + j, none⟩ = some (.int .u8 ((F k j).toNat : Int))) := fun j hj => by
        have := hrow j _ (bys_get _ j (by simpa using hj))
        rwa [mkRow_get] at this
      have hbs := hb.size
      unfold maxLen at hc9
      clear hrow hx2 z9
      go_wp2_with (at_make; refine wpList_make_full _ rfl _ _ _ rfl wr.heap.size _ i0 _ 1 Tryd.underlying22 hi0 hz0 hz1 _ _ _ _ n rfl rfl rfl rfl ?b2 ?b3 ?b4 ?_)
      case b2 => rw [hz2]; omega
      case b3 => unfold maxLen; omega
      case b4 => exact Nat.le_refl _
      intro w1 hown1 hg1
      rw [toList_madeCells_one] at hown1
      have k1 : TurnIn 0 0 wr w1 := TurnIn.of_grown hg1 (by simp)
      have hs1 : wr.heap.size < w1.heap.size := (hown1.lt wr.heap.size rfl).2
      have hO : OwnBytes 5 w1 wr.heap.size (wr.heap.size + 1) (.slice (some ⟨wr.heap.size, 0, none⟩) n n) (mkRow n (combF 0 (F k) T)) := by
        refine ⟨?_, hs1, fun g e => by simp [Value.ownBlock] at e; omega⟩
        rw [mkRow_length, bys_zero n (combF 0 (F k) T) (fun _ _ => rfl)]; exact hown1
      obtain ⟨B, hB⟩ : ∃ B, B = wr.heap.size := ⟨_, rfl⟩
      have hown' := owns_turn0 hown k1
      have hlo : ∀ g, Value.ownBlock u5 = some g → g < B := fun g e => by rw [hB]; exact (hown.lt g e).2
      have hbw1 : Below w.heap.size w w1 := k1.base hb (by omega) (by omega)
      have hrb : ∀ j, j < c → w1.cell? ⟨b, off2 + j, none⟩ = some (.int .u8 ((F k j).toNat : Int)) := fun j hj => cell_turn k1 (HROW.out j hj) (by omega)
      have hbB : b < B := by omega
      have hwB : w.heap.size ≤ B := by omega
      rw [← hB] at hO hs1 ⊢
      have HRB := Lib.hid hrb
      have HOWN := Lib.hid hown'
      have HLO := Lib.hid hlo
      clear hg1 hown1 hown hown' hlo hrb hcx hB k1 HROW hb hcw0 hb2
      go_wp2_with fail
      go_loopw [26] (fun i wq => ∃ j : Nat, j ≤ c ∧ i = .int .i64 j ∧ OwnBytes 5 wq B (B + 1) (.slice (some ⟨B, 0, none⟩) n n) (mkRow n (combF j (F k) T)) ∧ TurnIn B (B + 1) w1 wq)
        (fun i _ => c - (intOf i).toNat)
      case atStart => exact ⟨0, Nat.zero_le _, rfl, hO, ⟨rfl, rfl, rfl, Nat.le_refl _, fun _ _ _ => rfl⟩⟩
      case round =>
        obtain ⟨j, hj, rfl, hOj, hk1⟩ := hrel
        clear hO
        by_cases hltj : j < c
        · have hji : (j : Int) < (c : Int) := by omega
          have hcr : wr.cell? ⟨b, off2 + j, none⟩ = some (.int .u8 ((F k j).toNat : Int)) := (World.cell?_of_block (hk1.block b (by omega) (by omega))).trans (HRB.out j hltj)
          have hO2 : OwnBytes 5 wr B (B + 1) (.slice (some ⟨B, 0, none⟩) n n) (mkRow n fun p => if p < 0 then combF (j + 1) (F k) T p else combF j (F k) T p) := by simpa using hOj
          have hst : (str (T.getD j [])).size = n := by rw [str_size]; exact HNN.out j hltj
          have HE : Hid (∀ p, ent T j p = (T.getD j []).getD p 0) := fun p => rfl
          have hct0 := HTXT.out j hltj
          generalize T.getD j [] = tj at hct0 hst HE
          have hs9 := hk1.size
          clear hOj
          go_wp2_with fail
          go_loopw [33] (fun i wq => ∃ q : Nat, q ≤ n ∧ i = .int .i64 q ∧ OwnBytes 5 wq B (B + 1) (.slice (some ⟨B, 0, none⟩) n n) (mkRow n fun p => if p < q then combF (j + 1) (F k) T p else combF j (F k) T p) ∧ TurnIn B (B + 1) w1 wq)
            (fun i _ => n - (intOf i).toNat)
          case atStart => exact ⟨0, Nat.zero_le _, rfl, hO2, hk1⟩
          case round =>
            obtain ⟨q, hq, rfl, hO, hkq⟩ := hrel
            clear hO2 hcr hk1
            by_cases hlq : q < n
            · have hqi : (q : Int) < (n : Int) := by omega
              have hcs := hO.cellAt (k := q) (by simpa using hlq)
              have hfr := hO.frozenAt q
              rw [mkRow_getD _ _ _ hlq, if_neg (by omega)] at hcs
              have hct : wr.cell? ⟨b', off' + j, none⟩ = some (.string (str tj)) := (World.cell?_of_block (hkq.block b' (by omega) (by omega))).trans ((hbw1.cell (p := ⟨b', off' + j, none⟩) hbl').trans hct0)
              obtain ⟨y, hy⟩ : ∃ y, y = tj.getD q 0 := ⟨_, rfl⟩
              have hsg := str_get tj q (by omega)
              rw [← hy] at hsg
              have HY : Hid (ent T j q = y) := (HE.out q).trans hy.symm
              have HC := Lib.hid (stilly (l1Times_u8 (F k j) y wr.drew))
              have hxor : bits BinOp.xor IntKind.u8 ((combF j (F k) T q).toNat : Int) ((gmul (F k j) y).toNat : Int) = ((combF (j + 1) (F k) T q).toNat : Int) := by
                rw [xor_u8, combF_succ, HY.out]
              have HO3 := Lib.hid (hO.store (q := q) (x := combF (j + 1) (F k) T q) (by simp) (comb_step n j q (F k) T))
              have hk3 : TurnIn B (B + 1) w1 (wr.setCell ⟨B, q, none⟩ (.int .u8 ((combF (j + 1) (F k) T q).toNat : Int))) := turn_trans hkq (turn_setCell wr B q _) (by omega)
              have HK3 : Hid (TurnIn B (B + 1) w1 (wr.setCell ⟨B, q, none⟩ (.int .u8 ((combF (j + 1) (F k) T q).toNat : Int))).drew) := ⟨hk3.os, hk3.tape, hk3.output, hk3.size, hk3.block⟩
              clear hy hk3
              go_wp2_with fail
              refine wp_region_still_tail 14 (by kernel_rfl) (by kernel_rfl) ?_
              simp only [List.take_succ_cons, List.take_zero, List.drop_succ_cons, List.drop_zero]
              repeat (first | still_step | still_call (HC.out))
              refine wpStill_nil ?_
              go_wp2_with fail
              go_roundw
              case rel => exact ⟨q + 1, by omega, by go_num, HO3.out, HK3.out⟩
              case measure => simp [intOf]; omega
            · obtain rfl : q = n := by omega
              have hqi : ¬ (q : Int) < (q : Int) := by omega
              go_wp2_with fail
              go_roundw
              case rel => exact ⟨j + 1, by omega, by go_num, by
                have e : (mkRow q fun p => if p < q then combF (j + 1) (F k) T p else combF j (F k) T p) = mkRow q (combF (j + 1) (F k) T) := mkRow_congr fun p hp => if_pos hp
                rw [e] at hO; exact hO, hkq⟩
              case measure => simp [intOf]; omega
        · obtain rfl : j = c := by omega
          have hji : ¬ (j : Int) < (j : Int) := by omega
          have hseen : Seen wr (.slice (some ⟨B, 0, none⟩) n n) (bys (comb j n (F k) T)) := hOj.seen
          have hconv := run_string_seen (P := Tryd.prog) 22 5 9 Tryd.underlying22 Tryd.underlying5 Tryd.underlying9 hseen
          have hs9 := hk1.size
          have hown2 := owns_turn (hi := B) HOWN.out HLO.out hk1 (by omega)
          have hb5 : Below w.heap.size w wr := hk1.base hbw1 (by omega) (by omega)
          clear hOj hseen
          go_wp2_with (at_builtin; refine wpList_append1 rfl _ _ _ rfl w.heap.size 9 _ _ Tryd.underlying35 infoStr rfl _ k _ rfl (hown2.alloc _) wr.heap.size (.string (str (comb j n (F k) T))) rfl ?c1 rfl ?c2 ?c3 ?c4 ?_)
          case c2 => omega
          case c4 => first | omega | (simp; omega)
          intro v' w' hown' hg' _
          have hb' : Below w.heap.size w w' := below_append (hb5.alloc (by omega) _) (hown2.alloc _) hg' (Nat.le_refl _) (by simp; omega)
          have hown3 : w'.ownsRow w.heap.size 9 1 v' (k + 1) (strs (rowsT (k + 1) j n F T)) := by
            rw [rowsT_succ, strs_append]; exact hown'
          clear hown' hg'
          go_wp2_with fail
          go_roundw
          case rel => exact ⟨k + 1, by omega, by go_num, hown3, hb'⟩
          case measure => simp [intOf]; omega
    · obtain rfl : k = r := by omega
      have hki : ¬ (k : Int) < (k : Int) := by omega
      go_wp2_with fail
      go_ret
      exact ⟨_, rfl, OwnStrs.of_made (by simpa using hown), TurnIn.of_below hb⟩

end Go.Proofs.YtbfchebnooanjaaDoor

/- Regions that draw their order and end in one operation that waits for all others: behind it nothing is asked of the cells that the loads read. -/
namespace G294
open Go Go.RowKit
section
variable {P : Program} {md : Region.Mode} {ops : Array Oper} {Q : Exit → Act → World → Prop} {S : World → Prop} {L : Nat}
/-- whatever comes up next; behind each operation but the last, L, S holds -/
def wpAnyT (P : Program) (md : Region.Mode) (ops : Array Oper) (Q : Exit → Act → World → Prop) (S : World → Prop) (L : Nat) : Nat → Array Bool → Act → World → Prop
  | 0, listed, a, w => Region.ready md ops listed = [] ∧ Q .normal a w
  | fuel + 1, listed, a, w =>
    (Region.ready md ops listed = [] → Q .normal a w) ∧
    ∀ i ∈ Region.ready md ops listed, wpOp P ops Q i (fun a' w' => (i ≠ L → S w') ∧ wpAnyT P md ops Q S L fuel (listed.setIfInBounds i true) a' w') a w
theorem wpAny_of_T : ∀ (fuel : Nat) (listed : Array Bool) (a : Act) (w : World), wpAnyT P md ops Q S L fuel listed a w → wpAny P md ops Q fuel listed a w
  | 0, _, _, _, h => h
  | fuel + 1, _, _, _, h => ⟨h.1, fun i hi => wpOp_mono (fun a' w' h' => wpAny_of_T fuel _ a' w' h'.2) (h.2 i hi)⟩
theorem not_ready {i j : Nat} {listed : Array Bool} (hw : Region.waitsFor md ops j i = true) (hi : i ∈ Region.ready md ops listed) : j ∉ Region.ready md ops listed := fun hj => by
  obtain ⟨oj, hoj, e, he, hb, hon⟩ := Region.waitsFor_spec hw
  obtain ⟨_, oj', hoj', hall⟩ := mem_ready.1 hj
  obtain rfl : oj' = oj := Option.some.inj (hoj'.symm.trans hoj)
  have h1 := hall e he hb
  have h0 := (mem_ready.1 hi).1
  rw [hon] at h1
  rcases Nat.lt_or_ge i listed.size with h' | h'
  · simp [h'] at h0 h1; rw [h0] at h1; cases h1
  · simp [Array.getElem?_eq_none h'] at h1
theorem wpAnyT_first {i : Nat} {oi : Oper} {v : Value} (hi : ops[i]? = some oi) (hsel : ∀ (j : Nat) (o : Oper) cs b, ops[j]? = some o → o.op ≠ .select cs b)
    (hQ : ∀ c a w, Q (.panic c) (a.put oi.dst v) w → Q (.panic c) a w) (hwl : Region.waitsFor md ops L i = true) :
    ∀ (fuel : Nat) (listed : Array Bool) (a : Act) (w : World),
      (∀ j oj, ops[j]? = some oj → j ≠ i → listed.getD j true = false → (∀ e ∈ oj.after, Region.binds md e = true → e.on ≠ i) → oi.apart ops oj = true) →
      i ∈ Region.ready md ops listed → YieldsIf P ops S oi v a → S w →
      wpAnyT P md ops Q S L fuel (listed.setIfInBounds i true) (a.put oi.dst v) w → wpAnyT P md ops Q S L (fuel + 1) listed a w := by
  intro fuel
  induction fuel with
  | zero =>
    intro listed a w _ hr hy hS H
    refine ⟨fun h => (by rw [h] at hr; cases hr), fun j hj => ?_⟩
    by_cases hji : j = i
    · subst hji; exact hy.wpOp hi hS ⟨fun _ => hS, H⟩
    · have h5 := ready_mono hj hji
      rw [H.1] at h5
      cases h5
  | succ fuel ih =>
    intro listed a w hfree hr hy hS H
    refine ⟨fun h => (by rw [h] at hr; cases hr), fun j hj => ?_⟩
    by_cases hji : j = i
    · subst hji; exact hy.wpOp hi hS ⟨fun _ => hS, H⟩
    · have hjL : j ≠ L := fun e => not_ready hwl hr (e ▸ hj)
      obtain ⟨hjun, oj, hoj, hall⟩ := mem_ready.1 hj
      have hnot : ∀ e ∈ oj.after, Region.binds md e = true → e.on ≠ i := fun e he hb heq => by
        have h1 := hall e he hb
        have h0 := (mem_ready.1 hr).1
        rw [heq] at h1
        rcases Nat.lt_or_ge i listed.size with h' | h'
        · simp [h'] at h0 h1; rw [h0] at h1; cases h1
        · simp [Array.getElem?_eq_none h'] at h1
      have h2 := wpOp_putIf hoj (hfree j oj hoj hji hjun hnot) (fun cs b => hsel i oi cs b hi) (fun cs b => hsel j oj cs b hoj) hQ hy (H.2 j (ready_mono hj hji))
      refine wpOp_mono (fun a' w' h3 => ⟨h3.2.1, ih (listed.setIfInBounds j true) a' w' (fun k ok hk hki hun hno => ?_) (ready_mono hr (Ne.symm hji)) h3.1 (h3.2.1 hjL) ?_⟩) h2
      · refine hfree k ok hk hki ?_ hno
        by_cases hjk : j = k
        · subst hjk; exact hjun
        · rw [getD_set_ne true hjk] at hun; exact hun
      · rw [Array.setIfInBounds_comm _ _ hji]
        exact h3.2.2
theorem wpAnyT_take {i : Nat} {oi : Oper} {v : Value} {fuel : Nat} {listed : Array Bool} {a : Act} {w : World} (hi : ops[i]? = some oi)
    (hs : Region.noSelect ops = true) (hf : Region.free md ops listed i = true) (hr : (Region.ready md ops listed).contains i = true) (hwl : Region.waitsFor md ops L i = true)
    (hQ : ∀ c a w, Q (.panic c) (a.put oi.dst v) w → Q (.panic c) a w) (hy : YieldsIf P ops S oi v a) (hS : S w)
    (h : wpAnyT P md ops Q S L fuel (listed.setIfInBounds i true) (a.put oi.dst v) w) : wpAnyT P md ops Q S L (fuel + 1) listed a w :=
  wpAnyT_first hi (Region.noSelect_spec hs) hQ hwl fuel listed a w (Region.free_spec hi hf) (by simpa using hr) hy hS h
/-- one operation alone may come up -/
theorem wpAnyT_one {i : Nat} {o : Oper} {fuel : Nat} {listed : Array Bool} {a : Act} {w : World} (ho : ops[i]? = some o) (hr : Region.ready md ops listed = [i])
    (h : ∀ K' : Act → World → Prop, Shut (∀ a w, (i ≠ L → S w) → wpAnyT P md ops Q S L fuel (listed.setIfInBounds i true) a w → K' a w) → if Region.wanted o (yielded ops a.tmps) = true then Oper.wp P o a w K' Q else K' (a.put o.dst undef) w) :
    wpAnyT P md ops Q S L (fuel + 1) listed a w :=
  ⟨fun h0 => (by rw [hr] at h0; cases h0), fun j hj => by
    rw [hr] at hj
    obtain rfl : j = i := by simpa using hj
    exact wpOp_step ho (fun K' hK => h K' (fun a w hS hW => hK a w ⟨hS, hW⟩))⟩
theorem wpAnyT_done {listed : Array Bool} {a : Act} {w : World} (hr : Region.ready md ops listed = []) (h : Q .normal a w) : ∀ fuel, wpAnyT P md ops Q S L fuel listed a w
  | 0 => ⟨hr, h⟩
  | _ + 1 => ⟨fun _ => h, by rw [hr]; simp⟩
theorem wp_region_tail {id : Nat} {a : Act} {w : World} (S : World → Prop) (L : Nat) (hm : P.follows .mixedOrders = true)
    (h : wpAnyT P .any ops Q S L ops.size (Array.replicate ops.size false) a w.drew) : (Code.region id ops true).wp P Q a w :=
  wp_region_any hm (wpAny_of_T _ _ _ _ h)
end
end G294

/- The row of a node of a regenerating code. -/
namespace G294
def powB (x : UInt8) (e : Nat) : UInt8 := UInt8.ofNat (gp x.toNat e)
theorem powB_toNat (x : UInt8) (e : Nat) : (powB x e).toNat = gp x.toNat e := by
  unfold powB; rw [UInt8.toNat_ofNat']; exact Nat.mod_eq_of_lt (gp_lt x.toNat_lt e)
theorem gmul_one_left (x : UInt8) : gmul 1 x = x := by
  apply UInt8.toNat_inj.1
  rw [gmul_toNat]
  exact gm_one_left x.toNat_lt
/-- a factor times the first powers of x -/
def pRow (x : UInt8) (a : Nat) (f : UInt8) : List UInt8 := mkRow a fun e => gmul f (powB x e)
def pRows (x : UInt8) (a : Nat) (fs : List UInt8) : List UInt8 := (fs.map (pRow x a)).flatten
/-- the number of a node and its factor -/
def nodX (i : Nat) : UInt8 := powB 3 (i + 1)
def nodF (i a : Nat) : UInt8 := powB (nodX i) a
def shortL (a i : Nat) : List UInt8 := mkRow a (powB (nodX i))
def rowL (a i : Nat) : List UInt8 := shortL a i ++ scaleL (nodF i a) (shortL a i)
@[simp] theorem shortL_length (a i : Nat) : (shortL a i).length = a := by simp [shortL]
@[simp] theorem rowL_length (a i : Nat) : (rowL a i).length = a + a := by simp [rowL, scaleL]
theorem pRow_one (x : UInt8) (a : Nat) : pRow x a 1 = mkRow a (powB x) := mkRow_congr fun j _ => gmul_one_left _
theorem pRow_scale (x : UInt8) (a : Nat) (f : UInt8) : pRow x a f = scaleL f (mkRow a (powB x)) := by simp [pRow, scaleL, mkRow]
theorem pRows_one (a i : Nat) : pRows (nodX i) a [1] = shortL a i := by simp [pRows, pRow_one, shortL]
theorem pRows_two (a i : Nat) : pRows (nodX i) a [1, nodF i a] = rowL a i := by
  have e : pRows (nodX i) a [1, nodF i a] = pRow (nodX i) a 1 ++ pRow (nodX i) a (nodF i a) := by simp [pRows]
  rw [e, pRow_one, pRow_scale]; rfl
theorem pRows_take (x : UInt8) (a : Nat) (fs : List UInt8) (k : Nat) (hk : k < fs.length) : pRows x a (fs.take (k + 1)) = pRows x a (fs.take k) ++ pRow x a fs[k] := by
  rw [List.take_succ_eq_append_getElem hk]; simp only [pRows, List.map_append, List.flatten_append]; simp
theorem pRows_length (x : UInt8) (a : Nat) (fs : List UInt8) : (pRows x a fs).length = fs.length * a := by
  induction fs with
  | nil => simp [pRows]
  | cons f fs ih =>
    have e : pRows x a (f :: fs) = pRow x a f ++ pRows x a fs := by simp [pRows]
    rw [e, List.length_append, ih, List.length_cons, Nat.succ_mul]
    simp [pRow]; omega
theorem mkRow_succ (n : Nat) (f : Nat → UInt8) : mkRow (n + 1) f = mkRow n f ++ [f n] := by simp [mkRow, List.range_succ]
end G294
