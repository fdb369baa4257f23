/- Joined texts: Turned, Good, MatI, Boxes, Msr, MsgMath, SpecBlank. -/
import Derived.Test.YtbopocpmodpfcaaDoorBd03
import Derived.Test.YtbopocpmodpfcaaDoorBd01
import Derived.Test.YtbopocpmodpfcaaDoorBd02
import Derived.Deep.QuietTactic
import Derived.BigQuiet
import Derived.Deep.RegionHeld3
import Derived.Test.YtbopocpmodpfcaaDoorBd00
import Derived.Deep.OwnRows
import Derived.Deep.RegionLaw
set_option linter.unusedSimpArgs false
set_option linter.unusedVariables false
/- turned and identityGrid, on bytes and on field bytes. -/
namespace Go.Proofs.YtbopocpmodpfcaaDoor
open Go.RowKit G294

end Go.Proofs.YtbopocpmodpfcaaDoor

/- GoodMatrix, the program's and the model's. -/
namespace G294
theorem goodI_nat (n : Nat) : goodI (n : Int) = decide (1 ≤ n ∧ n ≤ 16) := by
  unfold goodI; rw [decide_eq_decide]; omega
theorem goodM_no1 {L : Mat} (h : goodI L.length = false) : goodM L = false := by
  rw [goodI_nat] at h; simp at h
  rw [Bool.eq_false_iff]; intro e
  have := (goodM_iff L).1 e
  omega
theorem goodM_no2 {L : Mat} (h : goodI (wid L) = false) : goodM L = false := by
  rw [goodI_nat] at h; simp at h
  rw [Bool.eq_false_iff]; intro e
  have := (goodM_iff L).1 e
  omega
theorem goodM_no3 {L : Mat} {k : Nat} (hk : k < L.length) (h : (L.getD k []).length ≠ wid L) : goodM L = false := by
  rw [Bool.eq_false_iff]; intro e
  exact h (((goodM_iff L).1 e).2.2.2.2 k hk)
theorem goodM_yes {L : Mat} (h1 : goodI L.length = true) (h2 : goodI (wid L) = true) (h : ∀ i, i < L.length → (L.getD i []).length = wid L) : goodM L = true := by
  rw [goodI_nat] at h1 h2; simp at h1 h2
  exact (goodM_iff L).2 ⟨h1.1, h1.2, h2.1, h2.2, h⟩
end G294
namespace Go.Proofs.YtbopocpmodpfcaaDoor
open Go.RowKit G294

set_option maxHeartbeats 400000 in
theorem goodSide_any (n : Int) (w : World) : Calls Tryd.prog 65 #[.int .i64 n] w fun e w' => e = .returned (.bool (goodI n)) ∧ w = w' := by
  by_cases h1 : 1 ≤ n
  · have hd : decide (1 ≤ n) = true := by simpa using h1
    by_cases h2 : n ≤ 16
    · have HV : Hid (goodI n = true) := by show goodI n = true; simp [goodI, h1, h2]
      go_enter Tryd.func65, Tryd.ntmps65
      go_wp2_with fail
      go_ret
      exact ⟨by rw [HV.out]; simp [h2], rfl⟩
    · have HV : Hid (goodI n = false) := by show goodI n = false; simp [goodI, h2]
      go_enter Tryd.func65, Tryd.ntmps65
      go_wp2_with fail
      go_ret
      exact ⟨by rw [HV.out]; simp [h2], rfl⟩
  · have hd : decide (1 ≤ n) = false := by simpa using h1
    have HV : Hid (goodI n = false) := by show goodI n = false; simp [goodI, h1]
    go_enter Tryd.func65, Tryd.ntmps65
    go_wp2_with fail
    go_ret
    exact ⟨by rw [HV.out]; rfl, rfl⟩

theorem l1In_side (n : Int) (w : World) : Calls Tryd.prog 73 #[.int .i64 n, .int .i64 1, .int .i64 16] w fun e w' => e = .returned (.bool (goodI n)) ∧ w = w' := l1In_any n 1 16 w

set_option maxRecDepth 100000 in
set_option maxHeartbeats 1000000 in
theorem igood_any (v : Value) (L : Mat) (w : World) (hs : SeenM w v L) :
    Calls Tryd.prog 127 #[.agg #[v]] w (RetBool w (goodM L)) := by
  have hb1 : Below w.heap.size w (w.alloc (.cells #[v] 39)) := (Below.refl _ _).alloc (Nat.le_refl _) _
  have HB1 := Lib.hid (TurnIn.of_below hb1)
  obtain ⟨A, c, rfl, hlc, hcm⟩ := hs.len
  unfold maxLen at hcm
  by_cases h1 : goodI L.length = true
  · have H1 := Lib.hid h1
    have hn : 1 ≤ L.length ∧ L.length ≤ 16 := by rw [goodI_nat] at h1; simpa using h1
    have HSM := Lib.hid hs
    obtain ⟨bb, off, c', u0, hv, _, _, hbl, hc0, hs0⟩ := hs.row 0 (by omega)
    obtain ⟨rfl, rfl⟩ : A = some ⟨bb, off, none⟩ ∧ c = c' := by simpa using hv
    obtain ⟨A0, c0, rfl, hl0, hm0, _⟩ := hs0
    rw [bys_length] at hc0 hl0
    rw [Nat.add_zero] at hc0
    unfold maxLen at hm0
    have hw1 : (w.alloc (.cells #[.slice (some ⟨bb, off, none⟩) L.length c] 39)).cell? ⟨bb, off, none⟩ = some (.slice A0 (L.getD 0 []).length c0) := (hb1.cell (p := ⟨bb, off, none⟩) hbl).trans hc0
    have hbx : (w.alloc (.cells #[.slice (some ⟨bb, off, none⟩) L.length c] 39)).cell? ⟨w.heap.size, 0, none⟩ = some (.slice (some ⟨bb, off, none⟩) L.length c) := by simp
    have HBW := Lib.hid hb1
    have hpos : 0 < L.length := by omega
    have hne : bb ≠ w.heap.size := by omega
    have HW : Hid (wid L = (L.getD 0 []).length) := rfl
    clear hv h1 hb1 hs
    generalize hll : L.length = n at *
    generalize hww : (L.getD 0 []).length = n0 at *
    have HLL := Lib.hid hll
    have HWW := Lib.hid hww
    clear hll hww
    by_cases h2 : goodI n0 = true
    · have H2 := Lib.hid h2
      clear h2
      go_enter Tryd.func127, Tryd.ntmps127
      go_wp2_with fail
      refine (goodSide_any _ _).mono ?_
      rintro e w' ⟨rfl, rfl⟩
      rw [H1.out]
      go_wp2_with fail
      refine (goodSide_any _ _).mono ?_
      rintro e w' ⟨rfl, rfl⟩
      rw [H2.out]
      go_wp2_with fail
      generalize w.alloc (.cells #[.slice (some ⟨bb, off, none⟩) n c] 39) = w1 at *
      go_loop [22] (fun i => ∃ k : Nat, k ≤ n ∧ i = .int .i64 k ∧ Hid (∀ i, i < k → (L.getD i []).length = n0)) (fun i => n - (intOf i).toNat)
      case atStart => exact ⟨0, Nat.zero_le _, rfl, fun i h => by omega⟩
      case round =>
        obtain ⟨k, hk, rfl, HK⟩ := hrel
        by_cases hlt : k < n
        · have hki : (k : Int) < (n : Int) := by omega
          obtain ⟨bb2, off2, c2, uk, hv, _, _, hbl2, hck, ⟨Ak, ck, rfl, hlk, hmk, _⟩⟩ := HSM.out.row k (by rw [HLL.out]; exact hlt)
          simp only [Value.slice.injEq, Option.some.injEq, Addr.mk.injEq, and_true] at hv
          obtain ⟨⟨rfl, rfl⟩, _, rfl⟩ := hv
          rw [bys_length] at hck hlk
          have hck' := (HBW.out.cell (p := ⟨bb, off + k, none⟩) hbl2).trans hck
          clear hck
          unfold maxLen at hmk
          by_cases he : (L.getD k []).length = n0
          · have hbb : (((L.getD k []).length : Int) != (n0 : Int)) = false := by rw [he]; simp
            have HK2 : Hid (∀ i, i < k + 1 → (L.getD i []).length = n0) := fun i hi => by
              by_cases e : i = k
              · rw [e]; exact he
              · exact HK.out i (by omega)
            clear he
            generalize (L.getD k []).length = nk at *
            go_wp2_with fail
            go_round
            case rel => exact ⟨k + 1, by omega, by go_num, HK2⟩
            case measure => simp [intOf]; omega
          · have hbb : (((L.getD k []).length : Int) != (n0 : Int)) = true := bne_iff_ne.2 (fun e => he (Int.natCast_inj.1 e))
            have HF := Lib.hid (goodM_no3 (L := L) (k := k) (by rw [HLL.out]; exact hlt) (by rw [HW.out]; exact he))
            clear he
            generalize (L.getD k []).length = nk at *
            go_wp2_with fail
            go_ret
            exact ⟨by rw [HF.out]; rfl, HB1.out⟩
        · obtain rfl : k = n := by omega
          have hki : ¬ (k : Int) < (k : Int) := by omega
          have HF := Lib.hid (goodM_yes (L := L) (by rw [HLL.out]; exact H1.out) (by rw [HW.out]; exact H2.out) (fun i hi => by rw [HW.out]; exact HK.out i (by rw [← HLL.out]; exact hi)))
          go_wp2_with fail
          go_ret
          exact ⟨by rw [HF.out]; rfl, HB1.out⟩
    · have H2 : Hid (goodI n0 = false) := by show goodI n0 = false; simpa using h2
      have HF := Lib.hid (goodM_no2 (L := L) (by rw [HW.out]; exact H2.out))
      clear h2
      go_enter Tryd.func127, Tryd.ntmps127
      go_wp2_with fail
      refine (goodSide_any _ _).mono ?_
      rintro e w' ⟨rfl, rfl⟩
      rw [H1.out]
      go_wp2_with fail
      refine (goodSide_any _ _).mono ?_
      rintro e w' ⟨rfl, rfl⟩
      rw [H2.out]
      go_wp2_with fail
      go_ret
      exact ⟨by rw [HF.out]; rfl, HB1.out⟩
  · have H1 : Hid (goodI L.length = false) := by show goodI L.length = false; simpa using h1
    have HF := Lib.hid (goodM_no1 H1.out)
    clear h1 hs hb1
    generalize L.length = n at *
    go_enter Tryd.func127, Tryd.ntmps127
    go_wp2_with fail
    refine (goodSide_any _ _).mono ?_
    rintro e w' ⟨rfl, rfl⟩
    rw [H1.out]
    go_wp2_with fail
    go_ret
    exact ⟨by rw [HF.out]; rfl, HB1.out⟩

end Go.Proofs.YtbopocpmodpfcaaDoor

/- The program's Identity, Transposed, Vandermonde and Cauchy. -/
namespace G294
open Go Go.RowKit
theorem turn_setCell (w : World) (B o : Nat) (x : Value) : TurnIn B (B + 1) w (w.setCell ⟨B, o, none⟩ x) :=
  ⟨rfl, rfl, rfl, by simp, fun k hk hd => heap_setCell_other w ⟨B, o, none⟩ k x (by intro e; simp at e; omega)⟩
theorem cell_set_other (w : World) {B B' : Nat} (o o' : Nat) (x : Value) (h : B ≠ B') : (w.setCell ⟨B, o, none⟩ x).cell? ⟨B', o', none⟩ = w.cell? ⟨B', o', none⟩ :=
  World.cell?_of_block (heap_setCell_other w ⟨B, o, none⟩ B' x (by intro e; simp at e; omega))
theorem frozen_set_other (w : World) {B B' : Nat} (o o' : Nat) (x : Value) (h : B ≠ B') : (w.setCell ⟨B, o, none⟩ x).frozen? ⟨B', o', none⟩ = w.frozen? ⟨B', o', none⟩ :=
  World.frozen?_of_block (heap_setCell_other w ⟨B, o, none⟩ B' x (by intro e; simp at e; omega))
/-- a result is stored into a variable that the call made ahead of it -/
theorem ret_store {E EE : TypeId} {w w1 w' : World} {v : Value} {L : Mat} {vs : List Value} (hb : Below w.heap.size w w1) (hM : OwnM E EE w' w1.heap.size w'.heap.size v L vs) (ht : TurnIn 0 0 w1 w') (B o : Nat) (h1 : w.heap.size ≤ B) (h2 : B < w1.heap.size) (x : Value) :
    OwnM E EE (w'.setCell ⟨B, o, none⟩ x) w.heap.size (w'.setCell ⟨B, o, none⟩ x).heap.size v L vs ∧ TurnIn 0 0 w (w'.setCell ⟨B, o, none⟩ x) := by
  have k := turn_setCell w' B o x
  have hs := k.size
  refine ⟨(hM.keep k (by omega)).wider (by have := hb.size; omega) hs (Nat.le_refl _), TurnIn.of_below ?_⟩
  have h3 : Below w.heap.size w w' := ht.base hb hb.size (by omega)
  exact h3.setCell h1 _
theorem cell_turn {w w' : World} (t : TurnIn 0 0 w w') {B o : Nat} {x : Value} (h : w.cell? ⟨B, o, none⟩ = some x) (hB : B < w.heap.size) : w'.cell? ⟨B, o, none⟩ = some x := (t.to_below.cell (p := ⟨B, o, none⟩) hB).trans h
theorem frozen_turn {w w' : World} (t : TurnIn 0 0 w w') {B o : Nat} {x : Bool} (h : w.frozen? ⟨B, o, none⟩ = x) (hB : B < w.heap.size) : w'.frozen? ⟨B, o, none⟩ = x := (t.to_below.frozen (p := ⟨B, o, none⟩) hB).trans h
end G294
namespace Go.Proofs.YtbopocpmodpfcaaDoor
open Go.RowKit G294

theorem vand_u8 (i j : Nat) (hi : i < 256) : ((vandF i j).toNat : Int) = (gp i j : Nat) := by
  unfold vandF; rw [UInt8.toNat_ofNat', Nat.mod_eq_of_lt (gp_lt hi j)]

theorem cau_u8 (c i j : Nat) (h1 : c + i < 256) (h2 : j < 256) : ((cauF c i j).toNat : Int) = (gi ((c + i) ^^^ j) : Nat) := by
  unfold cauF; rw [UInt8.toNat_ofNat', Nat.mod_eq_of_lt (gi_lt (xor_lt h1 h2))]
end Go.Proofs.YtbopocpmodpfcaaDoor

/- Struct variables of a law: blocks of one cell, kept; sizes of results. -/
namespace G294
open Go Go.RowKit
theorem box_keep {w w' : World} {B a b : Nat} {x : Value} (h : w.cell? ⟨B, 0, none⟩ = some x) (hl : B < w.heap.size) (t : TurnIn a b w w') (d : B < a ∨ b ≤ B) : w'.cell? ⟨B, 0, none⟩ = some x :=
  (World.cell?_of_block (t.block B hl d)).trans h
theorem alloc_cell (w : World) (v : Value) (T : TypeId) : (w.alloc (.cells #[v] T)).cell? ⟨w.heap.size, 0, none⟩ = some v := by simp
theorem alloc_lt (w : World) (o : Obj) : w.heap.size < (w.alloc o).heap.size := by rw [World.size_alloc]; omega
theorem undrew {w w' : World} {a b : Nat} (t : TurnIn a b w.drew w') : TurnIn a b w w' := ⟨t.os, t.tape, t.output, t.size, t.block⟩
theorem transR_siz (m : Mat) : sizM (transR m) ≤ 256 := by
  unfold transR; split
  · rename_i h; have := (goodM_iff m).1 h; exact Nat.le_trans (Nat.le_trans (sizM_le_mul _ m.length (fun i hi => by rw [mkM_getD _ _ _ _ (by simpa using hi)]; simp)) (by rw [mkM_length]; exact Nat.mul_le_mul (show wid m ≤ 16 by omega) (show m.length ≤ 16 by omega))) (by omega)
  · simp [sizM]
theorem sizM_mkM (r c : Nat) (F : Ents) : sizM (mkM r c F) ≤ r * c := by
  have := sizM_le_mul (mkM r c F) c (fun i hi => by rw [mkM_getD _ _ _ _ (by simpa using hi)]; simp)
  simpa using this
theorem sizM_side {r c : Nat} (F : Ents) (hr : r ≤ 16) (hc : c ≤ 16) : sizM (mkM r c F) ≤ 256 := Nat.le_trans (sizM_mkM r c F) (Nat.mul_le_mul hr hc)
theorem idR_siz (n : Int) : sizM (idR n) ≤ 256 := by
  unfold idR; split
  · rename_i h; simp [goodI] at h; exact sizM_side _ (by omega) (by omega)
  · simp [sizM]
theorem sides_b {r c : Int} (h : sidesOk r c = true) : r.toNat ≤ 16 ∧ c.toNat ≤ 16 := by
  simp [sidesOk, goodI] at h; omega
theorem vandR_siz (r c : Int) : sizM (vandR r c) ≤ 256 := by
  unfold vandR; split
  · rename_i h; exact sizM_side _ (sides_b h).1 (sides_b h).2
  · simp [sizM]
theorem cauR_siz (r c : Int) : sizM (cauR r c) ≤ 256 := by
  unfold cauR; split
  · rename_i h; exact sizM_side _ (sides_b h).1 (sides_b h).2
  · simp [sizM]
theorem LieM.isSlice {w : World} {lo hi : Nat} {v : Value} {L : Mat} (h : LieM w lo hi v L) : ∃ A n c, v = .slice A n c := by
  obtain ⟨A, c, e, _⟩ := h.seen.len
  exact ⟨A, _, c, e⟩
end G294

/- Regenerating codes: which are valid, and their sizes, on both sides; the conversion of a code. -/
namespace G294
open Go Go.RowKit
/-- a code of n nodes, k of which suffice -/
abbrev msrV (n k : Int) : Value := .agg #[.int .i64 n, .int .i64 k]
def msrOk (n k : Int) : Bool := decide (2 ≤ k ∧ k ≤ 4) && decide (2 * k - 1 ≤ n ∧ n ≤ 14)
theorem msrOk_b {n k : Int} (h : msrOk n k = true) : (2 ≤ k ∧ k ≤ 4) ∧ 2 * k - 1 ≤ n ∧ n ≤ 14 := by simpa [msrOk] using h
theorem msrOk_k {n k : Int} (h : msrOk n k = true) : k = 2 ∨ k = 3 ∨ k = 4 := by have := msrOk_b h; omega
def msrA (n k : Int) : Int := if msrOk n k = true then k - 1 else 0
def msrD (n k : Int) : Int := if msrOk n k = true then 2 * (k - 1) else 0
def msrB (n k : Int) : Int := if msrOk n k = true then k * (k - 1) else 0
theorem msrA_yes {n k : Int} (h : msrOk n k = true) : msrA n k = k - 1 := if_pos h
theorem msrD_yes {n k : Int} (h : msrOk n k = true) : msrD n k = 2 * (k - 1) := if_pos h
theorem msrB_yes {n k : Int} (h : msrOk n k = true) : msrB n k = k * (k - 1) := if_pos h
theorem msrA_no {n k : Int} (h : msrOk n k = false) : msrA n k = 0 := if_neg (by rw [h]; simp)
theorem msrD_no {n k : Int} (h : msrOk n k = false) : msrD n k = 0 := if_neg (by rw [h]; simp)
theorem msrB_no {n k : Int} (h : msrOk n k = false) : msrB n k = 0 := if_neg (by rw [h]; simp)
theorem alloc_duo0 (w : World) (x y : Value) (T : TypeId) : (w.alloc (.cells #[x, y] T)).cell? ⟨w.heap.size, 0, none⟩ = some x := by simp
theorem alloc_duo1 (w : World) (x y : Value) (T : TypeId) : (w.alloc (.cells #[x, y] T)).cell? ⟨w.heap.size, 1, none⟩ = some y := by simp
def RetSizes (w : World) (a d b : Int) (ok : Bool) (e : Ending) (w' : World) : Prop := e = .returned (.tuple #[.int .i64 a, .int .i64 d, .int .i64 b, .bool ok]) ∧ TurnIn 0 0 w w'
end G294
namespace Go.Proofs.YtbopocpmodpfcaaDoor
open Go.RowKit G294

end Go.Proofs.YtbopocpmodpfcaaDoor

/- The message matrix of a regenerating code: two symmetric matrices, each filled from a triangle of bytes. -/
namespace G294
/-- where row p of a triangle of side a begins -/
def off (a : Nat) : Nat → Nat
  | 0 => 0
  | p + 1 => off a p + (a - p)
def tix (a p q : Nat) : Nat := off a p + (q - p)
theorem off_mono (a p : Nat) : ∀ d, off a p ≤ off a (p + d)
  | 0 => Nat.le_refl _
  | d + 1 => Nat.le_trans (off_mono a p d) (Nat.le_add_right _ _)
theorem tix_lt {a p q : Nat} (h1 : p ≤ q) (h2 : q < a) : tix a p q < off a a := by
  have h := off_mono a (p + 1) (a - (p + 1))
  rw [show p + 1 + (a - (p + 1)) = a by omega] at h
  have : off a (p + 1) = off a p + (a - p) := rfl
  unfold tix
  omega
/-- the entry of the symmetric matrix whose triangle lies in l from b on -/
def symF (a : Nat) (l : List UInt8) (b : Nat) : Ents := fun i j => l.getD (b + tix a (min i j) (max i j)) 0
/-- .. after the rows before p, and in row p the columns before q -/
def symP (a : Nat) (l : List UInt8) (b p q : Nat) : Ents := fun i j => if min i j < p ∨ (min i j = p ∧ max i j < q) then symF a l b i j else 0
theorem symP_zero (a : Nat) (l : List UInt8) (b i j : Nat) : symP a l b 0 0 i j = 0 := by unfold symP; rw [if_neg (by omega)]
theorem symP_row {a : Nat} {l : List UInt8} {b p i j : Nat} (hi : i < a) (hj : j < a) : symP a l b p a i j = symP a l b (p + 1) (p + 1) i j := by
  unfold symP
  by_cases h : min i j < p ∨ (min i j = p ∧ max i j < a)
  · rw [if_pos h, if_pos (by omega)]
  · rw [if_neg h, if_neg (by omega)]
theorem symP_all {a : Nat} {l : List UInt8} {b i j : Nat} (hi : i < a) (hj : j < a) : symP a l b a a i j = symF a l b i j := by
  unfold symP; rw [if_pos (by omega)]
theorem symP_step (a : Nat) (l : List UInt8) (b p q : Nat) (hpq : p ≤ q) (i j : Nat) :
    (if i = q ∧ j = p then l.getD (b + tix a p q) 0 else if i = p ∧ j = q then l.getD (b + tix a p q) 0 else symP a l b p q i j) = symP a l b p (q + 1) i j := by
  by_cases h1 : i = q ∧ j = p
  · obtain ⟨rfl, rfl⟩ := h1
    rw [if_pos ⟨rfl, rfl⟩]
    unfold symP
    rw [if_pos (by omega)]
    unfold symF
    rw [show min i j = j by omega, show max i j = i by omega]
  · rw [if_neg h1]
    by_cases h2 : i = p ∧ j = q
    · obtain ⟨rfl, rfl⟩ := h2
      rw [if_pos ⟨rfl, rfl⟩]
      unfold symP
      rw [if_pos (by omega)]
      unfold symF
      rw [show min i j = i by omega, show max i j = j by omega]
    · rw [if_neg h2]
      unfold symP
      by_cases h : min i j < p ∨ (min i j = p ∧ max i j < q)
      · rw [if_pos h, if_pos (by omega)]
      · rw [if_neg h, if_neg (by omega)]
theorem tix_next {a p q : Nat} (h : p ≤ q) : tix a p (q + 1) = tix a p q + 1 := by unfold tix; omega
theorem tix_row {a p : Nat} (h : p < a) : tix a p a = tix a (p + 1) (p + 1) := by
  show off a p + (a - p) = off a p + (a - p) + (p + 1 - (p + 1)); omega
theorem tix_diag (a : Nat) : tix a 0 0 = 0 := rfl
theorem off_three {a : Nat} (h1 : 1 ≤ a) (h2 : a ≤ 3) : 2 * off a a = (a + 1) * a := by
  have : a = 1 ∨ a = 2 ∨ a = 3 := by omega
  rcases this with rfl | rfl | rfl <;> rfl
/-- the message matrix -/
def msgF (a : Nat) (l : List UInt8) : Ents := fun i j => if i < a then symF a l 0 i j else symF a l (off a a) (i - a) j
def msgM (a : Nat) (l : List UInt8) : Mat := mkM (a + a) a (msgF a l)
theorem msgM_eq (a : Nat) (l : List UInt8) : mkM a a (symF a (l.take (off a a)) 0) ++ mkM a a (symF a (l.drop (off a a)) 0) = msgM a l := by
  apply List.ext_getElem
  · simp [msgM]
  · intro i h1 h2
    have h2' : i < a + a := by simpa [msgM] using h2
    rcases Nat.lt_or_ge i a with h | h
    · rw [List.getElem_append_left (by simpa using h)]
      simp only [msgM, mkM, List.getElem_map, List.getElem_range]
      refine mkRow_congr fun j hj => ?_
      have := tix_lt (a := a) (p := min i j) (q := max i j) (by omega) (by omega)
      simp only [msgF, if_pos h, symF, Nat.zero_add]
      simp [List.getD, List.getElem?_take, this]
    · rw [List.getElem_append_right (by simpa using h)]
      simp only [msgM, mkM, List.getElem_map, List.getElem_range, List.length_map, List.length_range]
      refine mkRow_congr fun j hj => ?_
      simp only [msgF, if_neg (Nat.not_lt.2 h), symF, Nat.zero_add]
      simp [List.getD, List.getElem?_drop]
/-- .. the model's way to it: h halves, of the next one the rows before p, and in row p the columns before q -/
def msgP (a : Nat) (l : List UInt8) (h p q : Nat) : Ents := fun i j => if i < h * a then msgF a l i j else if i < h * a + a then symP a l (h * off a a) p q (i - h * a) j else 0
theorem msgP_zero (a : Nat) (l : List UInt8) (i j : Nat) : msgP a l 0 0 0 i j = 0 := by
  unfold msgP; rw [if_neg (by omega)]; split
  · exact symP_zero _ _ _ _ _
  · rfl
theorem msgP_row {a : Nat} {l : List UInt8} {h p i j : Nat} (hj : j < a) : msgP a l h p a i j = msgP a l h (p + 1) (p + 1) i j := by
  unfold msgP
  by_cases h1 : i < h * a
  · rw [if_pos h1, if_pos h1]
  · rw [if_neg h1, if_neg h1]
    by_cases h2 : i < h * a + a
    · rw [if_pos h2, if_pos h2]; exact symP_row (by omega) hj
    · rw [if_neg h2, if_neg h2]
theorem msgP_half {a : Nat} {l : List UInt8} {h i j : Nat} (hh : h = 0 ∨ h = 1) (hj : j < a) : msgP a l h a a i j = msgP a l (h + 1) 0 0 i j := by
  have e : (h + 1) * a = h * a + a := by rw [Nat.succ_mul]
  unfold msgP
  rw [e]
  by_cases h1 : i < h * a
  · rw [if_pos h1, if_pos (by omega)]
  · rw [if_neg h1]
    by_cases h2 : i < h * a + a
    · rw [if_pos h2, if_pos h2, symP_all (by omega) hj]
      rcases hh with rfl | rfl
      · simp only [Nat.zero_mul, Nat.sub_zero] at *
        simp only [msgF]; rw [if_pos (by omega)]
      · simp only [Nat.one_mul] at *
        simp only [msgF]; rw [if_neg (by omega)]
    · rw [if_neg h2, if_neg h2]; split
      · exact (symP_zero _ _ _ _ _).symm
      · rfl
theorem msgP_all {a : Nat} {l : List UInt8} {i j : Nat} (hi : i < a + a) : msgP a l 2 0 0 i j = msgF a l i j := by
  unfold msgP; rw [if_pos (by omega)]
theorem msgP_step (a : Nat) (l : List UInt8) (h p q : Nat) (hpq : p ≤ q) (hq : q < a) (i j : Nat) :
    (if i = h * a + q ∧ j = p then l.getD (h * off a a + tix a p q) 0 else if i = h * a + p ∧ j = q then l.getD (h * off a a + tix a p q) 0 else msgP a l h p q i j) = msgP a l h p (q + 1) i j := by
  have hs := symP_step a l (h * off a a) p q hpq (i - h * a) j
  unfold msgP
  by_cases h1 : i < h * a
  · rw [if_neg (by omega), if_neg (by omega), if_pos h1, if_pos h1]
  · rw [if_neg h1, if_neg h1]
    by_cases h2 : i < h * a + a
    · rw [if_pos h2, if_pos h2, ← hs]
      by_cases h3 : i = h * a + q ∧ j = p
      · rw [if_pos h3, if_pos (by omega)]
      · rw [if_neg h3, if_neg (show ¬ (i - h * a = q ∧ j = p) by omega)]
        by_cases h4 : i = h * a + p ∧ j = q
        · rw [if_pos h4, if_pos (by omega)]
        · rw [if_neg h4, if_neg (show ¬ (i - h * a = p ∧ j = q) by omega)]
    · rw [if_neg h2, if_neg h2, if_neg (by omega), if_neg (by omega)]
end G294

/- The model's l2Blank. -/
namespace Go.Proofs.YtbopocpmodpfcaaDoor
open Go.RowKit G294

set_option maxRecDepth 100000 in
set_option maxHeartbeats 2000000 in
theorem l2Blank_own (r c : Nat) (w : World) (hr : r ≤ 1000) (hc : c ≤ 1000) : Calls Tryd.prog 97 #[.int .i64 r, .int .i64 c] w (RetMat 5 22 w (mkM r c fun _ _ => 0)) := by
  have hmk := run_make_row' (P := Tryd.prog) 22 5 (.int .u8 0) 1 Tryd.underlying22 infoElemB rfl .i64 .i64 c (by omega) (by omega)
  have hb0 : Below w.heap.size w (w.alloc (.cells #[.slice none 0 0] 39)) := (Below.refl _ _).alloc (Nat.le_refl _) _
  have hb2 : Below w.heap.size w ((w.alloc (.cells #[.slice none 0 0] 39)).alloc (.cells #[.slice none 0 0] 39)) := hb0.alloc (by simp) _
  have hsz : ((w.alloc (.cells #[.slice none 0 0] 39)).alloc (.cells #[.slice none 0 0] 39)).heap.size = w.heap.size + 2 := by simp
  have hM0 : OwnM 5 22 ((w.alloc (.cells #[.slice none 0 0] 39)).alloc (.cells #[.slice none 0 0] 39)) (w.heap.size + 2) (w.heap.size + 2) (.slice none 0 0) (mkM 0 c fun _ _ => 0) [] := hsz ▸ OwnM.nil _ _ _ _
  have HSZ := Lib.hid hsz
  clear hsz
  go_enter Tryd.func97, Tryd.ntmps97
  go_wp2_with fail
  go_loopw [6] (fun i wr => ∃ (k : Nat) (o : Value) (vs : List Value), k ≤ r ∧ i = .int .i64 k ∧ OwnM 5 22 wr (w.heap.size + 2) wr.heap.size o (mkM k c fun _ _ => 0) vs ∧
      wr.cell? ⟨w.heap.size + 1, 0, none⟩ = some o ∧ wr.frozen? ⟨w.heap.size + 1, 0, none⟩ = false ∧ wr.cell? ⟨w.heap.size, 0, none⟩ = some (.slice none 0 0) ∧ wr.frozen? ⟨w.heap.size, 0, none⟩ = false ∧ Below w.heap.size w wr ∧ w.heap.size + 2 ≤ wr.heap.size)
    (fun i _ => r - (intOf i).toNat)
  case atStart => exact ⟨0, .slice none 0 0, [], Nat.zero_le _, rfl, hM0.wider (Nat.le_refl _) (by rw [HSZ.out]; exact Nat.le_refl _) (Nat.le_refl _), by simp, by simp, by simp, by simp, hb2, by rw [HSZ.out]; exact Nat.le_refl _⟩
  case round =>
    obtain ⟨k, o, vs, hk, rfl, hM, hc1, hf1, hc0, hf0, hb, hsz⟩ := hrel
    clear hM0 hb2 hb0
    by_cases hlt : k < r
    · have hki : (k : Int) < (r : Int) := by omega
      have hrow : wr.ownsRow (w.heap.size + 2) 22 1 o k vs := by simpa using hM.row
      obtain ⟨A, n, cp, rfl⟩ := hM.isSlice
      have kW : TurnIn 0 0 wr ((wr.alloc (.cells (madeCells #[.int .u8 0] c) 5)).alloc (.cells #[.slice (some ⟨wr.heap.size, 0, none⟩) c c] 22)).drew := TurnIn.of_below (((Below.refl _ _).alloc (Nat.le_refl _) _).alloc (by simp) _).drew
      have hob : ∀ g, (Value.slice A n cp).ownBlock = some g → w.heap.size + 2 ≤ g := fun g e => (hrow.lt g e).1
      have hne1 : (Value.slice A n cp).ownBlock ≠ some (w.heap.size + 1) := fun e => by have := hob _ e; omega
      have hne0 : (Value.slice A n cp).ownBlock ≠ some w.heap.size := fun e => by have := hob _ e; omega
      have HK := Lib.hid kW
      have hcA : (wr.alloc (.cells (madeCells #[.int .u8 0] c) 5)).cell? ⟨w.heap.size + 1, 0, none⟩ = some (.slice A n cp) := cell_turn (TurnIn.of_below ((Below.refl _ _).alloc (Nat.le_refl _) _)) hc1 (by omega)
      have hcB : ((wr.alloc (.cells (madeCells #[.int .u8 0] c) 5)).alloc (.cells #[.slice (some ⟨wr.heap.size, 0, none⟩) c c] 22)).cell? ⟨w.heap.size + 1, 0, none⟩ = some (.slice A n cp) := cell_turn kW hc1 (by omega)
      clear kW
      go_wp2_with fail
      go_region_law ((refine step_append1 (by rfl) _ _ _ (by rfl) (w.heap.size + 2) 22 _ _ Tryd.underlying37 infoRowB rfl _ k vs (by rfl) (((hrow.alloc _).alloc _).drew) (wr.heap.size + 1) (.slice (some ⟨wr.heap.size, 0, none⟩) c c) (by rfl) (by simp) (by rfl) (by omega) (by omega) (by simp; omega) ?_; intro v' w1 hown1 hg1 hv1; obtain ⟨A', n', cp', rfl⟩ := own_isSlice hown1; have hc1' := (cell_past HK.out hg1 hne1 (by omega) 0).trans hc1; have hf1' := (frozen_past HK.out hg1 hne1 (by omega) 0).trans hf1))
      all_goals
        have hR : OwnBytes 5 ((wr.alloc (.cells (madeCells #[.int .u8 0] c) 5)).alloc (.cells #[.slice (some ⟨wr.heap.size, 0, none⟩) c c] 22)).drew wr.heap.size (wr.heap.size + 1) (.slice (some ⟨wr.heap.size, 0, none⟩) c c) (mkRow c fun _ => 0) := by
          refine ⟨?_, by simp, fun g e => by simp [Value.ownBlock] at e; omega⟩
          rw [bys_zero c _ (fun _ _ => rfl), mkRow_length, ← toList_madeCells_one]
          exact ((World.ownsRow_lit wr (madeCells #[.int .u8 0] c) c (Nat.le_refl _) (by unfold maxLen; omega) (by simp [madeCells])).alloc _).drew
        have hM5 := (((hM.push HK.out hR (Nat.le_refl _) (by omega) (by simpa using hown1) hg1 hv1).keep (turn_setCell w1 (w.heap.size + 1) 0 (.slice A' n' cp')) (by omega)).congr (mkM_succ k c fun _ _ => 0).symm)
        have hw1 : wr.heap.size ≤ w1.heap.size := by have := hg1.size; have := HK.out.size; omega
        have hb5 : Below w.heap.size w (w1.setCell ⟨w.heap.size + 1, 0, none⟩ (.slice A' n' cp')) := Below.setCell (TurnIn.base (TurnIn.of_grown (lo := w.heap.size) (hi := w1.heap.size) hg1 (fun g e => ⟨by have := hob g e; omega, by have := (hM.out g e); omega⟩)) (HK.out.base hb (by omega) (by omega)) (by have := HK.out.size; omega) (by omega)) (Nat.le_succ _) _
        have hq0 := ((cell_past HK.out hg1 hne0 (by omega) 0).trans hc0)
        have hq0f := ((frozen_past HK.out hg1 hne0 (by omega) 0).trans hf0)
        clear hR hown1 hg1 hv1 hM hrow hob hcA hcB hb hc0 hf0
        go_wp2_with fail
        go_roundw
        case rel => exact ⟨k + 1, .slice A' n' cp', vs ++ [.slice (some ⟨wr.heap.size, 0, none⟩) c c], by omega, by go_num, by simpa using hM5, World.cell?_setCell_same _ _ _ hc1', by simp [hf1'], (cell_set_other w1 _ _ _ (by omega)).trans hq0, (frozen_set_other w1 _ _ _ (by omega)).trans hq0f, hb5, by simp; omega⟩
        case measure => simp [intOf]; omega
    · obtain rfl : k = r := by omega
      have hki : ¬ (k : Int) < (k : Int) := by omega
      obtain ⟨A, n, cp, rfl⟩ := hM.isSlice
      go_wp2_with fail
      refine bodyPost_ret (v := .agg #[.slice A n cp]) (by simp [results, Tryd.results97, go_sem, hc0]) rfl ?_
      have kk := turn_setCell wr w.heap.size 0 (.slice A n cp)
      refine ⟨_, vs, rfl, (hM.keep kk (by omega)).wider (by omega) (by simp) (by simp), TurnIn.of_below (hb.setCell (Nat.le_refl _) _)⟩
end Go.Proofs.YtbopocpmodpfcaaDoor
