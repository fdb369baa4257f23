/- Joined texts: Own, Shape, Turns, Loc, OpenLoc, VecMath, VecLaws. -/
import Derived.Test.YtlkoafnlklhaeaaDoorBd00
import Derived.Test.YtlkoafnlklhaeaaDoorProg
import Derived.Lib.SmallJoins
set_option linter.unusedSimpArgs false
set_option linter.unusedVariables false
/- Memory that a call made, by intervals of block numbers: what lies in one interval is kept by whatever touches another. -/
namespace G294
open Go Go.RowKit

/-- of the blocks that were there only those from lo to hi may have turned -/
structure TurnIn (lo hi : Nat) (w w' : World) : Prop where
  os : w'.os = w.os
  tape : w'.tape = w.tape
  output : w'.output = w.output
  size : w.heap.size ≤ w'.heap.size
  block : ∀ k, k < w.heap.size → (k < lo ∨ hi ≤ k) → w'.heap[k]? = w.heap[k]?

section
variable {w w' w'' : World} {lo hi a b B : Nat} {v : Value} {l : List UInt8} {E : TypeId}
theorem TurnIn.of_below (h : Below w.heap.size w w') : TurnIn 0 0 w w' := ⟨h.os, h.tape, h.output, h.size, fun k hk _ => h.block k hk⟩
theorem TurnIn.of_grown {row : Option Nat} (h : w.grownBy w' row) (hr : ∀ g, row = some g → lo ≤ g ∧ g < hi) : TurnIn lo hi w w' :=
  ⟨h.os, h.tape, h.output, h.size, fun k hk hd => h.block k hk (fun e => by have := hr k e.symm; omega)⟩
theorem TurnIn.refl (w : World) : TurnIn 0 0 w w := ⟨rfl, rfl, rfl, Nat.le_refl _, fun _ _ _ => rfl⟩
theorem TurnIn.to_below (h : TurnIn 0 0 w w') : Below w.heap.size w w' := ⟨h.os, h.tape, h.output, h.size, fun k hk => h.block k hk (by omega)⟩
/-- what was there at the beginning is kept -/
theorem TurnIn.base {W : World} (t : TurnIn a b w w') (h : Below B W w) (hs : B ≤ w.heap.size) (hB : B ≤ a ∨ b = 0) : Below B W w' :=
  ⟨t.os.trans h.os, t.tape.trans h.tape, t.output.trans h.output, Nat.le_trans h.size t.size, fun k hk => (t.block k (by omega) (by omega)).trans (h.block k hk)⟩

/-- a row of bytes of the call's own, its block from lo to hi -/
def OwnBytes (E : TypeId) (w : World) (lo hi : Nat) (v : Value) (l : List UInt8) : Prop := w.ownsRow lo E 1 v l.length (bys l) ∧ hi ≤ w.heap.size ∧ ∀ g, v.ownBlock = some g → g < hi
theorem OwnBytes.keep (h : OwnBytes E w lo hi v l) (t : TurnIn a b w w') (d : hi ≤ a ∨ b ≤ lo) : OwnBytes E w' lo hi v l := by
  obtain ⟨h1, h2, h3⟩ := h
  have hs := t.size
  refine ⟨⟨h1.1, ?_⟩, by omega, h3⟩
  rcases h1.2 with hn | ⟨g, cap, cur, rfl, hbg, hg, rest⟩
  · exact .inl hn
  · refine .inr ⟨g, cap, cur, rfl, hbg, ?_, rest⟩
    have := h3 g rfl
    rw [t.block g (Array.getElem?_eq_some_iff.1 hg).1 (by omega)]
    exact hg
theorem OwnBytes.seen (h : OwnBytes E w lo hi v l) : Seen w v (bys l) := Seen.of_own h.1
theorem OwnBytes.nil (E : TypeId) (w : World) (lo : Nat) : OwnBytes E w lo w.heap.size (.slice none 0 0) [] := ⟨World.ownsRow_nil _ _ _ _, Nat.le_refl _, fun g h => by simp [Value.ownBlock] at h⟩
theorem OwnBytes.of_made (h : w'.ownsRow w.heap.size E 1 v l.length (bys l)) : OwnBytes E w' w.heap.size w'.heap.size v l := ⟨h, Nat.le_refl _, fun g hg => (h.lt g hg).2⟩
theorem Seen.touch {xs : List Value} (h : Seen w v xs) (t : TurnIn 0 0 w w') : Seen w' v xs := h.below t.to_below
end

/-- one new row of bytes is returned -/
def RetBytes (E : TypeId) (w : World) (l : List UInt8) (e : Ending) (w' : World) : Prop := ∃ v, e = .returned v ∧ OwnBytes E w' w.heap.size w'.heap.size v l ∧ TurnIn 0 0 w w'
def RetBytesOk (E : TypeId) (w : World) (l : List UInt8) (ok : Bool) (e : Ending) (w' : World) : Prop := ∃ v, e = .returned (.tuple #[v, .bool ok]) ∧ OwnBytes E w' w.heap.size w'.heap.size v l ∧ TurnIn 0 0 w w'
def RetBool (w : World) (b : Bool) (e : Ending) (w' : World) : Prop := e = .returned (.bool b) ∧ TurnIn 0 0 w w'
def RetInt (w : World) (n : Int) (e : Ending) (w' : World) : Prop := e = .returned (.int .i64 n) ∧ TurnIn 0 0 w w'
/-- a mark: the number after it, and the marked bytes; only blocks from lo to hi are touched -/
def RetMarkB (E : TypeId) (w : World) (lo hi : Nat) (v : Value) (k n : Nat) (e : Ending) (w' : World) : Prop :=
  e = .returned (.int .i64 ((k + n : Nat) : Int)) ∧ OwnBytes E w' lo hi v (marks k n) ∧ TurnIn lo hi w w'
def RetByte (w : World) (x : UInt8) (e : Ending) (w' : World) : Prop := e = .returned (.int .u8 (x.toNat : Int)) ∧ TurnIn 0 0 w w'
def RetByteOk (w : World) (x : UInt8) (ok : Bool) (e : Ending) (w' : World) : Prop := e = .returned (.tuple #[.int .u8 (x.toNat : Int), .bool ok]) ∧ TurnIn 0 0 w w'
end G294

/- Shapes of codes: the program's goodDataCount and GoodShape, the model's GoodShape. -/
namespace G294
open Go Go.RowKit
def dataOk (k : Int) : Bool := decide (1 ≤ k ∧ k ≤ 8)
def shapeOk (k m : Int) : Bool := dataOk k && decide (1 ≤ m ∧ m ≤ 6)
theorem shapeOk_b {k m : Int} (h : shapeOk k m = true) : (1 ≤ k ∧ k ≤ 8) ∧ 1 ≤ m ∧ m ≤ 6 := by simpa [shapeOk, dataOk] using h
end G294
namespace Go.Proofs.YtlkoafnlklhaeaaDoor
open Go.RowKit G294

end Go.Proofs.YtlkoafnlklhaeaaDoor

/- Steps of memory, one behind the other; slices of ints. -/
namespace G294
open Go Go.RowKit
theorem turn_trans {a b lo hi : Nat} {w w1 w2 : World} (h : TurnIn lo hi w w1) (k : TurnIn a b w1 w2) (hd : (lo ≤ a ∧ b ≤ hi) ∨ w.heap.size ≤ a ∨ b = 0) : TurnIn lo hi w w2 :=
  ⟨k.os.trans h.os, k.tape.trans h.tape, k.output.trans h.output, Nat.le_trans h.size k.size, fun i hi' hr => by
    have := h.size
    exact (k.block i (by omega) (by omega)).trans (h.block i hi' hr)⟩
theorem turn_alloc (w : World) (o : Obj) : TurnIn 0 0 w (w.alloc o) := TurnIn.of_below ((Below.refl _ _).alloc (Nat.le_refl _) o)
/-- ints as the cells of memory -/
def ints (l : List Int) : List Value := l.map fun n => .int .i64 n
@[simp] theorem ints_length (l : List Int) : (ints l).length = l.length := by simp [ints]
theorem ints_append (l m : List Int) : ints (l ++ m) = ints l ++ ints m := by simp [ints]
theorem ints_get (l : List Int) (i : Nat) (h : i < l.length) : (ints l)[i]? = some (.int .i64 l[i]) := by simp [ints, h]
/-- a row of ints of the call's own, its block from lo to hi -/
def OwnInts (E : TypeId) (w : World) (lo hi : Nat) (v : Value) (l : List Int) : Prop := w.ownsRow lo E 1 v l.length (ints l) ∧ hi ≤ w.heap.size ∧ ∀ g, v.ownBlock = some g → g < hi
section
variable {w w' : World} {lo hi a b : Nat} {v : Value} {l : List Int} {E : TypeId}
theorem OwnInts.keep (h : OwnInts E w lo hi v l) (t : TurnIn a b w w') (d : hi ≤ a ∨ b ≤ lo) : OwnInts E w' lo hi v l := by
  obtain ⟨h1, h2, h3⟩ := h
  have hs := t.size
  refine ⟨⟨h1.1, ?_⟩, by omega, h3⟩
  rcases h1.2 with hn | ⟨g, cap, cur, rfl, hbg, hg, rest⟩
  · exact .inl hn
  · refine .inr ⟨g, cap, cur, rfl, hbg, ?_, rest⟩
    have := h3 g rfl
    rw [t.block g (Array.getElem?_eq_some_iff.1 hg).1 (by omega)]
    exact hg
theorem OwnInts.seen (h : OwnInts E w lo hi v l) : Seen w v (ints l) := Seen.of_own h.1
theorem OwnInts.nil (E : TypeId) (w : World) (lo : Nat) : OwnInts E w lo w.heap.size (.slice none 0 0) [] := ⟨World.ownsRow_nil _ _ _ _, Nat.le_refl _, fun g h => by simp [Value.ownBlock] at h⟩
theorem OwnInts.of_made (h : w'.ownsRow w.heap.size E 1 v l.length (ints l)) : OwnInts E w' w.heap.size w'.heap.size v l := ⟨h, Nat.le_refl _, fun g hg => (h.lt g hg).2⟩
end
def RetInts (E : TypeId) (w : World) (l : List Int) (e : Ending) (w' : World) : Prop := ∃ v, e = .returned v ∧ OwnInts E w' w.heap.size w'.heap.size v l ∧ TurnIn 0 0 w w'
def RetIntsOk (E : TypeId) (w : World) (l : List Int) (ok : Bool) (e : Ending) (w' : World) : Prop := ∃ v, e = .returned (.tuple #[v, .bool ok]) ∧ OwnInts E w' w.heap.size w'.heap.size v l ∧ TurnIn 0 0 w w'
/-- the ints k, k + 1, .. that a mark writes -/
def marksI (k n : Nat) : List Int := (List.range n).map fun i => ((k + i : Nat) : Int)
@[simp] theorem marksI_length (k n : Nat) : (marksI k n).length = n := by simp [marksI]
theorem marksI_get (k n i : Nat) (h : i < n) : (ints (marksI k n))[i]? = some (.int .i64 ((k + i : Nat) : Int)) := by simp [ints, marksI, h]
def RetMarkI (E : TypeId) (w : World) (lo hi : Nat) (v : Value) (k n : Nat) (e : Ending) (w' : World) : Prop :=
  e = .returned (.int .i64 ((k + n : Nat) : Int)) ∧ OwnInts E w' lo hi v (marksI k n) ∧ TurnIn lo hi w w'
end G294

/- Local codes: their numbers; the program's and the model's GoodLocal. -/
namespace G294
open Go Go.RowKit
def numOk (n : Int) : Bool := decide (1 ≤ n ∧ n ≤ 4)
def locOk (g e q : Int) : Bool := numOk g && numOk e && numOk q && decide (g * e ≤ 8)
/-- a local code as a value -/
abbrev locV (g e q : Int) : Value := .agg #[.int .i64 g, .int .i64 e, .int .i64 q]
theorem mul_bd {a b : Int} (h1 : 1 ≤ a ∧ a ≤ 4) (h2 : 1 ≤ b ∧ b ≤ 4) : 1 ≤ a * b ∧ a * b ≤ 16 := by
  obtain ⟨h1, h1'⟩ := h1
  obtain ⟨h2, h2'⟩ := h2
  have e1 : a = 1 ∨ a = 2 ∨ a = 3 ∨ a = 4 := by omega
  rcases e1 with rfl | rfl | rfl | rfl <;> omega
theorem numOk_b {n : Int} (h : numOk n = true) : 1 ≤ n ∧ n ≤ 4 := by simpa [numOk] using h
theorem locOk_b {g e q : Int} (h : locOk g e q = true) : ((1 ≤ g ∧ g ≤ 4) ∧ (1 ≤ e ∧ e ≤ 4)) ∧ (1 ≤ q ∧ q ≤ 4) ∧ 1 ≤ g * e ∧ g * e ≤ 8 := by
  have h' : (((1 ≤ g ∧ g ≤ 4) ∧ (1 ≤ e ∧ e ≤ 4)) ∧ (1 ≤ q ∧ q ≤ 4)) ∧ g * e ≤ 8 := by simpa [locOk, numOk] using h
  exact ⟨h'.1.1, h'.1.2, (mul_bd h'.1.1.1 h'.1.1.2).1, h'.2⟩
end G294
namespace Go.Proofs.YtlkoafnlklhaeaaDoor
open Go.RowKit G294

set_option maxHeartbeats 400000 in
theorem goodLocalNumber_any (n : Int) (w : World) : Calls Tryd.prog 162 #[.int .i64 n] w fun e w' => e = .returned (.bool (numOk n)) ∧ w = w' := by
  by_cases h1 : 1 ≤ n
  · have hd : decide (1 ≤ n) = true := by simpa using h1
    by_cases h2 : n ≤ 4
    · have HV : Hid (numOk n = true) := by show numOk n = true; simp [numOk, h1, h2]
      go_enter Tryd.func162, Tryd.ntmps162
      go_wp2_with fail
      go_ret
      exact ⟨by rw [HV.out]; simp [h2], rfl⟩
    · have HV : Hid (numOk n = false) := by show numOk n = false; simp [numOk, h2]
      go_enter Tryd.func162, Tryd.ntmps162
      go_wp2_with fail
      go_ret
      exact ⟨by rw [HV.out]; simp [h2], rfl⟩
  · have hd : decide (1 ≤ n) = false := by simpa using h1
    have HV : Hid (numOk n = false) := by show numOk n = false; simp [numOk, h1]
    go_enter Tryd.func162, Tryd.ntmps162
    go_wp2_with fail
    go_ret
    exact ⟨by rw [HV.out]; rfl, rfl⟩

set_option maxRecDepth 100000 in
set_option maxHeartbeats 400000 in
theorem localData_any (g e q : Int) (w : World) (h : 1 ≤ g * e ∧ g * e ≤ 16) : Calls Tryd.prog 104 #[locV g e q] w (RetInt w (g * e)) := by
  have kk := turn_alloc w (.cells #[.int .i64 g, .int .i64 e, .int .i64 q] 73)
  obtain ⟨h1, h2⟩ := h
  go_enter Tryd.func104, Tryd.ntmps104
  go_wp2_with fail
  go_ret
  exact ⟨rfl, kk⟩

set_option maxRecDepth 100000 in
set_option maxHeartbeats 400000 in
theorem l4Data_any (g e q : Int) (w : World) (h : 1 ≤ g * e ∧ g * e ≤ 16) : Calls Tryd.prog 113 #[locV g e q] w (RetInt w (g * e)) := by
  have kk := turn_alloc w (.cells #[.int .i64 g, .int .i64 e, .int .i64 q] 73)
  obtain ⟨h1, h2⟩ := h
  go_enter Tryd.func113, Tryd.ntmps113
  go_wp2_with fail
  go_ret
  exact ⟨rfl, kk⟩

set_option maxRecDepth 100000 in
set_option maxHeartbeats 1000000 in
theorem goodLocal_any (g e q : Int) (w : World) : Calls Tryd.prog 103 #[locV g e q] w (RetBool w (locOk g e q)) := by
  have a1 := turn_alloc w (.cells #[.int .i64 g, .int .i64 e, .int .i64 q] 73)
  have cg : (w.alloc (.cells #[.int .i64 g, .int .i64 e, .int .i64 q] 73)).cell? ⟨w.heap.size, 0, none⟩ = some (.int .i64 g) := by simp
  have ce : (w.alloc (.cells #[.int .i64 g, .int .i64 e, .int .i64 q] 73)).cell? ⟨w.heap.size, 1, none⟩ = some (.int .i64 e) := by simp
  have cq : (w.alloc (.cells #[.int .i64 g, .int .i64 e, .int .i64 q] 73)).cell? ⟨w.heap.size, 2, none⟩ = some (.int .i64 q) := by simp
  by_cases hg : numOk g = true
  · have Hg := Lib.hid hg
    clear hg
    by_cases he : numOk e = true
    · have He := Lib.hid he
      clear he
      by_cases hq : numOk q = true
      · have Hq := Lib.hid hq
        clear hq
        have hb := mul_bd (numOk_b Hg.out) (numOk_b He.out)
        obtain ⟨hb1, hb2⟩ := hb
        by_cases hp : g * e ≤ 8
        · have hpd : decide (g * e ≤ 8) = true := by simpa using hp
          have HV : Hid (locOk g e q = true) := by show locOk g e q = true; simp [locOk, Hg.out, He.out, Hq.out, hp]
          go_enter Tryd.func103, Tryd.ntmps103
          go_wp2_with fail
          refine (goodLocalNumber_any _ _).mono ?_
          rintro e' w' ⟨rfl, rfl⟩
          rw [Hg.out]
          go_wp2_with fail
          refine (goodLocalNumber_any _ _).mono ?_
          rintro e' w' ⟨rfl, rfl⟩
          rw [He.out]
          go_wp2_with fail
          refine (goodLocalNumber_any _ _).mono ?_
          rintro e' w' ⟨rfl, rfl⟩
          rw [Hq.out]
          go_wp2_with fail
          refine (localData_any g e q _ ⟨hb1, hb2⟩).mono ?_
          rintro e' w2 ⟨rfl, k2⟩
          go_wp2_with fail
          go_ret
          exact ⟨by rw [HV.out]; simp [hpd], (turn_trans a1 k2 (by omega))⟩
        · have hpd : decide (g * e ≤ 8) = false := by simpa using hp
          have HV : Hid (locOk g e q = false) := by show locOk g e q = false; simp [locOk, Hg.out, He.out, Hq.out, hp]
          go_enter Tryd.func103, Tryd.ntmps103
          go_wp2_with fail
          refine (goodLocalNumber_any _ _).mono ?_
          rintro e' w' ⟨rfl, rfl⟩
          rw [Hg.out]
          go_wp2_with fail
          refine (goodLocalNumber_any _ _).mono ?_
          rintro e' w' ⟨rfl, rfl⟩
          rw [He.out]
          go_wp2_with fail
          refine (goodLocalNumber_any _ _).mono ?_
          rintro e' w' ⟨rfl, rfl⟩
          rw [Hq.out]
          go_wp2_with fail
          refine (localData_any g e q _ ⟨hb1, hb2⟩).mono ?_
          rintro e' w2 ⟨rfl, k2⟩
          go_wp2_with fail
          go_ret
          exact ⟨by rw [HV.out]; simp [hpd], (turn_trans a1 k2 (by omega))⟩
      · have Hq : Hid (numOk q = false) := by show numOk q = false; simpa using hq
        clear hq
        have HV : Hid (locOk g e q = false) := by show locOk g e q = false; simp [locOk, Hg.out, He.out, Hq.out]
        go_enter Tryd.func103, Tryd.ntmps103
        go_wp2_with fail
        refine (goodLocalNumber_any _ _).mono ?_
        rintro e' w' ⟨rfl, rfl⟩
        rw [Hg.out]
        go_wp2_with fail
        refine (goodLocalNumber_any _ _).mono ?_
        rintro e' w' ⟨rfl, rfl⟩
        rw [He.out]
        go_wp2_with fail
        refine (goodLocalNumber_any _ _).mono ?_
        rintro e' w' ⟨rfl, rfl⟩
        rw [Hq.out]
        go_wp2_with fail
        go_ret
        exact ⟨by rw [HV.out]; rfl, a1⟩
    · have He : Hid (numOk e = false) := by show numOk e = false; simpa using he
      clear he
      have HV : Hid (locOk g e q = false) := by show locOk g e q = false; simp [locOk, Hg.out, He.out]
      go_enter Tryd.func103, Tryd.ntmps103
      go_wp2_with fail
      refine (goodLocalNumber_any _ _).mono ?_
      rintro e' w' ⟨rfl, rfl⟩
      rw [Hg.out]
      go_wp2_with fail
      refine (goodLocalNumber_any _ _).mono ?_
      rintro e' w' ⟨rfl, rfl⟩
      rw [He.out]
      go_wp2_with fail
      go_ret
      exact ⟨by rw [HV.out]; rfl, a1⟩
  · have Hg : Hid (numOk g = false) := by show numOk g = false; simpa using hg
    clear hg
    have HV : Hid (locOk g e q = false) := by show locOk g e q = false; simp [locOk, Hg.out]
    go_enter Tryd.func103, Tryd.ntmps103
    go_wp2_with fail
    refine (goodLocalNumber_any _ _).mono ?_
    rintro e' w' ⟨rfl, rfl⟩
    rw [Hg.out]
    go_wp2_with fail
    go_ret
    exact ⟨by rw [HV.out]; rfl, a1⟩

set_option maxRecDepth 100000 in
set_option maxHeartbeats 1000000 in
theorem sGoodLocal_any (g e q : Int) (w : World) : Calls Tryd.prog 101 #[locV g e q] w (RetBool w (locOk g e q)) := by
  have a1 := turn_alloc w (.cells #[.int .i64 g, .int .i64 e, .int .i64 q] 73)
  have cg : (w.alloc (.cells #[.int .i64 g, .int .i64 e, .int .i64 q] 73)).cell? ⟨w.heap.size, 0, none⟩ = some (.int .i64 g) := by simp
  have ce : (w.alloc (.cells #[.int .i64 g, .int .i64 e, .int .i64 q] 73)).cell? ⟨w.heap.size, 1, none⟩ = some (.int .i64 e) := by simp
  have cq : (w.alloc (.cells #[.int .i64 g, .int .i64 e, .int .i64 q] 73)).cell? ⟨w.heap.size, 2, none⟩ = some (.int .i64 q) := by simp
  by_cases hg : numOk g = true
  · have Hg := Lib.hid hg
    clear hg
    by_cases he : numOk e = true
    · have He := Lib.hid he
      clear he
      have hb := mul_bd (numOk_b Hg.out) (numOk_b He.out)
      obtain ⟨hb1, hb2⟩ := hb
      by_cases hp : g * e ≤ 8
      · have hpd : decide (g * e ≤ 8) = true := by simpa using hp
        by_cases hq : numOk q = true
        · have Hq := Lib.hid hq
          clear hq
          have HV : Hid (locOk g e q = true) := by show locOk g e q = true; simp [locOk, Hg.out, He.out, Hq.out, hp]
          go_enter Tryd.func101, Tryd.ntmps101
          go_wp2_with fail
          refine (l1In_any _ _ _ _).mono ?_
          rintro e' w' ⟨rfl, rfl⟩
          rw [show inB g 1 4 = true from Hg.out]
          go_wp2_with fail
          refine (l1In_any _ _ _ _).mono ?_
          rintro e' w' ⟨rfl, rfl⟩
          rw [show inB e 1 4 = true from He.out]
          go_wp2_with fail
          refine (l1In_any _ _ _ _).mono ?_
          rintro e' w' ⟨rfl, rfl⟩
          rw [show inB q 1 4 = true from Hq.out]
          go_wp2_with fail
          go_ret
          exact ⟨by rw [HV.out]; first | rfl | simp [hpd], a1⟩
        · have Hq : Hid (numOk q = false) := by show numOk q = false; simpa using hq
          clear hq
          have HV : Hid (locOk g e q = false) := by show locOk g e q = false; simp [locOk, Hg.out, He.out, Hq.out, hp]
          go_enter Tryd.func101, Tryd.ntmps101
          go_wp2_with fail
          refine (l1In_any _ _ _ _).mono ?_
          rintro e' w' ⟨rfl, rfl⟩
          rw [show inB g 1 4 = true from Hg.out]
          go_wp2_with fail
          refine (l1In_any _ _ _ _).mono ?_
          rintro e' w' ⟨rfl, rfl⟩
          rw [show inB e 1 4 = true from He.out]
          go_wp2_with fail
          refine (l1In_any _ _ _ _).mono ?_
          rintro e' w' ⟨rfl, rfl⟩
          rw [show inB q 1 4 = false from Hq.out]
          go_wp2_with fail
          go_ret
          exact ⟨by rw [HV.out]; first | rfl | simp [hpd], a1⟩
      · have hpd : decide (g * e ≤ 8) = false := by simpa using hp
        have HV : Hid (locOk g e q = false) := by show locOk g e q = false; simp [locOk, Hg.out, He.out, hp]
        go_enter Tryd.func101, Tryd.ntmps101
        go_wp2_with fail
        refine (l1In_any _ _ _ _).mono ?_
        rintro e' w' ⟨rfl, rfl⟩
        rw [show inB g 1 4 = true from Hg.out]
        go_wp2_with fail
        refine (l1In_any _ _ _ _).mono ?_
        rintro e' w' ⟨rfl, rfl⟩
        rw [show inB e 1 4 = true from He.out]
        go_wp2_with fail
        go_ret
        exact ⟨by rw [HV.out]; first | rfl | simp [hpd], a1⟩
    · have He : Hid (numOk e = false) := by show numOk e = false; simpa using he
      clear he
      have HV : Hid (locOk g e q = false) := by show locOk g e q = false; simp [locOk, Hg.out, He.out]
      go_enter Tryd.func101, Tryd.ntmps101
      go_wp2_with fail
      refine (l1In_any _ _ _ _).mono ?_
      rintro e' w' ⟨rfl, rfl⟩
      rw [show inB g 1 4 = true from Hg.out]
      go_wp2_with fail
      refine (l1In_any _ _ _ _).mono ?_
      rintro e' w' ⟨rfl, rfl⟩
      rw [show inB e 1 4 = false from He.out]
      go_wp2_with fail
      go_ret
      exact ⟨by rw [HV.out]; first | rfl | simp [hpd], a1⟩
  · have Hg : Hid (numOk g = false) := by show numOk g = false; simpa using hg
    clear hg
    have HV : Hid (locOk g e q = false) := by show locOk g e q = false; simp [locOk, Hg.out]
    go_enter Tryd.func101, Tryd.ntmps101
    go_wp2_with fail
    refine (l1In_any _ _ _ _).mono ?_
    rintro e' w' ⟨rfl, rfl⟩
    rw [show inB g 1 4 = false from Hg.out]
    go_wp2_with fail
    go_ret
    exact ⟨by rw [HV.out]; first | rfl | simp [hpd], a1⟩

set_option maxRecDepth 100000 in
set_option maxHeartbeats 1000000 in
theorem toLocal_any (g e q : Int) (w : World) : Calls Tryd.prog 43 #[locV g e q] w fun r w' => r = .returned (locV g e q) ∧ TurnIn 0 0 w w' := by
  have kk : TurnIn 0 0 w (((w.alloc (.cells #[.int .i64 g, .int .i64 e, .int .i64 q] 67)).alloc (.cells #[.int .i64 g, .int .i64 e, .int .i64 q] 73)).alloc (.cells #[.int .i64 g, .int .i64 e, .int .i64 q] 73)) := turn_trans (turn_trans (turn_alloc _ _) (turn_alloc _ _) (by omega)) (turn_alloc _ _) (by omega)
  go_enter Tryd.func43, Tryd.ntmps43
  go_wp2_with fail
  refine bodyPost_ret (v := locV g e q) (by simp [results, Tryd.results43, go_sem]) rfl ?_
  exact ⟨rfl, kk⟩

end Go.Proofs.YtlkoafnlklhaeaaDoor

/- From the readings of a law's arguments to what its walk asks: a struct of three ints. -/
namespace G294
open Go Go.ChangeShapes Go.WideShapes Go.ChangeAt Go.RowKit Go.Deep Go.Joins
section
variable {H : Type} {enc : TypeId × Value → H} {P : Program} {W : World} {base : Nat} {t : TypeId} {v : Value} {d : DataW H} {p : List MemPlace} {f0 f1 f2 : Field}
theorem open_three (hs : P.underlying t = some (.struct #[f0, f1, f2])) (hone : oneCellFields P #[f0, f1, f2] = true) (hC : P.cellsOf t = 3) (u0 : P.underlying f0.type = some (.int .i64)) (u1 : P.underlying f1.type = some (.int .i64)) (u2 : P.underlying f2.type = some (.int .i64))
    (hv : Value.okWide P W .any base t v) (h : DataW.Trod enc P W 0 (fun _ => true) true t v d p) : ∃ g e q : Int, v = .agg #[.int .i64 g, .int .i64 e, .int .i64 q] := by
  obtain ⟨v0, v1, v2, y0, y1, y2, n, rfl, _, _, h0, h1, h2⟩ := open_agg3 hs hone hC hv h
  obtain ⟨g, hg, _⟩ := DataW.trod_int u0 h0
  obtain ⟨e, he, _⟩ := DataW.trod_int u1 h1
  obtain ⟨q, hq, _⟩ := DataW.trod_int u2 h2
  simp only [List.cons.injEq, and_true] at hg he hq
  exact ⟨g, e, q, by rw [hg, he, hq]⟩
end
theorem alloc_tri0 (w : World) (x y z : Value) (T : TypeId) : (w.alloc (.cells #[x, y, z] T)).cell? ⟨w.heap.size, 0, none⟩ = some x := by simp
theorem alloc_tri1 (w : World) (x y z : Value) (T : TypeId) : (w.alloc (.cells #[x, y, z] T)).cell? ⟨w.heap.size, 1, none⟩ = some y := by simp
theorem alloc_tri2 (w : World) (x y z : Value) (T : TypeId) : (w.alloc (.cells #[x, y, z] T)).cell? ⟨w.heap.size, 2, none⟩ = some z := by simp
theorem alloc_ltT (w : World) (o : Obj) : w.heap.size < (w.alloc o).heap.size := by simp
theorem cell_keepT {w w' : World} {B o a b : Nat} {x : Value} (h : w.cell? ⟨B, o, none⟩ = some x) (hl : B < w.heap.size) (t : TurnIn a b w w') (d : B < a ∨ b ≤ B) : w'.cell? ⟨B, o, none⟩ = some x :=
  (World.cell?_of_block (t.block B hl (by omega))).trans h
end G294

/- Bytes with the product of GF(256), and vectors of them: plain functions. -/
namespace G294
def gmul (a b : UInt8) : UInt8 := UInt8.ofNat (gm a.toNat b.toNat)
theorem gmul_toNat (a b : UInt8) : (gmul a b).toNat = gm a.toNat b.toNat := by
  unfold gmul
  rw [UInt8.toNat_ofNat']
  exact Nat.mod_eq_of_lt (gm_lt a.toNat_lt _)
def scaleL (a : UInt8) (l : List UInt8) : List UInt8 := l.map (gmul a)
def addL (l m : List UInt8) : List UInt8 := List.zipWith (· ^^^ ·) l m
def dotK (l m : List UInt8) : Nat → UInt8
  | 0 => 0
  | k + 1 => dotK l m k ^^^ gmul (l.getD k 0) (m.getD k 0)
def dotL (l m : List UInt8) : UInt8 := dotK l m l.length
theorem dotK_succ (l m : List UInt8) (k : Nat) (h1 : k < l.length) (h2 : k < m.length) : dotK l m (k + 1) = dotK l m k ^^^ gmul l[k] m[k] := by
  simp [dotK, List.getD, h1, h2]
/-- what ScaleVector answers -/
def scaleR (a : UInt8) (l : List UInt8) : List UInt8 := if l.length ≤ 80 then scaleL a l else []
def scaleOk (l : List UInt8) : Bool := decide (l.length ≤ 80)
def addR (l m : List UInt8) : List UInt8 := if l.length ≤ 80 ∧ l.length = m.length then addL l m else []
def pairOk (l m : List UInt8) : Bool := decide (l.length ≤ 80 ∧ l.length = m.length)
def dotR (l m : List UInt8) : UInt8 := if l.length ≤ 80 ∧ l.length = m.length then dotL l m else 0
end G294

/- Bilinearity of the products of vectors: plain functions. -/
namespace G294
theorem u8_ext {a b : UInt8} (h : a.toNat = b.toNat) : a = b := UInt8.toNat_inj.1 h
theorem gmul_comm (a b : UInt8) : gmul a b = gmul b a := u8_ext (by rw [gmul_toNat, gmul_toNat]; exact gm_comm a.toNat_lt b.toNat_lt)
theorem gmul_assoc (a b c : UInt8) : gmul (gmul a b) c = gmul a (gmul b c) := u8_ext (by simp only [gmul_toNat]; exact gm_assoc a.toNat_lt b.toNat_lt c.toNat_lt)
theorem gmul_xor (a b c : UInt8) : gmul a (b ^^^ c) = gmul a b ^^^ gmul a c := u8_ext (by rw [gmul_toNat, UInt8.toNat_xor, UInt8.toNat_xor, gmul_toNat, gmul_toNat]; exact gm_right_xor _ _ _)
theorem xor_gmul (a b c : UInt8) : gmul (a ^^^ b) c = gmul a c ^^^ gmul b c := by rw [gmul_comm, gmul_xor, gmul_comm c a, gmul_comm c b]
theorem gmul_zero (a : UInt8) : gmul a 0 = 0 := u8_ext (by rw [gmul_toNat]; exact gm_zero_right _)
theorem zero_gmul (a : UInt8) : gmul 0 a = 0 := by rw [gmul_comm, gmul_zero]
theorem gmul_one (a : UInt8) : gmul a 1 = a := u8_ext (by rw [gmul_toNat]; exact gm_one_right _)
theorem one_gmul (a : UInt8) : gmul 1 a = a := by rw [gmul_comm, gmul_one]
theorem xor_self8 (a : UInt8) : a ^^^ a = 0 := by simp
theorem getD_scale (a : UInt8) (l : List UInt8) (k : Nat) : (scaleL a l).getD k 0 = gmul a (l.getD k 0) := by
  rcases Nat.lt_or_ge k l.length with h | h
  · simp [scaleL, List.getD, h]
  · simp [scaleL, List.getD, List.getElem?_eq_none h, gmul_zero]
theorem dotK_scale (a : UInt8) (l m : List UInt8) (k : Nat) : dotK (scaleL a l) m k = gmul a (dotK l m k) := by
  induction k with
  | zero => exact (gmul_zero a).symm
  | succ k ih => rw [dotK, dotK, ih, getD_scale, gmul_assoc, ← gmul_xor]
theorem dotL_scale (a : UInt8) (l m : List UInt8) : dotL (scaleL a l) m = gmul a (dotL l m) := by
  unfold dotL; rw [dotK_scale]; simp [scaleL]
theorem getD_add (l m : List UInt8) (h : l.length = m.length) (k : Nat) : (addL l m).getD k 0 = l.getD k 0 ^^^ m.getD k 0 := by
  rcases Nat.lt_or_ge k l.length with h1 | h1
  · have h2 : k < m.length := by omega
    have h3 : k < (List.zipWith (fun x y => x ^^^ y) l m).length := by simp; omega
    simp [addL, List.getD, h1, h2, List.getElem?_eq_getElem h3]
  · have h2 : m.length ≤ k := by omega
    have h3 : (List.zipWith (fun x y => x ^^^ y) l m).length ≤ k := by simp; omega
    simp [addL, List.getD, List.getElem?_eq_none h1, List.getElem?_eq_none h2, List.getElem?_eq_none h3]
theorem sq_add (x y : UInt8) : gmul (x ^^^ y) (x ^^^ y) = gmul x x ^^^ gmul y y := by
  rw [gmul_xor, xor_gmul, xor_gmul, gmul_comm y x, UInt8.xor_assoc, ← UInt8.xor_assoc (gmul x y), xor_self8]
  simp
theorem dotK_sq (l m : List UInt8) (h : l.length = m.length) (k : Nat) : dotK (addL l m) (addL l m) k = dotK l l k ^^^ dotK m m k := by
  induction k with
  | zero => simp [dotK]
  | succ k ih =>
    rw [dotK, dotK, dotK, ih, getD_add l m h, sq_add]
    simp only [UInt8.xor_assoc]
    congr 1
    rw [← UInt8.xor_assoc, ← UInt8.xor_assoc, UInt8.xor_comm (dotK m m k)]
theorem dotL_sq (l m : List UInt8) (h : l.length = m.length) : dotL (addL l m) (addL l m) = dotL l l ^^^ dotL m m := by
  have e : (addL l m).length = l.length := by simp [addL, h]
  unfold dotL
  rw [e, dotK_sq l m h, h]
theorem addL_back (l m : List UInt8) (h : l.length = m.length) : addL (addL l m) m = l := by
  apply List.ext_getElem
  · simp [addL, h]
  · intro i h1 h2
    simp [addL, UInt8.xor_assoc]
end G294
