/- A row of ints that is sorted in place, in memory; exchanged ranges, rotated ranges. -/
import Derived.Test.YtbfchebnooanjaaSymMath
import Derived.Test.YtbfchebnooanjaaIntsWalks
import Derived.Deep.QuietTactic
import Derived.BigQuiet
import Derived.BigRegion
import Derived.Shelf.Abstract
set_option linter.unusedSimpArgs false
set_option linter.unusedVariables false
namespace G294
open Go Go.RowKit
/-- the row of the block B holds f, and nothing else has turned -/
structure RowF (E : TypeId) (w wr : World) (B N cp : Nat) (f : Nat → Nat) : Prop where
  own : OwnInts E wr B (B + 1) (.slice (some ⟨B, 0, none⟩) N cp) (lstF N f)
  turn : TurnIn B (B + 1) w wr
theorem turn_setF (w : World) (B o : Nat) (x : Value) : TurnIn B (B + 1) w (w.setCell ⟨B, o, none⟩ x) :=
  ⟨rfl, rfl, rfl, by simp, fun k hk hd => heap_setCell_other w _ k x (by rcases hd with h | h <;> simp <;> omega)⟩
section
variable {E : TypeId} {w wr : World} {B N cp : Nat} {f f' : Nat → Nat}
theorem RowF.start (h : OwnInts E w B (B + 1) (.slice (some ⟨B, 0, none⟩) N cp) (lstF N f)) : RowF E w w B N cp f := ⟨h, rfl, rfl, rfl, Nat.le_refl _, fun _ _ _ => rfl⟩
theorem RowF.congr (h : RowF E w wr B N cp f) (e : f = f') : RowF E w wr B N cp f' := e ▸ h
theorem RowF.cell (h : RowF E w wr B N cp f) {i : Nat} (hi : i < N) : wr.cell? ⟨B, i, none⟩ = some (.int .i64 ((f i : Nat) : Int)) := by
  have h1 := h.own.1
  rw [lstF_len] at h1
  have := h1.cells (g := B) rfl i (.int .i64 ((f i : Nat) : Int)) (by
    simp only [ints, List.getElem?_map, lstF_get N f i hi, Option.map_some])
  rwa [Addr.add_lit, Nat.zero_add] at this
theorem RowF.store (h : RowF E w wr B N cp f) {i x : Nat} : RowF E w (wr.setCell ⟨B, i, none⟩ (.int .i64 (x : Int))) B N cp (upd f i x) := by
  have h1 := h.own.1
  rw [lstF_len] at h1
  have hst := h1.stored i (.int .i64 (x : Int))
  refine ⟨⟨?_, by simpa using h.own.2.1, h.own.2.2⟩, turn_trans h.turn (turn_setF _ _ _ _) (by omega)⟩
  have e2 : ints (lstF N (upd f i x)) = (ints (lstF N f)).set i (.int .i64 (x : Int)) := by
    rw [← lstF_set]; simp [ints, List.map_set]
  rw [e2, lstF_len]
  exact hst.1
theorem RowF.swap (h : RowF E w wr B N cp f) (i j : Nat) : RowF E w ((wr.setCell ⟨B, i, none⟩ (.int .i64 ((f j : Nat) : Int))).setCell ⟨B, j, none⟩ (.int .i64 ((f i : Nat) : Int))) B N cp (swp f i j) :=
  (h.store.store).congr (upd_swp f i j)
theorem RowF.swapAt (h : RowF E w wr B N cp f) {i j x y : Nat} (hx : f i = x) (hy : f j = y) : RowF E w ((wr.setCell ⟨B, i, none⟩ (.int .i64 (y : Int))).setCell ⟨B, j, none⟩ (.int .i64 (x : Int))) B N cp (swp f i j) := by
  subst hx hy; exact h.swap i j
theorem RowF.drewN (h : RowF E w wr B N cp f) (q : Nat) : RowF E w (wr.drewN q) B N cp f := by
  have t : TurnIn 0 0 wr (wr.drewN q) := ⟨rfl, rfl, rfl, Nat.le_refl _, fun _ _ _ => rfl⟩
  exact ⟨h.own.keep t (by omega), turn_trans h.turn t (by omega)⟩
theorem RowF.trans {w1 w2 : World} (h : RowF E w w1 B N cp f) (k : RowF E w1 w2 B N cp f') : RowF E w w2 B N cp f' := ⟨k.own, turn_trans h.turn k.turn (by omega)⟩
theorem RowF.lt (h : RowF E w wr B N cp f) : B < wr.heap.size := h.own.2.1
theorem RowF.frozen (h : RowF E w wr B N cp f) (i : Nat) : wr.frozen? ⟨B, i, none⟩ = false := by
  rcases h.own.1.2 with ⟨hh, _⟩ | ⟨g, cap, cur, hh, _, hg, _⟩
  · cases hh
  · simp only [Value.slice.injEq, Option.some.injEq, Addr.mk.injEq] at hh
    obtain ⟨⟨rfl, _⟩, _, _⟩ := hh
    exact frozen_of_row _ _ _ _ _ hg
end
/-- a call that leaves the row sorted so -/
def RetRow (E : TypeId) (w : World) (B N cp : Nat) (f : Nat → Nat) (e : Ending) (w' : World) : Prop := e = .returned (.tuple #[]) ∧ RowF E w w' B N cp f
end G294
namespace Go.Proofs.Ytbfchebnooanjaa
open Go.RowKit G294

set_option maxRecDepth 100000 in
set_option maxHeartbeats 2000000 in
theorem swapRange_own (B N cp a b n : Nat) (f : Nat → Nat) (cv : Value) (w : World) (hr : OwnInts 3 w B (B + 1) (.slice (some ⟨B, 0, none⟩) N cp) (lstF N f)) (h1 : a + n ≤ b) (h2 : b + n ≤ N) (hN : N ≤ 1000) :
    Calls Try.prog 90 #[.slice (some ⟨B, 0, none⟩) N cp, .int .i64 a, .int .i64 b, .int .i64 n, cv] w (RetRow 3 w B N cp (swr f a b n)) := by
  have HR0 := Lib.hid ((RowF.start hr).congr (swr_zero f a b).symm)
  clear hr
  go_enter Try.func90, Try.ntmps90
  go_wp2_with fail
  go_loopw [10] (fun i wr => ∃ k : Nat, k ≤ n ∧ i = .int .i64 k ∧ Hid (RowF 3 w wr B N cp (swr f a b k))) (fun i _ => n - (intOf i).toNat)
  case atStart => exact ⟨0, Nat.zero_le _, rfl, HR0⟩
  case round =>
    obtain ⟨k, hk, rfl, HR⟩ := hrel
    by_cases hlt : k < n
    · have hki : (k : Int) < (n : Int) := by omega
      have HS := Lib.hid ((HR.out.swap (a + k) (b + k)).congr (swr_succ f a b k (by omega)))
      have c1 := HR.out.cell (show a + k < N by omega)
      have c2 := HR.out.cell (show b + k < N by omega)
      have f1 := HR.out.frozen (a + k)
      have f2 := HR.out.frozen (b + k)
      generalize swr f a b k (a + k) = x at *
      generalize swr f a b k (b + k) = y at *
      clear HR HR0
      go_wp2_with fail
      go_region
      go_wp2_with fail
      go_roundw
      case rel => exact ⟨k + 1, by omega, by go_num, Lib.hid (HS.out.drewN 1)⟩
      case measure => simp [intOf]; omega
    · obtain rfl : k = n := by omega
      have hki : ¬ (k : Int) < (k : Int) := by omega
      go_wp2_with fail
      go_end0
      exact ⟨rfl, HR.out⟩
end Go.Proofs.Ytbfchebnooanjaa
