/- Joined texts: PelMem, PelS, PelLaw. -/
import Derived.Test.YtjklngheehhggaaBd15
import Derived.Test.YtjklngheehhggaaBd19
set_option linter.unusedSimpArgs false
set_option linter.unusedVariables false
/- A new state of peeling: two makeSlices and a variable in any order. -/
namespace G294
open Go Go.RowKit
theorem strs_rep (b : Nat) : strs (List.replicate b ([] : List UInt8)) = List.replicate b (Value.string ⟨#[]⟩) := by
  unfold strs
  rw [List.map_replicate]
  rfl
theorem madeStrs (W : World) (b : Nat) (E : TypeId) (hb : b ≤ 1000) : OwnStrs E (W.alloc (.cells (madeCells #[.string ⟨#[]⟩] b) E)) W.heap.size (W.heap.size + 1) (.slice (some ⟨W.heap.size, 0, none⟩) b b) (List.replicate b []) := by
  have h := World.ownsRow_lit (base := W.heap.size) (e := E) (size := 1) W (madeCells #[.string ⟨#[]⟩] b) b (Nat.le_refl _) (by unfold maxLen; omega) (by rw [size_madeCells]; omega)
  rw [toList_madeCells_one, ← strs_rep] at h
  refine ⟨by rw [List.length_replicate]; exact h, by simp, fun g e => ?_⟩
  simp only [Value.ownBlock, Option.some.injEq] at e
  omega
section
variable {E E2 T : TypeId} {w0 X : World} {L : List (List UInt8)} {Z : List Bool} {m : Int} {b : Nat} {S Bo : Obj}
theorem six1 (k : TurnIn 0 0 w0 X) (hS : ∀ W : World, OwnStrs E (W.alloc S) W.heap.size (W.heap.size + 1) (.slice (some ⟨W.heap.size, 0, none⟩) b b) L) (hB : ∀ W : World, OwnBools E2 (W.alloc Bo) W.heap.size (W.heap.size + 1) (.slice (some ⟨W.heap.size, 0, none⟩) b b) Z) :
    NewP E E2 w0 L Z m (.pointer (some ⟨X.heap.size + 1 + 1, 0, none⟩)) (((X.alloc S).alloc Bo).alloc (.cells #[.slice (some ⟨X.heap.size, 0, none⟩) b b, .slice (some ⟨X.heap.size + 1, 0, none⟩) b b, .int .i64 m] T)) := by
  have o1 := ((((hS X).keep (turn_alloc (X.alloc S) Bo) (by omega))).keep (turn_alloc ((X.alloc S).alloc Bo) (.cells #[.slice (some ⟨X.heap.size, 0, none⟩) b b, .slice (some ⟨X.heap.size + 1, 0, none⟩) b b, .int .i64 m] T)) (by omega))
  have o2 := ((hB (X.alloc S)).keep (turn_alloc ((X.alloc S).alloc Bo) (.cells #[.slice (some ⟨X.heap.size, 0, none⟩) b b, .slice (some ⟨X.heap.size + 1, 0, none⟩) b b, .int .i64 m] T)) (by omega))
  have bx := boxT_new ((X.alloc S).alloc Bo) (.slice (some ⟨X.heap.size, 0, none⟩) b b) (.slice (some ⟨X.heap.size + 1, 0, none⟩) b b) (.int .i64 m) T
  have kk := turn_trans (turn_trans (turn_trans k (turn_alloc X S) (by omega)) (turn_alloc _ Bo) (by omega)) (turn_alloc _ (.cells #[.slice (some ⟨X.heap.size, 0, none⟩) b b, .slice (some ⟨X.heap.size + 1, 0, none⟩) b b, .int .i64 m] T)) (by omega)
  have ks := k.size
  simp only [World.size_alloc] at o1 o2 bx
  exact ⟨_, _, _, rfl, bx, by omega, ⟨_, _, _, _, by omega, by omega, by omega, by omega, by omega, o1, o2⟩, kk⟩
theorem six2 (k : TurnIn 0 0 w0 X) (hS : ∀ W : World, OwnStrs E (W.alloc S) W.heap.size (W.heap.size + 1) (.slice (some ⟨W.heap.size, 0, none⟩) b b) L) (hB : ∀ W : World, OwnBools E2 (W.alloc Bo) W.heap.size (W.heap.size + 1) (.slice (some ⟨W.heap.size, 0, none⟩) b b) Z) :
    NewP E E2 w0 L Z m (.pointer (some ⟨X.heap.size + 1 + 1, 0, none⟩)) (((X.alloc Bo).alloc S).alloc (.cells #[.slice (some ⟨X.heap.size + 1, 0, none⟩) b b, .slice (some ⟨X.heap.size, 0, none⟩) b b, .int .i64 m] T)) := by
  have o1 := ((hS (X.alloc Bo)).keep (turn_alloc ((X.alloc Bo).alloc S) (.cells #[.slice (some ⟨X.heap.size + 1, 0, none⟩) b b, .slice (some ⟨X.heap.size, 0, none⟩) b b, .int .i64 m] T)) (by omega))
  have o2 := ((((hB X).keep (turn_alloc (X.alloc Bo) S) (by omega))).keep (turn_alloc ((X.alloc Bo).alloc S) (.cells #[.slice (some ⟨X.heap.size + 1, 0, none⟩) b b, .slice (some ⟨X.heap.size, 0, none⟩) b b, .int .i64 m] T)) (by omega))
  have bx := boxT_new ((X.alloc Bo).alloc S) (.slice (some ⟨X.heap.size + 1, 0, none⟩) b b) (.slice (some ⟨X.heap.size, 0, none⟩) b b) (.int .i64 m) T
  have kk := turn_trans (turn_trans (turn_trans k (turn_alloc X Bo) (by omega)) (turn_alloc _ S) (by omega)) (turn_alloc _ (.cells #[.slice (some ⟨X.heap.size + 1, 0, none⟩) b b, .slice (some ⟨X.heap.size, 0, none⟩) b b, .int .i64 m] T)) (by omega)
  have ks := k.size
  simp only [World.size_alloc] at o1 o2 bx
  exact ⟨_, _, _, rfl, bx, by omega, ⟨_, _, _, _, by omega, by omega, by omega, by omega, by omega, o1, o2⟩, kk⟩
theorem six3 (k : TurnIn 0 0 w0 X) (hS : ∀ W : World, OwnStrs E (W.alloc S) W.heap.size (W.heap.size + 1) (.slice (some ⟨W.heap.size, 0, none⟩) b b) L) (hB : ∀ W : World, OwnBools E2 (W.alloc Bo) W.heap.size (W.heap.size + 1) (.slice (some ⟨W.heap.size, 0, none⟩) b b) Z) :
    NewP E E2 w0 L Z m (.pointer (some ⟨X.heap.size + 1, 0, none⟩)) (((X.alloc S).alloc (.cells #[.slice (some ⟨X.heap.size, 0, none⟩) b b, .slice (some ⟨X.heap.size + 1 + 1, 0, none⟩) b b, .int .i64 m] T)).alloc Bo) := by
  have o1 := ((((hS X).keep (turn_alloc (X.alloc S) (.cells #[.slice (some ⟨X.heap.size, 0, none⟩) b b, .slice (some ⟨X.heap.size + 1 + 1, 0, none⟩) b b, .int .i64 m] T)) (by omega))).keep (turn_alloc ((X.alloc S).alloc (.cells #[.slice (some ⟨X.heap.size, 0, none⟩) b b, .slice (some ⟨X.heap.size + 1 + 1, 0, none⟩) b b, .int .i64 m] T)) Bo) (by omega))
  have o2 := hB ((X.alloc S).alloc (.cells #[.slice (some ⟨X.heap.size, 0, none⟩) b b, .slice (some ⟨X.heap.size + 1 + 1, 0, none⟩) b b, .int .i64 m] T))
  have bx := ((boxT_new (X.alloc S) (.slice (some ⟨X.heap.size, 0, none⟩) b b) (.slice (some ⟨X.heap.size + 1 + 1, 0, none⟩) b b) (.int .i64 m) T).keep (turn_alloc ((X.alloc S).alloc (.cells #[.slice (some ⟨X.heap.size, 0, none⟩) b b, .slice (some ⟨X.heap.size + 1 + 1, 0, none⟩) b b, .int .i64 m] T)) Bo) (by omega))
  have kk := turn_trans (turn_trans (turn_trans k (turn_alloc X S) (by omega)) (turn_alloc _ (.cells #[.slice (some ⟨X.heap.size, 0, none⟩) b b, .slice (some ⟨X.heap.size + 1 + 1, 0, none⟩) b b, .int .i64 m] T)) (by omega)) (turn_alloc _ Bo) (by omega)
  have ks := k.size
  simp only [World.size_alloc] at o1 o2 bx
  exact ⟨_, _, _, rfl, bx, by omega, ⟨_, _, _, _, by omega, by omega, by omega, by omega, by omega, o1, o2⟩, kk⟩
theorem six4 (k : TurnIn 0 0 w0 X) (hS : ∀ W : World, OwnStrs E (W.alloc S) W.heap.size (W.heap.size + 1) (.slice (some ⟨W.heap.size, 0, none⟩) b b) L) (hB : ∀ W : World, OwnBools E2 (W.alloc Bo) W.heap.size (W.heap.size + 1) (.slice (some ⟨W.heap.size, 0, none⟩) b b) Z) :
    NewP E E2 w0 L Z m (.pointer (some ⟨X.heap.size, 0, none⟩)) (((X.alloc (.cells #[.slice (some ⟨X.heap.size + 1, 0, none⟩) b b, .slice (some ⟨X.heap.size + 1 + 1, 0, none⟩) b b, .int .i64 m] T)).alloc S).alloc Bo) := by
  have o1 := ((hS (X.alloc (.cells #[.slice (some ⟨X.heap.size + 1, 0, none⟩) b b, .slice (some ⟨X.heap.size + 1 + 1, 0, none⟩) b b, .int .i64 m] T))).keep (turn_alloc ((X.alloc (.cells #[.slice (some ⟨X.heap.size + 1, 0, none⟩) b b, .slice (some ⟨X.heap.size + 1 + 1, 0, none⟩) b b, .int .i64 m] T)).alloc S) Bo) (by omega))
  have o2 := hB ((X.alloc (.cells #[.slice (some ⟨X.heap.size + 1, 0, none⟩) b b, .slice (some ⟨X.heap.size + 1 + 1, 0, none⟩) b b, .int .i64 m] T)).alloc S)
  have bx := ((((boxT_new X (.slice (some ⟨X.heap.size + 1, 0, none⟩) b b) (.slice (some ⟨X.heap.size + 1 + 1, 0, none⟩) b b) (.int .i64 m) T).keep (turn_alloc (X.alloc (.cells #[.slice (some ⟨X.heap.size + 1, 0, none⟩) b b, .slice (some ⟨X.heap.size + 1 + 1, 0, none⟩) b b, .int .i64 m] T)) S) (by omega))).keep (turn_alloc ((X.alloc (.cells #[.slice (some ⟨X.heap.size + 1, 0, none⟩) b b, .slice (some ⟨X.heap.size + 1 + 1, 0, none⟩) b b, .int .i64 m] T)).alloc S) Bo) (by omega))
  have kk := turn_trans (turn_trans (turn_trans k (turn_alloc X (.cells #[.slice (some ⟨X.heap.size + 1, 0, none⟩) b b, .slice (some ⟨X.heap.size + 1 + 1, 0, none⟩) b b, .int .i64 m] T)) (by omega)) (turn_alloc _ S) (by omega)) (turn_alloc _ Bo) (by omega)
  have ks := k.size
  simp only [World.size_alloc] at o1 o2 bx
  exact ⟨_, _, _, rfl, bx, by omega, ⟨_, _, _, _, by omega, by omega, by omega, by omega, by omega, o1, o2⟩, kk⟩
theorem six5 (k : TurnIn 0 0 w0 X) (hS : ∀ W : World, OwnStrs E (W.alloc S) W.heap.size (W.heap.size + 1) (.slice (some ⟨W.heap.size, 0, none⟩) b b) L) (hB : ∀ W : World, OwnBools E2 (W.alloc Bo) W.heap.size (W.heap.size + 1) (.slice (some ⟨W.heap.size, 0, none⟩) b b) Z) :
    NewP E E2 w0 L Z m (.pointer (some ⟨X.heap.size + 1, 0, none⟩)) (((X.alloc Bo).alloc (.cells #[.slice (some ⟨X.heap.size + 1 + 1, 0, none⟩) b b, .slice (some ⟨X.heap.size, 0, none⟩) b b, .int .i64 m] T)).alloc S) := by
  have o1 := hS ((X.alloc Bo).alloc (.cells #[.slice (some ⟨X.heap.size + 1 + 1, 0, none⟩) b b, .slice (some ⟨X.heap.size, 0, none⟩) b b, .int .i64 m] T))
  have o2 := ((((hB X).keep (turn_alloc (X.alloc Bo) (.cells #[.slice (some ⟨X.heap.size + 1 + 1, 0, none⟩) b b, .slice (some ⟨X.heap.size, 0, none⟩) b b, .int .i64 m] T)) (by omega))).keep (turn_alloc ((X.alloc Bo).alloc (.cells #[.slice (some ⟨X.heap.size + 1 + 1, 0, none⟩) b b, .slice (some ⟨X.heap.size, 0, none⟩) b b, .int .i64 m] T)) S) (by omega))
  have bx := ((boxT_new (X.alloc Bo) (.slice (some ⟨X.heap.size + 1 + 1, 0, none⟩) b b) (.slice (some ⟨X.heap.size, 0, none⟩) b b) (.int .i64 m) T).keep (turn_alloc ((X.alloc Bo).alloc (.cells #[.slice (some ⟨X.heap.size + 1 + 1, 0, none⟩) b b, .slice (some ⟨X.heap.size, 0, none⟩) b b, .int .i64 m] T)) S) (by omega))
  have kk := turn_trans (turn_trans (turn_trans k (turn_alloc X Bo) (by omega)) (turn_alloc _ (.cells #[.slice (some ⟨X.heap.size + 1 + 1, 0, none⟩) b b, .slice (some ⟨X.heap.size, 0, none⟩) b b, .int .i64 m] T)) (by omega)) (turn_alloc _ S) (by omega)
  have ks := k.size
  simp only [World.size_alloc] at o1 o2 bx
  exact ⟨_, _, _, rfl, bx, by omega, ⟨_, _, _, _, by omega, by omega, by omega, by omega, by omega, o1, o2⟩, kk⟩
theorem six6 (k : TurnIn 0 0 w0 X) (hS : ∀ W : World, OwnStrs E (W.alloc S) W.heap.size (W.heap.size + 1) (.slice (some ⟨W.heap.size, 0, none⟩) b b) L) (hB : ∀ W : World, OwnBools E2 (W.alloc Bo) W.heap.size (W.heap.size + 1) (.slice (some ⟨W.heap.size, 0, none⟩) b b) Z) :
    NewP E E2 w0 L Z m (.pointer (some ⟨X.heap.size, 0, none⟩)) (((X.alloc (.cells #[.slice (some ⟨X.heap.size + 1 + 1, 0, none⟩) b b, .slice (some ⟨X.heap.size + 1, 0, none⟩) b b, .int .i64 m] T)).alloc Bo).alloc S) := by
  have o1 := hS ((X.alloc (.cells #[.slice (some ⟨X.heap.size + 1 + 1, 0, none⟩) b b, .slice (some ⟨X.heap.size + 1, 0, none⟩) b b, .int .i64 m] T)).alloc Bo)
  have o2 := ((hB (X.alloc (.cells #[.slice (some ⟨X.heap.size + 1 + 1, 0, none⟩) b b, .slice (some ⟨X.heap.size + 1, 0, none⟩) b b, .int .i64 m] T))).keep (turn_alloc ((X.alloc (.cells #[.slice (some ⟨X.heap.size + 1 + 1, 0, none⟩) b b, .slice (some ⟨X.heap.size + 1, 0, none⟩) b b, .int .i64 m] T)).alloc Bo) S) (by omega))
  have bx := ((((boxT_new X (.slice (some ⟨X.heap.size + 1 + 1, 0, none⟩) b b) (.slice (some ⟨X.heap.size + 1, 0, none⟩) b b) (.int .i64 m) T).keep (turn_alloc (X.alloc (.cells #[.slice (some ⟨X.heap.size + 1 + 1, 0, none⟩) b b, .slice (some ⟨X.heap.size + 1, 0, none⟩) b b, .int .i64 m] T)) Bo) (by omega))).keep (turn_alloc ((X.alloc (.cells #[.slice (some ⟨X.heap.size + 1 + 1, 0, none⟩) b b, .slice (some ⟨X.heap.size + 1, 0, none⟩) b b, .int .i64 m] T)).alloc Bo) S) (by omega))
  have kk := turn_trans (turn_trans (turn_trans k (turn_alloc X (.cells #[.slice (some ⟨X.heap.size + 1 + 1, 0, none⟩) b b, .slice (some ⟨X.heap.size + 1, 0, none⟩) b b, .int .i64 m] T)) (by omega)) (turn_alloc _ Bo) (by omega)) (turn_alloc _ S) (by omega)
  have ks := k.size
  simp only [World.size_alloc] at o1 o2 bx
  exact ⟨_, _, _, rfl, bx, by omega, ⟨_, _, _, _, by omega, by omega, by omega, by omega, by omega, o1, o2⟩, kk⟩
end
end G294
namespace Go.Proofs.Ytjklngheehhggaa
open Go.RowKit G294

theorem makeTexts (b : Nat) (hb : b ≤ 1000) (W : World) : (Instr.makeSlice 30 (.int .i64 (b : Int)) (.int .i64 (b : Int))).run Try.prog W = .ok (.slice (some ⟨W.heap.size, 0, none⟩) b b) (W.alloc (.cells (madeCells #[.string ⟨#[]⟩] b) 9)) := by
  obtain ⟨i0, hi0, hz0, hz1, hz2⟩ := info_parts infoStr
  have h := run_make (P := Try.prog) W 30 9 i0 (.string ⟨#[]⟩) Try.underlying30 hi0 hz0 .i64 .i64 (b : Int) (b : Int) (by omega) (by omega) (by rw [hz2]; omega) (by omega)
  rw [hz1, show (Value.string ⟨#[]⟩).cells = #[.string ⟨#[]⟩] from rfl] at h
  simpa using h

end Go.Proofs.Ytjklngheehhggaa

/- Chapter 9: PeelDrops: the model's. -/
namespace G294
open Go Go.RowKit
theorem pel_bad {l : List Sh} {b : Int} (h : dropsOk l = false ∨ bcOk b = false) : pelOk l b = false ∧ pelR l b = ([], [], 0) := by
  have : pelOk l b = false := by rcases h with h | h <;> simp [pelOk, h]
  exact ⟨this, by unfold pelR; rw [if_neg (by rw [this]; decide)]⟩
theorem pel_ok {l : List Sh} {b : Int} (h1 : dropsOk l = true) (h2 : bcOk b = true) : pelOk l b = true ∧ pelR l b = peelN l b.toNat (pee0 b.toNat) := by
  have : pelOk l b = true := by simp [pelOk, h1, h2]
  exact ⟨this, by unfold pelR; rw [if_pos this]⟩
/-- a state in a box that is none of its blocks -/
def HasP (E E2 : TypeId) (B lo : Nat) (p : Pee) (W : World) : Prop :=
  ∃ x y l1 h1 l2 h2, BoxT B x y (.int .i64 p.2.2) W ∧ lo ≤ l1 ∧ lo ≤ l2 ∧ (h1 ≤ l2 ∨ h2 ≤ l1) ∧ (B < l1 ∨ h1 ≤ B) ∧ (B < l2 ∨ h2 ≤ B) ∧ OwnStrs E W l1 h1 x p.1 ∧ OwnBools E2 W l2 h2 y p.2.1
theorem turn_drew (W : World) : TurnIn 0 0 W W.drew := ⟨rfl, rfl, rfl, Nat.le_refl _, fun _ _ _ => rfl⟩
theorem NewP.drew {E E2 : TypeId} {w0 W : World} {L : List (List UInt8)} {Z : List Bool} {m : Int} {s : Value} (h : NewP E E2 w0 L Z m s W) : NewP E E2 w0 L Z m s W.drew := by
  obtain ⟨B, x, y, rfl, hb, hB, ⟨l1, h1, l2, h2, g1, g2, d, d1, d2, o1, o2⟩, k⟩ := h
  exact ⟨B, x, y, rfl, hb.keep (turn_drew W) (by omega), hB, ⟨l1, h1, l2, h2, g1, g2, d, d1, d2, o1.keep (turn_drew W) (by omega), o2.keep (turn_drew W) (by omega)⟩, turn_trans k (turn_drew W) (by omega)⟩
/-- what a step makes less -/
def meas (B : Nat) (W : World) : Nat := match W.cell? ⟨B, 2, none⟩ with | some (.int _ z) => (12 - z).toNat | _ => 0
theorem meas_eq {B : Nat} {W : World} {z : Int} (h : W.cell? ⟨B, 2, none⟩ = some (.int .i64 z)) : meas B W = (12 - z).toNat := by unfold meas; rw [h]
/-- after a step: the new state in the same box -/
theorem hasP_step {E E2 : TypeId} {B lo : Nat} {p q : Pee} {W W4 : World} {x y : Value} {o : Obj} (h : HasP E E2 B lo p W) (hl : lo ≤ W.heap.size) (o4 : OwnP E E2 W4 W.heap.size W4.heap.size x y q) (k4 : TurnIn 0 0 W W4) :
    HasP E E2 B lo q ((((W4.alloc o).setCell ⟨B, 0, none⟩ x).setCell ⟨B, 1, none⟩ y).setCell ⟨B, 2, none⟩ (.int .i64 q.2.2)) := by
  obtain ⟨x0, y0, _, _, _, _, hb, _⟩ := h
  have hlt := hb.lt
  obtain ⟨l1, h1, l2, h2, g1, g2, g3, g4, d, o1, o2⟩ := o4
  have kS := turn_set3 (W4.alloc o) B x y (.int .i64 q.2.2)
  exact ⟨x, y, l1, h1, l2, h2, ((hb.keep k4 (by omega)).keep (turn_alloc _ o) (by omega)).set _ _ _, by omega, by omega, d, .inl (by omega), .inl (by omega), (o1.keep (turn_alloc _ o) (by omega)).keep kS (by omega), (o2.keep (turn_alloc _ o) (by omega)).keep kS (by omega)⟩
end G294
namespace Go.Proofs.Ytjklngheehhggaa
open Go.RowKit G294

set_option maxRecDepth 100000 in
set_option maxHeartbeats 4000000 in
theorem sPeelDrops_own (vl : Value) (l : List Sh) (b : Int) (w : World) (hvl : SeenH w vl l) :
    Calls Try.prog 13 #[vl, .int .i64 b] w (RetPOk 9 4 w (pelR l b) (pelOk l b)) := by
  have HVL := Lib.hid hvl
  have a1 := turn_alloc w (.cells #[.slice none 0 0, .slice none 0 0, .int .i64 0] 33)
  have br := boxT_new w (.slice none 0 0) (.slice none 0 0) (.int .i64 0) 33
  have z1 := World.size_alloc w (.cells #[.slice none 0 0, .slice none 0 0, .int .i64 0] 33)
  generalize hwa : (w.alloc (.cells #[.slice none 0 0, .slice none 0 0, .int .i64 0] 33)) = wa at *
  have HWA := Lib.hid hwa
  have HKA := Lib.hid a1
  have HR := Lib.hid br
  have hlt0 : w.heap.size + 1 ≤ wa.heap.size := by omega
  have HD := Lib.hid (l9Drops_any vl l wa (HVL.out.below a1.to_below))
  clear hvl a1 br z1 hwa
  by_cases h1 : dropsOk l = true
  · have H1 := Lib.hid h1
    rw [h1] at HD
    by_cases h2 : bcOk b = true
    · have hb := bcOk_b h2
      have H2 : Hid (inB b 1 12 = true) := Lib.hid h2
      have HP := Lib.hid (pel_ok h1 h2)
      clear h1 h2
      obtain ⟨b, rfl⟩ := Int.eq_ofNat_of_zero_le (show 0 ≤ b by omega)
      have HQ : Hid (pelOk l (b : Int) = true ∧ pelR l (b : Int) = peelN l (left (pee0 b)) (pee0 b)) := Lib.hid (by rw [left_pee0]; exact HP.out)
      clear HP
      have hmk1 := makeTexts b (by omega)
      have hmk2 := makeBools b (by omega)
      have HMS := Lib.hid (fun W : World => madeStrs W b 9 (by omega))
      have HMB := Lib.hid (fun W : World => madeBools W b 4 (by omega))
      have HG := Lib.hid (pee0_good l (b := b) (by omega) (by omega))
      go_enter Try.func13, Try.ntmps13
      go_wp2_with (simp only [HWA.out])
      refine HD.out.mono ?_
      rintro e w2 ⟨rfl, k2⟩
      have s2 := k2.size
      have HK2 := Lib.hid (turn_trans HKA.out k2 (by omega))
      have HR2 := Lib.hid (HR.out.keep k2 (by omega))
      clear k2
      go_wp2_with fail
      refine (l1In_any _ _ _ _).mono ?_
      rintro e w' ⟨rfl, rfl⟩
      rw [H2.out]
      have HKX := Lib.hid (TurnIn.of_below (Below.refl w2.heap.size w2))
      go_wp2_with fail
      go_cut [6] from 18 to 22 (fun s6 wx => NewP 9 4 w2 (List.replicate b []) (List.replicate b false) 0 s6 wx)
      case first =>
        go_region_held3 (fun _ => True) (exact trivial) (fail)
        all_goals
          go_wp2_with fail
          go_meet
        all_goals first
          | exact six1 HKX.out HMS.out HMB.out
          | exact six2 HKX.out HMS.out HMB.out
          | exact six3 HKX.out HMS.out HMB.out
          | exact six4 HKX.out HMS.out HMB.out
          | exact six5 HKX.out HMS.out HMB.out
          | exact six6 HKX.out HMS.out HMB.out
          | exact (six1 HKX.out HMS.out HMB.out).drew
          | exact (six2 HKX.out HMS.out HMB.out).drew
          | exact (six3 HKX.out HMS.out HMB.out).drew
          | exact (six4 HKX.out HMS.out HMB.out).drew
          | exact (six5 HKX.out HMS.out HMB.out).drew
          | exact (six6 HKX.out HMS.out HMB.out).drew
          | exact six1 (turn_drew _) HMS.out HMB.out
          | exact six2 (turn_drew _) HMS.out HMB.out
          | exact six3 (turn_drew _) HMS.out HMB.out
          | exact six4 (turn_drew _) HMS.out HMB.out
          | exact six5 (turn_drew _) HMS.out HMB.out
          | exact six6 (turn_drew _) HMS.out HMB.out
          | skip
        all_goals trace_state
      case rest =>
        obtain ⟨B6, x6, y6, rfl, hb6, hB6, ⟨l1, h1, l2, h2, g1, g2, hd, hd1, hd2, o1, o2⟩, k6⟩ := hcut
        generalize hwc : wc = w6 at *
        clear hwc hmk1 hmk2 HMS HMB HKX
        have s6 := k6.size
        have HK6 := Lib.hid (turn_trans HK2.out k6 (by omega))
        have HR6 := Lib.hid (HR2.out.keep k6 (by omega))
        have hB0 : w.heap.size + 1 ≤ B6 := by omega
        have hB1 : B6 < w6.heap.size := hb6.lt
        have HS6 : Hid (HasP 9 4 B6 (w.heap.size + 1) (pee0 b) w6) := Lib.hid ⟨x6, y6, l1, h1, l2, h2, hb6, by omega, by omega, hd, hd1, hd2, o1, o2⟩
        have HLN := Lib.hid (left_pee0 b)
        clear hb6 o1 o2 k6 hd hd1 hd2 g1 g2 s2 HK2 HR2 hB6 H2
        have hwz6 : w.heap.size + 1 ≤ w6.heap.size := by omega
        clear s6 hlt0
        go_wp2_with fail
        go_loopw [8] (fun _ wr => ∃ cur : Pee, Hid (peeOk l cur = true ∧ peelN l (left (pee0 b)) (pee0 b) = peelN l (left cur) cur) ∧ Hid (HasP 9 4 B6 (w.heap.size + 1) cur wr) ∧ Hid (BoxT w.heap.size (.slice none 0 0) (.slice none 0 0) (.int .i64 0) wr) ∧ Hid (TurnIn 0 0 w wr) ∧ w6.heap.size ≤ wr.heap.size)
          (fun _ wr => meas B6 wr)
        case atStart => exact ⟨pee0 b, Lib.hid ⟨HG.out, rfl⟩, HS6, HR6, HK6, Nat.le_refl _⟩
        case round =>
          obtain ⟨cur, HC, HS, HRR, HKR, hsz⟩ := hrel
          have HPP := Lib.hid (peeOk_iff.1 HC.out.1)
          obtain ⟨x, y, l1, h1, l2, h2, hbx, g1, g2, hd, hd1, hd2, o1, o2⟩ := HS.out
          have hmany := HPP.out.many_le
          have HO1 := Lib.hid o1
          have HO2 := Lib.hid o2
          have HBX := Lib.hid hbx
          have HOP : Hid (∀ W', TurnIn (w.heap.size) (w.heap.size + 1) wr W' → OwnP 9 4 W' w.heap.size W'.heap.size x y cur) := Lib.hid (fun W' t => ⟨l1, h1, l2, h2, by omega, by have := o1.2.1; have := t.size; omega, by omega, by have := o2.2.1; have := t.size; omega, hd, o1.keep t (by omega), o2.keep t (by omega)⟩)
          have HL9 := Lib.hid (l9Step_own vl x y l cur (l.getD 0 (0, [])).2.length wr (HVL.out.below HKR.out.to_below) o1.seen o2.seen H1.out rfl (fun _ => HPP.out))
          obtain ⟨A1, n1, c1, rfl⟩ := o1.isSlice
          obtain ⟨A2, n2, c2, rfl⟩ := o2.isSlice
          obtain ⟨b0, b1, b2, b3, b4, b5, b6⟩ := hbx
          clear o1 o2 hd hd1 hd2 g1 g2
          rcases hst : stepP l cur with _ | q
          · have hq1 : stqOk l cur = false := by unfold stqOk; rw [hst]; rfl
            have hq2 : stqR l cur = ([], [], 0) := by unfold stqR; rw [hst]; rfl
            rw [hq1, hq2] at HL9
            have HF : Hid (pelR l (b : Int) = cur) := Lib.hid (by rw [HQ.out.2, HC.out.2]; exact peelN_none hst _)
            clear hst hq1 hq2
            generalize hzz : cur.2.2 = zz at *
            have HZZ := Lib.hid hzz
            clear hzz
            go_wp2_with fail
            refine HL9.out.mono ?_
            rintro e w4 ⟨x4, y4, rfl, o4, k4⟩
            obtain ⟨A4, n4, c4, A5, n5, c5, rfl, rfl⟩ := o4.isSlice
            have s4 := k4.size
            have k5 := turn_trans k4 (turn_alloc w4 (.cells #[.slice A4 n4 c4, .slice A5 n5 c5, .int .i64 0] 33)) (by omega)
            have hR5 := HRR.out.keep k5 (by omega)
            have hB5 := HBX.out.keep k5 (by omega)
            have s5 := k5.size
            have kS := turn_set3 (w4.alloc (.cells #[.slice A4 n4 c4, .slice A5 n5 c5, .int .i64 0] 33)) w.heap.size (.slice A1 n1 c1) (.slice A2 n2 c2) (.int .i64 zz)
            have kend := turn_old (turn_trans HKR.out k5 (by omega)) kS (Nat.le_refl _)
            have t5 : TurnIn w.heap.size (w.heap.size + 1) wr _ := ⟨kS.os.trans k5.os, kS.tape.trans k5.tape, kS.output.trans k5.output, Nat.le_trans k5.size kS.size, fun i hi hh => (kS.block i (Nat.lt_of_lt_of_le hi k5.size) hh).trans (k5.block i hi (by omega))⟩
            have HF2 := Lib.hid (HOP.out _ t5)
            have HF3 := Lib.hid kend
            clear k5 kS kend t5 k4 o4
            obtain ⟨y0, y1, y2, y3, y4, y5, y6⟩ := hR5
            obtain ⟨d0, d1, d2, d3, d4, d5, d6⟩ := hB5
            go_wp2_with fail
            refine bodyPost_ret (v := .tuple #[.agg #[.slice A1 n1 c1, .slice A2 n2 c2, .int .i64 zz], .bool true]) (by simp [results, Try.results13, go_sem, y0, y1, y2, y3, y4, y5]) rfl ?_
            exact ⟨_, _, by rw [HF.out, HQ.out.1, HZZ.out], by rw [HF.out]; exact HF2.out, HF3.out⟩
          · have hq1 : stqOk l cur = true := by unfold stqOk; rw [hst]; rfl
            have hq2 : stqR l cur = q := by unfold stqR; rw [hst]; rfl
            rw [hq1, hq2] at HL9
            obtain ⟨hl1, _, _, hl4⟩ := stepP_left hst HPP.out.kl
            have HC2 : Hid (peeOk l q = true ∧ peelN l (left (pee0 b)) (pee0 b) = peelN l (left q) q) := Lib.hid ⟨stepP_good H1.out HC.out.1 hst, by rw [HC.out.2, ← hl1]; exact peelN_some hst _⟩
            have hq12 := (peeOk_iff.1 HC2.out.1).many_le
            have HQ4 := Lib.hid hl4
            clear hst hq1 hq2 hl1 hl4
            generalize hzz : cur.2.2 = zz at *
            clear hzz
            go_wp2_with fail
            refine HL9.out.mono ?_
            rintro e w4 ⟨x4, y4, rfl, o4, k4⟩
            obtain ⟨A4, n4, c4, A5, n5, c5, rfl, rfl⟩ := o4.isSlice
            have HSN := Lib.hid (hasP_step (o := .cells #[.slice A4 n4 c4, .slice A5 n5 c5, .int .i64 q.2.2] 33) HS.out (by omega) o4 k4)
            have s4 := k4.size
            have k5 := turn_trans k4 (turn_alloc w4 (.cells #[.slice A4 n4 c4, .slice A5 n5 c5, .int .i64 q.2.2] 33)) (by omega)
            have hR5 := HRR.out.keep k5 (by omega)
            have hB5 := HBX.out.keep k5 (by omega)
            have s5 := k5.size
            have kS := turn_set3 (w4.alloc (.cells #[.slice A4 n4 c4, .slice A5 n5 c5, .int .i64 q.2.2] 33)) B6 (.slice A4 n4 c4) (.slice A5 n5 c5) (.int .i64 q.2.2)
            have HKN := Lib.hid (turn_old (turn_trans HKR.out k5 (by omega)) kS (by omega))
            have HRN := Lib.hid (hR5.keep kS (by omega))
            have sS := kS.size
            have HSZ := Lib.hid (show w6.heap.size ≤ (((((w4.alloc (.cells #[.slice A4 n4 c4, .slice A5 n5 c5, .int .i64 q.2.2] 33)).setCell ⟨B6, 0, none⟩ (.slice A4 n4 c4)).setCell ⟨B6, 1, none⟩ (.slice A5 n5 c5)).setCell ⟨B6, 2, none⟩ (.int .i64 q.2.2)).heap.size) by omega)
            have HM2 := Lib.hid (hB5.set (.slice A4 n4 c4) (.slice A5 n5 c5) (.int .i64 q.2.2)).c2
            have HM1 := Lib.hid HBX.out.c2
            clear k5 kS k4 o4 hR5 sS
            obtain ⟨d0, d1, d2, d3, d4, d5, d6⟩ := hB5
            go_wp2_with fail
            go_roundw
            case rel => exact ⟨q, HC2, HSN, HRN, HKN, HSZ.out⟩
            case measure =>
              rw [meas_eq HM2.out, meas_eq HM1.out]
              have := HQ4.out
              omega
    · have h2' : bcOk b = false := by simpa using h2
      have HF := Lib.hid (pel_bad (l := l) (b := b) (.inr h2'))
      have H2 : Hid (inB b 1 12 = false) := Lib.hid h2'
      clear h1 h2 h2'
      go_enter Try.func13, Try.ntmps13
      go_wp2_with (simp only [HWA.out])
      refine HD.out.mono ?_
      rintro e w2 ⟨rfl, k2⟩
      have s2 := k2.size
      have HK2 := Lib.hid (turn_trans HKA.out k2 (by omega))
      have HR2 := Lib.hid (HR.out.keep k2 (by omega))
      clear k2
      go_wp2_with fail
      refine (l1In_any _ _ _ _).mono ?_
      rintro e w' ⟨rfl, rfl⟩
      rw [H2.out]
      have kS := turn_set3 w2 w.heap.size (.slice none 0 0) (.slice none 0 0) (.int .i64 0)
      have kend := turn_old HK2.out kS (Nat.le_refl _)
      have send := kend.size
      obtain ⟨y0, y1, y2, y3, y4, y5, y6⟩ := HR2.out
      go_wp2_with fail
      refine bodyPost_ret (v := .tuple #[.agg #[.slice none 0 0, .slice none 0 0, .int .i64 0], .bool false]) (by simp [results, Try.results13, go_sem, y0, y1, y2, y3, y4, y5]) rfl ?_
      exact ⟨_, _, by rw [HF.out.1, HF.out.2], by rw [HF.out.2]; exact OwnP.nil _ _ _ _ send, kend⟩
  · have h1' : dropsOk l = false := by simpa using h1
    have HF := Lib.hid (pel_bad (l := l) (b := b) (.inl h1'))
    rw [h1'] at HD
    clear h1 h1'
    go_enter Try.func13, Try.ntmps13
    go_wp2_with (simp only [HWA.out])
    refine HD.out.mono ?_
    rintro e w2 ⟨rfl, k2⟩
    have s2 := k2.size
    have kS := turn_set3 w2 w.heap.size (.slice none 0 0) (.slice none 0 0) (.int .i64 0)
    have kend := turn_old (turn_trans HKA.out k2 (by omega)) kS (Nat.le_refl _)
    have send := kend.size
    obtain ⟨y0, y1, y2, y3, y4, y5, y6⟩ := HR.out.keep k2 (by omega)
    go_wp2_with fail
    refine bodyPost_ret (v := .tuple #[.agg #[.slice none 0 0, .slice none 0 0, .int .i64 0], .bool false]) (by simp [results, Try.results13, go_sem, y0, y1, y2, y3, y4, y5]) rfl ?_
    exact ⟨_, _, by rw [HF.out.1, HF.out.2], by rw [HF.out.2]; exact OwnP.nil _ _ _ _ send, kend⟩

end Go.Proofs.Ytjklngheehhggaa

/- Chapter 9: PeelDrops: how long its answer is. -/
namespace G294
open Go Go.RowKit
theorem peelN_good {l : List Sh} (hl : dropsOk l = true) : ∀ (n : Nat) (p : Pee), peeOk l p = true → peeOk l (peelN l n p) = true
  | 0, p, h => h
  | n + 1, p, h => by
    cases hs : stepP l p with
    | none => rw [peelN_none hs]; exact h
    | some q => rw [peelN_some hs]; exact peelN_good hl n q (stepP_good hl h hs)
theorem pelR_len (l : List Sh) (b : Int) : (pelR l b).1.length + (pelR l b).2.1.length ≤ 100 := by
  unfold pelR
  by_cases h : pelOk l b = true
  · rw [if_pos h]
    unfold pelOk at h
    rw [Bool.and_eq_true] at h
    have hb := bcOk_b h.2
    have hg := peeOk_iff.1 (peelN_good h.1 b.toNat (pee0 b.toNat) (pee0_good l (by omega) (by omega)))
    have b2 := hg.b2
    have kl := hg.kl
    omega
  · rw [if_neg h]
    show (0 : Nat) + 0 ≤ 100
    omega
end G294
