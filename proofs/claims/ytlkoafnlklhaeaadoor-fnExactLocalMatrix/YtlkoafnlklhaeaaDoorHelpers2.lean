/- HelpersOf: the model's. -/
import Derived.Test.YtlkoafnlklhaeaaDoorHelpers
set_option linter.unusedSimpArgs false
set_option linter.unusedVariables false
namespace G294
open Go Go.RowKit
theorem sel_same {d e g k : Nat} {a r : Int} (h : (k : Int) = a ∨ ¬ grpN d e g (k : Int) = r) : notA a (mem4 d e g (k + 1) r) = notA a (mem4 d e g k r) := by
  unfold notA mem4
  rw [List.range_succ, List.map_append, List.filter_append, List.filter_append]
  rcases h with h | h
  · by_cases h2 : grpN d e g (k : Int) = r <;> simp [h2, h]
  · simp [h]
theorem sel_more {d e g k : Nat} {a r : Int} (h1 : ¬ (k : Int) = a) (h2 : grpN d e g (k : Int) = r) : notA a (mem4 d e g (k + 1) r) = notA a (mem4 d e g k r) ++ [(k : Int)] := by
  unfold notA mem4
  rw [List.range_succ, List.map_append, List.filter_append, List.filter_append]
  simp [h1, h2]
theorem box3_turn {w0 w1 w2 : World} {B : Nat} {x y z : Value} (h : w1.cell? ⟨B, 0, none⟩ = some x ∧ w1.cell? ⟨B, 1, none⟩ = some y ∧ w1.cell? ⟨B, 2, none⟩ = some z ∧ TurnIn 0 0 w0 w1) (hB : B < w0.heap.size) (k : TurnIn 0 0 w1 w2) :
    w2.cell? ⟨B, 0, none⟩ = some x ∧ w2.cell? ⟨B, 1, none⟩ = some y ∧ w2.cell? ⟨B, 2, none⟩ = some z ∧ TurnIn 0 0 w0 w2 := by
  obtain ⟨h1, h2, h3, h4⟩ := h
  have hs := h4.size
  exact ⟨cell_keepT h1 (by omega) k (by omega), cell_keepT h2 (by omega) k (by omega), cell_keepT h3 (by omega) k (by omega), turn_trans h4 k (by omega)⟩
end G294
namespace Go.Proofs.YtlkoafnlklhaeaaDoor
open Go.RowKit Go.Maps G294

set_option maxRecDepth 100000 in
set_option maxHeartbeats 1000000 in
theorem l4Many_any (g e q d : Nat) (w : World) (HGE : Hid ((g : Int) * (e : Int) = (d : Int))) (hd : 1 ≤ d ∧ d ≤ 16) (hg : g ≤ 4) (hq : q ≤ 4) : Calls Tryd.prog 123 #[locV g e q] w (RetInt w ((d + g + q : Nat) : Int)) := by
  have a1 := turn_alloc w (.cells #[.int .i64 g, .int .i64 e, .int .i64 q] 73)
  have z1 := World.size_alloc w (.cells #[.int .i64 g, .int .i64 e, .int .i64 q] 73)
  have cg := alloc_tri0 w (.int .i64 g) (.int .i64 e) (.int .i64 q) 73
  have ce := alloc_tri1 w (.int .i64 g) (.int .i64 e) (.int .i64 q) 73
  have cq := alloc_tri2 w (.int .i64 g) (.int .i64 e) (.int .i64 q) 73
  have hs1 : IntKind.i64.wrap ((d : Int) + (g : Int)) = (d : Int) + (g : Int) := IntWalk.i64_in _ (by omega)
  have hs2 : IntKind.i64.wrap ((d : Int) + (g : Int) + (q : Int)) = (d : Int) + (g : Int) + (q : Int) := IntWalk.i64_in _ (by omega)
  have HSUM : Hid (((d + g + q : Nat) : Int) = (d : Int) + (g : Int) + (q : Int)) := by show ((d + g + q : Nat) : Int) = _; omega
  rw [HSUM.out]
  have hsz : w.heap.size < (w.alloc (.cells #[.int .i64 g, .int .i64 e, .int .i64 q] 73)).heap.size := by omega
  go_enter Tryd.func123, Tryd.ntmps123
  go_wp2_with fail
  generalize (w.alloc (.cells #[.int .i64 g, .int .i64 e, .int .i64 q] 73)) = w1 at *
  have k0 : TurnIn 0 0 w1 w1.drew := TurnIn.of_below (Below.refl _ _).drew
  have hS0 : w1.drew.cell? ⟨w.heap.size, 0, none⟩ = some (.int .i64 g) ∧ w1.drew.cell? ⟨w.heap.size, 1, none⟩ = some (.int .i64 e) ∧ w1.drew.cell? ⟨w.heap.size, 2, none⟩ = some (.int .i64 q) ∧ TurnIn 0 0 w1 w1.drew := ⟨cg, ce, cq, k0⟩
  go_region_held3 (fun w' => w'.cell? ⟨w.heap.size, 0, none⟩ = some (.int .i64 g) ∧ w'.cell? ⟨w.heap.size, 1, none⟩ = some (.int .i64 e) ∧ w'.cell? ⟨w.heap.size, 2, none⟩ = some (.int .i64 q) ∧ TurnIn 0 0 w1 w')
    (first | exact hS0 | exact hS1)
    ((go_at_call 113; refine (l4Data_any (g : Int) (e : Int) (q : Int) _ (by rw [HGE.out]; omega)).mono ?_; rintro e' w2 ⟨rfl, k2⟩; rw [HGE.out]; have hS1 := box3_turn (by assumption) hsz k2))
  all_goals (go_wp2_with fail; go_ret; exact ⟨rfl, turn_trans a1 hS1.2.2.2 (by omega)⟩)

end Go.Proofs.YtlkoafnlklhaeaaDoor
