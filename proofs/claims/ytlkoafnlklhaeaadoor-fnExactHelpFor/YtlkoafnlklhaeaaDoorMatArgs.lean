/- Matrices as arguments of a law: copies and sizes. -/
import Derived.Test.YtlkoafnlklhaeaaDoorMatLaws
import Derived.Test.YtlkoafnlklhaeaaDoorAllocs
set_option linter.unusedSimpArgs false
set_option linter.unusedVariables false
namespace Go.Proofs.YtlkoafnlklhaeaaDoor
open Go.RowKit G294

set_option maxHeartbeats 1000000 in
theorem szByteS_yes (v : Value) (l : List UInt8) (left : Nat) (w : World) (hv : Seen w v (bys l)) (h : l.length ≤ left) (hl : left ≤ 1048576) :
    Calls Tryd.prog 74 #[v, .int .i64 left] w fun e w' => e = .returned (.int .i64 ((left - l.length : Nat) : Int)) ∧ w = w' := by
  obtain ⟨A, c, rfl, hlc, hcm, _⟩ := hv
  simp only [bys_length] at hlc ⊢
  generalize l.length = n at *
  obtain ⟨d, rfl⟩ : ∃ d, left = n + d := ⟨left - n, by omega⟩
  go_enter Tryd.func74, Tryd.ntmps74
  go_wp2_with fail
  go_ret
  exact ⟨ret_int (by omega), rfl⟩

set_option maxHeartbeats 1000000 in
theorem szByteS_no (v : Value) (l : List UInt8) (left : Nat) (w : World) (hv : Seen w v (bys l)) (h : left < l.length) (hl : left ≤ 1048576) :
    Calls Tryd.prog 74 #[v, .int .i64 left] w fun e w' => e = .returned (.int .i64 (-1)) ∧ w = w' := by
  obtain ⟨A, c, rfl, hlc, hcm, _⟩ := hv
  simp only [bys_length] at hlc ⊢
  unfold maxLen at hcm
  generalize l.length = n at *
  go_enter Tryd.func74, Tryd.ntmps74
  go_wp2_with fail
  go_ret
  exact ⟨rfl, rfl⟩

end Go.Proofs.YtlkoafnlklhaeaaDoor
