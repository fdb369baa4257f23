/- Contracts of the model's cursor: what it draws is some number; only its own block is written. -/
import Derived.Test.YtdbgkpmdimapdaaCurBase
set_option linter.unusedSimpArgs false
set_option linter.unusedVariables false
namespace Go.Proofs.Ytdbgkpmdimapdaa
open Go.RowKit G294

/-- a byte is drawn -/
def DrawsU (w : World) (g : Nat) (cv : Value) (n : Nat) (e : Ending) (w' : World) : Prop := ∃ x : UInt8, e = .returned (.int .u8 (x.toNat : Int)) ∧ CurAt w' g cv n ∧ TurnIn g (g + 1) w w'
theorem to_byte (r : Int) : r % 256 = ((UInt8.ofNat (r % 256).toNat).toNat : Int) := by
  rw [UInt8.toNat_ofNat']; omega

set_option maxHeartbeats 1000000 in
theorem byte_any (g : Nat) (cv : Value) (m : Nat) (w : World) (hc : CurAt w g cv m) (hm : m ≤ 10000000000) :
    Calls Try.prog 94 #[.pointer (some ⟨g, 0, none⟩)] w (DrawsU w g cv (m + 4)) := by
  go_enter Try.func94, Try.ntmps94
  go_wp2_with fail
  refine (one_any g cv m 5 _ hc (by omega)).mono ?_
  rintro e w1 ⟨b, rfl, hc1, k1⟩
  have hg1 := hc1.lt
  cases b
  · go_wp2_with fail
    refine (pick_any g cv (m + 2) 256 _ hc1 (by omega)).mono ?_
    rintro e w2 ⟨r, rfl, r0, r1, hc2, k2⟩
    clear r1
    go_wp2_with fail
    go_ret
    exact ⟨_, by rw [← to_byte r]; rfl, hc2, turn_trans k1 k2 (by omega)⟩
  · go_wp2_with fail
    have k2 := turn_alloc w1 (.cells #[.int .i64 0, .int .i64 1, .int .i64 2, .int .i64 3, .int .i64 255, .int .i64 27] 3)
    refine (among_any g cv (m + 2) w1.heap.size 6 [0, 1, 2, 3, 255, 27] _ (hc1.keep k2 (by omega)) (by omega) (by simp) (by simp) (by simp) (by omega) (by omega) (by simp) ?_).mono ?_
    · intro i u hu
      rw [cell_of_row _ w1.heap.size i _ _ _ (heap_alloc_new w1 _)]
      simpa [ints] using hu
    rintro e w3 ⟨r, rfl, hr, hc3, k3⟩
    clear hr
    go_wp2_with fail
    go_ret
    exact ⟨_, by rw [← to_byte r]; rfl, hc3, turn_trans (turn_trans k1 k2 (by omega)) k3 (by omega)⟩

end Go.Proofs.Ytdbgkpmdimapdaa
