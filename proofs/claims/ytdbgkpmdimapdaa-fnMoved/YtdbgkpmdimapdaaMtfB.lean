/- Chapter 12: the bound on a text's bytes. -/
import Derived.Test.YtdbgkpmdimapdaaStrMem
import Derived.Test.YtdbgkpmdimapdaaBytesOwn
import Derived.Test.YtdbgkpmdimapdaaFieldWalksB
import Derived.Test.YtdbgkpmdimapdaaComb
import Derived.Test.YtdbgkpmdimapdaaTurns
import Derived.Deep.RegionHeld3
set_option linter.unusedSimpArgs false
set_option linter.unusedVariables false
namespace G294
open Go Go.RowKit Go.Proofs.Ytdbgkpmdimapdaa
def mvdB (n : Nat) : Bool := decide (n ≤ 200)
def mvdOk (l : List UInt8) : Bool := mvdB l.length
theorem seen_getD {w : World} {v : Value} {l : List UInt8} (h : Seen w v (bys l)) : ∃ A c, v = .slice A l.length c ∧ (0 < l.length → ∃ b off, A = some ⟨b, off, none⟩ ∧ b < w.heap.size ∧ ∀ i, i < l.length → w.cell? ⟨b, off + i, none⟩ = some (.int .u8 ((l.getD i 0).toNat : Int))) := by
  obtain ⟨A, c, rfl, _, _, hx⟩ := h
  rw [bys_length] at hx
  refine ⟨A, c, by rw [bys_length], fun h0 => ?_⟩
  obtain ⟨b, off, e, hb, hc⟩ := hx h0
  refine ⟨b, off, e, hb, fun i hi => ?_⟩
  rw [hc i _ (bys_get l i hi)]
  simp [List.getD, hi]
theorem getD_at {α : Type} {l : List α} {k : Nat} {d : α} (h : k < l.length) : l.getD k d = l[k] := by simp [List.getD, h]
theorem inB_iff {n lo hi : Int} (h : inB n lo hi = true) : lo ≤ n ∧ n ≤ hi := by simpa [inB] using h
theorem inB_not {n lo hi : Int} (h : inB n lo hi = false) : n < lo ∨ hi < n := by
  rcases Int.lt_or_le n lo with h1 | h1
  · exact .inl h1
  · rcases Int.lt_or_le hi n with h2 | h2
    · exact .inr h2
    · simp [inB, h1, h2] at h
end G294
namespace Go.Proofs.Ytdbgkpmdimapdaa
open Go.RowKit G294

set_option maxHeartbeats 400000 in
theorem goodMoved_any (n : Nat) (w : World) : Calls Try.prog 73 #[.int .i64 n] w fun e w' => e = .returned (.bool (mvdB n)) ∧ w = w' := by
  have HD : Hid (mvdB n = decide (n ≤ 200)) := Lib.hid rfl
  go_enter Try.func73, Try.ntmps73
  go_wp2_with fail
  go_ret
  exact ⟨by rw [HD.out]; by_cases h : n ≤ 200 <;> simp [h] <;> omega, rfl⟩

end Go.Proofs.Ytdbgkpmdimapdaa
