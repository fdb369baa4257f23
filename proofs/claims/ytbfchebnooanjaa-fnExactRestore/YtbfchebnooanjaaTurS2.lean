/- Chapter 11: TurnsOf, the model's. -/
import Derived.Test.YtbfchebnooanjaaTurS
set_option linter.unusedSimpArgs false
set_option linter.unusedVariables false
namespace G294
theorem trnR_len (s : List UInt8) : (trnR s).length ≤ 120 := by
  unfold trnR; split
  · rename_i h
    rw [natI_len, trn_len]
    simpa [trnOk] using h
  · simp
end G294
namespace Go.Proofs.Ytbfchebnooanjaa
open Go.RowKit G294

set_option maxRecDepth 100000 in
set_option maxHeartbeats 1000000 in
theorem sTurnsOf_own (s : List UInt8) (w : World) (hs : s.length ≤ 1000000000000) : Calls Try.prog 33 #[.string (str s)] w (RetIntsOk 3 w (trnR s) (trnOk s)) := by
  have hsz : (str s).size = s.length := str_size s
  by_cases h : s.length ≤ 120
  · have HO : Hid (trnOk s = true) := by show _ = _; simpa [trnOk] using h
    have HR := Lib.hid (trnR_yes HO.out)
    have HT := Lib.hid (l11Turns_own s w h)
    rw [HR.out, HO.out]
    generalize s.length = n at *
    go_enter Try.func33, Try.ntmps33
    go_wp2_with fail
    refine HT.out.mono ?_
    rintro e w1 ⟨v, rfl, hO, hT⟩
    have HOT := Lib.hid (And.intro hO hT)
    clear hO hT
    go_wp2_with fail
    go_ret2
    exact ⟨v, rfl, HOT.out.1, HOT.out.2⟩
  · have HO : Hid (trnOk s = false) := by show _ = _; simpa [trnOk] using h
    have HR := Lib.hid (trnR_no HO.out)
    rw [HR.out, HO.out]
    generalize s.length = n at *
    go_enter Try.func33, Try.ntmps33
    go_wp2_with fail
    go_ret2
    exact ⟨_, rfl, OwnInts.nil _ _ _, TurnIn.refl _⟩
end Go.Proofs.Ytbfchebnooanjaa
