/- The helpers on []byte, by intervals. -/
import Derived.Test.YtjgmegfbfjmnfaaBytesWalks
import Derived.Test.YtjgmegfbfjmnfaaOwn
set_option linter.unusedSimpArgs false
set_option linter.unusedVariables false
namespace Go.Proofs.Ytjgmegfbfjmnfaa
open Go.RowKit G294

theorem toByteS_own (v : Value) (l : List UInt8) (w : World) (hv : Seen w v (bys l)) (hn : l.length ≤ 1048576) : Calls Try.prog 37 #[v] w (RetBytes 5 w l) :=
  (toByteS_any v l w hv hn).mono fun e w' ⟨v', he, ho, hb⟩ => ⟨v', he, OwnBytes.of_made (by simpa using ho), TurnIn.of_below hb⟩

theorem eqByteS_own (v u : Value) (l m : List UInt8) (w : World) (hv : Seen w v (bys l)) (hu : Seen w u (bys m)) : Calls Try.prog 39 #[v, u] w (RetBool w (l == m)) :=
  (eqByteS_any v u l m w hv hu).mono fun e w' ⟨he, hb⟩ => ⟨he, TurnIn.of_below hb⟩

theorem eqByteS_same (v u : Value) (l : List UInt8) (w : World) (hv : Seen w v (bys l)) (hu : Seen w u (bys l)) : Calls Try.prog 39 #[v, u] w (RetBool w true) := by
  have := eqByteS_own v u l l w hv hu
  rwa [beq_self_eq_true] at this

theorem retBytesOk_of {w : World} {l : List UInt8} {ok : Bool} {e : Ending} {w' : World} (h : MadeOk w 5 (bys l) ok e w') : RetBytesOk 5 w l ok e w' := by
  obtain ⟨v', he, ho, hb⟩ := h
  exact ⟨v', he, OwnBytes.of_made (by simpa using ho), TurnIn.of_below hb⟩

end Go.Proofs.Ytjgmegfbfjmnfaa
