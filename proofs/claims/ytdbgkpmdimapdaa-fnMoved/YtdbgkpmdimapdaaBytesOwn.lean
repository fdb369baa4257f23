/- The helpers on []byte, by intervals. -/
import Derived.Test.YtdbgkpmdimapdaaBytesWalks
import Derived.Test.YtdbgkpmdimapdaaOwn
set_option linter.unusedSimpArgs false
set_option linter.unusedVariables false
namespace Go.Proofs.Ytdbgkpmdimapdaa
open Go.RowKit G294

theorem toByteS_own (v : Value) (l : List UInt8) (w : World) (hv : Seen w v (bys l)) (hn : l.length ≤ 1048576) : Calls Try.prog 49 #[v] w (RetBytes 5 w l) :=
  (toByteS_any v l w hv hn).mono fun e w' ⟨v', he, ho, hb⟩ => ⟨v', he, OwnBytes.of_made (by simpa using ho), TurnIn.of_below hb⟩

theorem eqByteS_own (v u : Value) (l m : List UInt8) (w : World) (hv : Seen w v (bys l)) (hu : Seen w u (bys m)) : Calls Try.prog 46 #[v, u] w (RetBool w (l == m)) :=
  (eqByteS_any v u l m w hv hu).mono fun e w' ⟨he, hb⟩ => ⟨he, TurnIn.of_below hb⟩

theorem eqByteS_same (v u : Value) (l : List UInt8) (w : World) (hv : Seen w v (bys l)) (hu : Seen w u (bys l)) : Calls Try.prog 46 #[v, u] w (RetBool w true) := by
  have := eqByteS_own v u l l w hv hu
  rwa [beq_self_eq_true] at this

theorem markByteS_own (v : Value) (l : List UInt8) (k lo hi : Nat) (w : World) (hv : OwnBytes 5 w lo hi v l) (hk : k + l.length ≤ 1000000000000) :
    Calls Try.prog 47 #[v, .int .i64 k] w (RetMarkB 5 w lo hi v k l.length) :=
  (markByteS_any v l k lo w hv.1 hk).mono fun e w' ⟨he, ho, hg⟩ => ⟨he, ⟨by simpa using ho, Nat.le_trans hv.2.1 hg.size, hv.2.2⟩, TurnIn.of_grown hg fun g h => ⟨(hv.1.lt g h).1, hv.2.2 g h⟩⟩

theorem heldByteS_own (v : Value) (k n : Nat) (w : World) (hv : Seen w v (bys (marks k n))) (hk : k + n ≤ 1000000000000) : Calls Try.prog 48 #[v, .int .i64 k] w (RetInt w ((k + n : Nat) : Int)) :=
  (heldByteS_any v k n w hv hk).mono fun e w' ⟨he, hb⟩ => ⟨he, TurnIn.of_below hb⟩

theorem retBytesOk_of {w : World} {l : List UInt8} {ok : Bool} {e : Ending} {w' : World} (h : MadeOk w 5 (bys l) ok e w') : RetBytesOk 5 w l ok e w' := by
  obtain ⟨v', he, ho, hb⟩ := h
  exact ⟨v', he, OwnBytes.of_made (by simpa using ho), TurnIn.of_below hb⟩

end Go.Proofs.Ytdbgkpmdimapdaa
