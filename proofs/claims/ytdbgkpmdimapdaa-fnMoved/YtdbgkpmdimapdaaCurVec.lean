/- Drawn vectors. -/
import Derived.Test.YtdbgkpmdimapdaaCurWalks
import Derived.Test.YtdbgkpmdimapdaaBytesOwn
set_option linter.unusedSimpArgs false
set_option linter.unusedVariables false
namespace Go.Proofs.Ytdbgkpmdimapdaa
open Go.RowKit G294

/-- some bytes of a given number are drawn into a new row -/
def DrawsBytes (w : World) (g : Nat) (cv : Value) (m n : Nat) (e : Ending) (w' : World) : Prop :=
  ∃ (v : Value) (l : List UInt8), e = .returned v ∧ l.length = n ∧ w'.ownsRow w.heap.size 5 1 v l.length (bys l) ∧ CurAt w' g cv m ∧ TurnIn g (g + 1) w w'

set_option maxHeartbeats 1000000 in
theorem vector_any (g : Nat) (cv : Value) (m n : Nat) (w : World) (hc : CurAt w g cv m) (hm : m + 4 * n ≤ 1000000000) :
    Calls Try.prog 78 #[.pointer (some ⟨g, 0, none⟩), .int .i64 n] w (DrawsBytes w g cv (m + 4 * n) n) := by
  have hgw := hc.lt
  go_enter Try.func78, Try.ntmps78
  go_wp2_with fail
  go_loopw [1, 5] (fun y o wr => ∃ (k : Nat) (l : List UInt8), k ≤ n ∧ y = .int .i64 k ∧ Hid (l.length + k = n) ∧ wr.ownsRow w.heap.size 5 1 o l.length (bys l) ∧ CurAt wr g cv (m + 4 * (n - k)) ∧ TurnIn g (g + 1) w wr)
    (fun y _ _ => (intOf y).toNat)
  case atStart => exact ⟨n, [], Nat.le_refl _, rfl, by show 0 + n = n; omega, World.ownsRow_nil _ _ _ _, hc.more (by omega), ⟨rfl, rfl, rfl, Nat.le_refl _, fun _ _ _ => rfl⟩⟩
  case round =>
    obtain ⟨k, l, hk, rfl, HL, hown, hcr, kr⟩ := hrel
    have hsr := kr.size
    by_cases hlt : 0 < k
    · go_wp2_with fail
      refine (byte_any g cv _ _ hcr (by omega)).mono ?_
      rintro e w1 ⟨x, rfl, hc1, k1⟩
      have hs1 := k1.size
      have hown1 : w1.ownsRow w.heap.size 5 1 u5 l.length (bys l) := by
        refine ⟨hown.1, ?_⟩
        rcases hown.2 with hn | ⟨g', cap, cur, e1, hbg, hg', rest⟩
        · exact .inl hn
        · refine .inr ⟨g', cap, cur, e1, hbg, ?_, rest⟩
          rw [k1.block g' (Array.getElem?_eq_some_iff.1 hg').1 (by omega)]
          exact hg'
      have hll : l.length ≤ 1000000000 := by have := HL.out; omega
      go_wp2_with (at_builtin; refine wpList_append1 rfl _ _ _ rfl w.heap.size 5 _ _ Try.underlying22 infoByte rfl _ l.length _ rfl (hown1.alloc _) w1.heap.size (.int .u8 (x.toNat : Int)) rfl ?c1 rfl ?c2 ?c3 ?c4 ?_)
      case c1 => simp
      case c2 => exact hll
      case c3 => omega
      case c4 => simp; omega
      intro v' w2 hown2 hg2 _
      have ka := turn_alloc w1 (.cells #[.int .u8 (x.toNat : Int)] 5)
      have ko := turn_own (hown1.alloc (.cells #[.int .u8 (x.toNat : Int)] 5)) hg2
      have hc2 := (hc1.keep ka (by omega)).keep ko (by omega)
      have k2 : TurnIn g (g + 1) w w2 := turn_trans (turn_trans (turn_trans kr k1 (by omega)) ka (by omega)) ko (by omega)
      have hown3 : w2.ownsRow w.heap.size 5 1 v' (l ++ [x]).length (bys (l ++ [x])) := by
        rw [bys_append, List.length_append]; exact hown2
      clear hown2 hg2 hown1 ka ko hc1 k1 hown hcr kr
      go_wp2_with fail
      go_roundw
      case rel => exact ⟨k - 1, l ++ [x], by omega, by go_num, by show _ = _; have := HL.out; rw [List.length_append, List.length_singleton]; omega, hown3, hc2.more (by omega), k2⟩
      case measure => simp [intOf]; omega
    · obtain rfl : k = 0 := by omega
      go_wp2_with fail
      go_ret
      exact ⟨_, l, rfl, HL.out, hown, hcr.more (by omega), kr⟩

/-- two drawn vectors -/
def RetVecs (w : World) (e : Ending) (w' : World) : Prop :=
  ∃ (v u : Value) (l m : List UInt8), e = .returned (.tuple #[v, u]) ∧ Seen w' v (bys l) ∧ Seen w' u (bys m) ∧ l.length ≤ 100 ∧ m.length ≤ 100 ∧ TurnIn 0 0 w w'

end Go.Proofs.Ytdbgkpmdimapdaa
