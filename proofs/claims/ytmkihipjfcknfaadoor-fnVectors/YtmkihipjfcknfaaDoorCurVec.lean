/- Drawn vectors. -/
import Derived.Test.YtmkihipjfcknfaaDoorCurWalks
import Derived.Test.YtmkihipjfcknfaaDoorBytesOwn
set_option linter.unusedSimpArgs false
set_option linter.unusedVariables false
namespace Go.Proofs.YtmkihipjfcknfaaDoor
open Go.RowKit G294

/-- a new cursor -/
theorem cur_new {w : World} {v : Value} {l : List UInt8} (hv : Seen w v (bys l)) : CurAt (w.alloc (.cells #[v, .int .i64 0, .int .u64 0] 50)) w.heap.size v 0 := by
  obtain ⟨A, c, rfl, hlc, hcm, hx⟩ := hv
  rw [bys_length] at hlc hx ⊢
  refine ⟨0, 0, l, A, c, heap_alloc_new w _, Nat.le_refl _, rfl, hlc, hcm, fun hp => ?_⟩
  obtain ⟨b, off, rfl, hb, hc⟩ := hx hp
  exact ⟨b, off, rfl, hb, fun i u hu => (World.cell?_alloc_lt w _ ⟨b, off + i, none⟩ hb).trans (hc i u hu)⟩

/-- some bytes of a given number are drawn into a new row -/
def DrawsBytes (w : World) (g : Nat) (cv : Value) (m n : Nat) (e : Ending) (w' : World) : Prop :=
  ∃ (v : Value) (l : List UInt8), e = .returned v ∧ l.length = n ∧ w'.ownsRow w.heap.size 5 1 v l.length (bys l) ∧ CurAt w' g cv m ∧ TurnIn g (g + 1) w w'

theorem turn_own {B : Nat} {w w' : World} {e : TypeId} {size n : Nat} {v : Value} {xs : List Value} (hown : w.ownsRow B e size v n xs) (hg : w.grownBy w' v.ownBlock) : TurnIn B w.heap.size w w' :=
  TurnIn.of_grown hg fun g h => hown.lt g h

set_option maxHeartbeats 1000000 in
theorem vector_any (g : Nat) (cv : Value) (m n : Nat) (w : World) (hc : CurAt w g cv m) (hm : m + 4 * n ≤ 1000000000) :
    Calls Tryd.prog 45 #[.pointer (some ⟨g, 0, none⟩), .int .i64 n] w (DrawsBytes w g cv (m + 4 * n) n) := by
  have hgw := hc.lt
  go_enter Tryd.func45, Tryd.ntmps45
  go_wp2_with fail
  go_loopw [1, 5] (fun y o wr => ∃ (k : Nat) (l : List UInt8), k ≤ n ∧ y = .int .i64 k ∧ Hid (l.length + k = n) ∧ wr.ownsRow w.heap.size 5 1 o l.length (bys l) ∧ CurAt wr g cv (m + 4 * (n - k)) ∧ TurnIn g (g + 1) w wr)
    (fun y _ _ => (intOf y).toNat)
  case atStart => exact ⟨n, [], Nat.le_refl _, rfl, by show 0 + n = n; omega, World.ownsRow_nil _ _ _ _, hc.more (by omega), ⟨rfl, rfl, rfl, Nat.le_refl _, fun _ _ _ => rfl⟩⟩
  case round =>
    obtain ⟨k, l, hk, rfl, HL, hown, hcr, kr⟩ := hrel
    have hsr := kr.size
    by_cases hlt : 0 < k
    · go_wp2_with fail
      refine (byte_any g cv _ _ hcr (by omega)).mono ?_
      rintro e w1 ⟨x, rfl, hc1, k1⟩
      have hs1 := k1.size
      have hown1 : w1.ownsRow w.heap.size 5 1 u5 l.length (bys l) := by
        refine ⟨hown.1, ?_⟩
        rcases hown.2 with hn | ⟨g', cap, cur, e1, hbg, hg', rest⟩
        · exact .inl hn
        · refine .inr ⟨g', cap, cur, e1, hbg, ?_, rest⟩
          rw [k1.block g' (Array.getElem?_eq_some_iff.1 hg').1 (by omega)]
          exact hg'
      have hll : l.length ≤ 1000000000 := by have := HL.out; omega
      go_wp2_with (at_builtin; refine wpList_append1 rfl _ _ _ rfl w.heap.size 5 _ _ Tryd.underlying22 infoByte rfl _ l.length _ rfl (hown1.alloc _) w1.heap.size (.int .u8 (x.toNat : Int)) rfl ?c1 rfl ?c2 ?c3 ?c4 ?_)
      case c1 => simp
      case c2 => exact hll
      case c3 => omega
      case c4 => simp; omega
      intro v' w2 hown2 hg2 _
      have ka := turn_alloc w1 (.cells #[.int .u8 (x.toNat : Int)] 5)
      have ko := turn_own (hown1.alloc (.cells #[.int .u8 (x.toNat : Int)] 5)) hg2
      have hc2 := (hc1.keep ka (by omega)).keep ko (by omega)
      have k2 : TurnIn g (g + 1) w w2 := turn_trans (turn_trans (turn_trans kr k1 (by omega)) ka (by omega)) ko (by omega)
      have hown3 : w2.ownsRow w.heap.size 5 1 v' (l ++ [x]).length (bys (l ++ [x])) := by
        rw [bys_append, List.length_append]; exact hown2
      clear hown2 hg2 hown1 ka ko hc1 k1 hown hcr kr
      go_wp2_with fail
      go_roundw
      case rel => exact ⟨k - 1, l ++ [x], by omega, by go_num, by show _ = _; have := HL.out; rw [List.length_append, List.length_singleton]; omega, hown3, hc2.more (by omega), k2⟩
      case measure => simp [intOf]; omega
    · obtain rfl : k = 0 := by omega
      go_wp2_with fail
      go_ret
      exact ⟨_, l, rfl, HL.out, hown, hcr.more (by omega), kr⟩

set_option maxHeartbeats 400000 in
theorem length_any (g : Nat) (cv : Value) (m : Nat) (w : World) (hc : CurAt w g cv m) (hm : m ≤ 1000000000) :
    Calls Tryd.prog 43 #[.pointer (some ⟨g, 0, none⟩)] w (Draws w g cv (m + 4) 0 81) := by
  go_enter Tryd.func43, Tryd.ntmps43
  go_wp2_with fail
  refine (one_any g cv m 20 _ hc (by omega)).mono ?_
  rintro e w1 ⟨b, rfl, hc1, k1⟩
  cases b
  · go_wp2_with fail
    refine (pick_any g cv _ 7 _ hc1 (by omega)).mono ?_
    rintro e w2 ⟨r, rfl, r0, r1, hc2, k2⟩
    have hr : r ≤ 6 := by simpa [pickHi] using r1
    clear r1
    go_wp2_with fail
    go_ret
    exact ⟨r, rfl, r0, by omega, hc2, turn_trans k1 k2 (by omega)⟩
  · go_wp2_with fail
    refine (pick_any g cv _ 2 _ hc1 (by omega)).mono ?_
    rintro e w2 ⟨r, rfl, r0, r1, hc2, k2⟩
    have hr : r ≤ 1 := by simpa [pickHi] using r1
    clear r1
    go_wp2_with fail
    go_ret
    exact ⟨80 + r, rfl, by omega, by omega, hc2, turn_trans k1 k2 (by omega)⟩

/-- two drawn vectors -/
def RetVecs (w : World) (e : Ending) (w' : World) : Prop :=
  ∃ (v u : Value) (l m : List UInt8), e = .returned (.tuple #[v, u]) ∧ Seen w' v (bys l) ∧ Seen w' u (bys m) ∧ l.length ≤ 100 ∧ m.length ≤ 100 ∧ TurnIn 0 0 w w'

set_option maxHeartbeats 1000000 in
theorem drawAdd_any (v : Value) (l : List UInt8) (w : World) (hv : Seen w v (bys l)) :
    Calls Tryd.prog 21 #[v] w (RetVecs w) := by
  obtain ⟨A, c, hvv⟩ := hv.len
  rw [bys_length] at hvv
  subst hvv
  have hc := cur_new hv
  have k0 := turn_alloc w (.cells #[.slice A l.length c, .int .i64 0, .int .u64 0] 50)
  have s0 := k0.size
  go_enter Tryd.func21, Tryd.ntmps21
  go_wp2_with fail
  refine (length_any _ _ 0 _ hc (by omega)).mono ?_
  rintro e w1 ⟨n, rfl, n0, n1, hc1, k1⟩
  obtain ⟨n, rfl⟩ := Int.eq_ofNat_of_zero_le n0
  have s1 := k1.size
  go_wp2_with fail
  refine (one_any _ _ _ 12 _ hc1 (by omega)).mono ?_
  rintro e w2 ⟨b, rfl, hc2, k2⟩
  have s2 := k2.size
  have hgl := hc2.lt
  have key : ∀ p : Nat, p ≤ 100 → p ≤ 100 := fun _ h => h
  cases b
  · go_wp2_with fail
    refine (vector_any _ _ _ n _ hc2 (by omega)).mono ?_
    rintro e w3 ⟨v1, l1, rfl, hl1, ho1, hc3, k3⟩
    have s3 := k3.size
    go_wp2_with fail
    refine (vector_any _ _ _ n _ hc3 (by omega)).mono ?_
    rintro e w4 ⟨v2, l2, rfl, hl2, ho2, hc4, k4⟩
    have HL1 := Lib.hid hl1
    have HL2 := Lib.hid hl2
    have o1 := (OwnBytes.of_made ho1).keep k4 (by omega)
    clear hl1 hl2
    go_wp2_with fail
    go_ret2
    exact ⟨v1, v2, l1, l2, rfl, o1.seen, Seen.of_own ho2, by rw [HL1.out]; omega, by rw [HL2.out]; omega, turn_trans (turn_trans (turn_trans (turn_trans k0 k1 (by omega)) k2 (by omega)) k3 (by omega)) k4 (by omega)⟩
  · have HE : Hid ((n : Int) + 1 = ((n + 1 : Nat) : Int)) := by show _ = _; omega
    go_wp2_with fail
    refine (vector_any _ _ _ n _ hc2 (by omega)).mono ?_
    rintro e w3 ⟨v1, l1, rfl, hl1, ho1, hc3, k3⟩
    have s3 := k3.size
    have HL1 := Lib.hid hl1
    clear hl1
    go_wp2_with fail
    rw [HE.out]
    refine (vector_any _ _ _ (n + 1) _ hc3 (by omega)).mono ?_
    rintro e w4 ⟨v2, l2, rfl, hl2, ho2, hc4, k4⟩
    have HL2 := Lib.hid hl2
    have o1 := (OwnBytes.of_made ho1).keep k4 (by omega)
    clear hl2
    go_wp2_with fail
    go_ret2
    exact ⟨v1, v2, l1, l2, rfl, o1.seen, Seen.of_own ho2, by rw [HL1.out]; omega, by rw [HL2.out]; omega, turn_trans (turn_trans (turn_trans (turn_trans k0 k1 (by omega)) k2 (by omega)) k3 (by omega)) k4 (by omega)⟩

end Go.Proofs.YtmkihipjfcknfaaDoor
