/- Draws of shares, and the laws' sameShares. -/
import Derived.Test.YtgbhcjfnkjhkiaaDoorCur8
import Derived.Test.YtgbhcjfnkjhkiaaDoorConcR
import Derived.BigQuiet
set_option linter.unusedSimpArgs false
set_option linter.unusedVariables false
namespace G294
open Go Go.RowKit
theorem OwnSr.wid {w : World} {E : TypeId} {lo lo' hi : Nat} {v : Value} {l : List Sr} (h : OwnSr E w lo hi v l) (h1 : lo' ≤ lo) : OwnSr E w lo' w.heap.size v l := ⟨own_base h.1 h1, Nat.le_refl _, fun g e => (h.1.lt g e).2⟩
theorem OwnBytes.wid {w : World} {E : TypeId} {lo lo' hi : Nat} {v : Value} {l : List UInt8} (h : OwnBytes E w lo hi v l) (h1 : lo' ≤ lo) : OwnBytes E w lo' w.heap.size v l := ⟨own_base h.1 h1, Nat.le_refl _, fun g e => (h.1.lt g e).2⟩
end G294
namespace Go.Proofs.YtgbhcjfnkjhkiaaDoor
open Go.RowKit G294

def RetShB (w : World) (e : Ending) (w' : World) : Prop := ∃ (v : Value) (l : List Sr) (x : UInt8), e = .returned (.tuple #[v, .int .u8 (x.toNat : Int)]) ∧ l.length ≤ 20 ∧ OwnSr 59 w' w.heap.size w'.heap.size v l ∧ TurnIn 0 0 w w'
def RetShI (w : World) (e : Ending) (w' : World) : Prop := ∃ (v : Value) (l : List Sr) (x : Int), e = .returned (.tuple #[v, .int .i64 x]) ∧ l.length ≤ 20 ∧ OwnSr 59 w' w.heap.size w'.heap.size v l ∧ TurnIn 0 0 w w'
def RetShV (w : World) (e : Ending) (w' : World) : Prop := ∃ (v u : Value) (l : List Sr) (r : List UInt8), e = .returned (.tuple #[v, u]) ∧ l.length ≤ 20 ∧ r.length ≤ 20 ∧ OwnSr 59 w' w.heap.size w'.heap.size v l ∧ OwnBytes 5 w' w.heap.size w'.heap.size u r ∧ TurnIn 0 0 w w'
def RetSh2 (w : World) (e : Ending) (w' : World) : Prop := ∃ (v u : Value) (a b : List Sr), e = .returned (.tuple #[v, u]) ∧ a.length ≤ 20 ∧ b.length ≤ 20 ∧ OwnSr 59 w' w.heap.size w'.heap.size v a ∧ OwnSr 59 w' w.heap.size w'.heap.size u b ∧ TurnIn 0 0 w w'
set_option maxHeartbeats 1000000 in
theorem drawInterpolate_any (v : Value) (l : List UInt8) (w : World) (hv : Seen w v (bys l)) : Calls Tryd.prog 46 #[v] w (RetShB w) := by
  obtain ⟨A, c, hvv⟩ := hv.len
  rw [bys_length] at hvv
  subst hvv
  have hc := cur_new hv
  have k0 := turn_alloc w (.cells #[.slice A l.length c, .int .i64 0, .int .u64 0] 94)
  have s0 := World.size_alloc w (.cells #[.slice A l.length c, .int .i64 0, .int .u64 0] 94)
  go_enter Tryd.func46, Tryd.ntmps46
  go_wp2_with fail
  refine (shares_any _ _ 0 _ hc (by omega)).mono ?_
  rintro e w1 ⟨v1, l1, rfl, hl1, ho1, hc1, k1⟩
  have s1 := k1.size
  have HL1 := Lib.hid hl1
  clear hl1
  go_wp2_with fail
  refine (byte_any _ _ _ _ hc1 (by omega)).mono ?_
  rintro e w2 ⟨x, rfl, hc2, k2⟩
  have o1 := ho1.keep k2 (by omega)
  go_wp2_with fail
  go_ret2
  exact ⟨v1, l1, x, rfl, HL1.out, o1.wid (by omega), turn_trans (turn_trans k0 k1 (by omega)) k2 (by omega)⟩

set_option maxHeartbeats 1000000 in
theorem drawOpenSecret_any (v : Value) (l : List UInt8) (w : World) (hv : Seen w v (bys l)) : Calls Tryd.prog 126 #[v] w (RetShI w) := by
  obtain ⟨A, c, hvv⟩ := hv.len
  rw [bys_length] at hvv
  subst hvv
  have hc := cur_new hv
  have k0 := turn_alloc w (.cells #[.slice A l.length c, .int .i64 0, .int .u64 0] 94)
  have s0 := World.size_alloc w (.cells #[.slice A l.length c, .int .i64 0, .int .u64 0] 94)
  go_enter Tryd.func126, Tryd.ntmps126
  go_wp2_with fail
  refine (shares_any _ _ 0 _ hc (by omega)).mono ?_
  rintro e w1 ⟨v1, l1, rfl, hl1, ho1, hc1, k1⟩
  have s1 := k1.size
  have HL1 := Lib.hid hl1
  clear hl1
  go_wp2_with fail
  refine (pick_any _ _ _ 6 _ hc1 (by omega)).mono ?_
  rintro e w2 ⟨x, rfl, _, _, hc2, k2⟩
  have o1 := ho1.keep k2 (by omega)
  go_wp2_with fail
  go_ret2
  exact ⟨v1, l1, x, rfl, HL1.out, o1.wid (by omega), turn_trans (turn_trans k0 k1 (by omega)) k2 (by omega)⟩

set_option maxHeartbeats 1000000 in
theorem drawIsShared_any (v : Value) (l : List UInt8) (w : World) (hv : Seen w v (bys l)) : Calls Tryd.prog 59 #[v] w (RetShI w) := by
  have HV := Lib.hid hv
  clear hv
  go_enter Tryd.func59, Tryd.ntmps59
  go_wp2_with fail
  refine (drawOpenSecret_any _ l _ HV.out).mono ?_
  rintro e w1 ⟨v1, l1, x, rfl, hl1, ho1, k1⟩
  have HL1 := Lib.hid hl1
  clear hl1
  go_wp2_with fail
  go_ret2
  exact ⟨v1, l1, x, rfl, HL1.out, ho1, k1⟩

set_option maxHeartbeats 1000000 in
theorem drawRefresh_any (v : Value) (l : List UInt8) (w : World) (hv : Seen w v (bys l)) : Calls Tryd.prog 56 #[v] w (RetShV w) := by
  obtain ⟨A, c, hvv⟩ := hv.len
  rw [bys_length] at hvv
  subst hvv
  have hc := cur_new hv
  have k0 := turn_alloc w (.cells #[.slice A l.length c, .int .i64 0, .int .u64 0] 94)
  have s0 := World.size_alloc w (.cells #[.slice A l.length c, .int .i64 0, .int .u64 0] 94)
  go_enter Tryd.func56, Tryd.ntmps56
  go_wp2_with fail
  refine (shares_any _ _ 0 _ hc (by omega)).mono ?_
  rintro e w1 ⟨v1, l1, rfl, hl1, ho1, hc1, k1⟩
  have s1 := k1.size
  have HL1 := Lib.hid hl1
  clear hl1
  go_wp2_with fail
  refine (pick_any _ _ _ 10 _ hc1 (by omega)).mono ?_
  rintro e w2 ⟨x, rfl, x0, x1, hc2, k2⟩
  have s2 := k2.size
  obtain ⟨x, rfl⟩ := Int.eq_ofNat_of_zero_le x0
  have x9 : x ≤ 9 := by have : pickHi 10 = 9 := rfl; omega
  have o1 := ho1.keep k2 (by omega)
  clear x0 x1
  go_wp2_with fail
  refine (vector_any _ _ _ x _ hc2 (by omega)).mono ?_
  rintro e w3 ⟨v3, l3, rfl, hl3, ho3, hc3, k3⟩
  have HL3 := Lib.hid hl3
  have o2 := o1.keep k3 (by omega)
  have o3 := OwnBytes.of_made ho3
  clear hl3
  go_wp2_with fail
  go_ret2
  exact ⟨v1, v3, l1, l3, rfl, HL1.out, by rw [HL3.out]; omega, o2.wid (by omega), o3.wid (by omega), turn_trans (turn_trans (turn_trans k0 k1 (by omega)) k2 (by omega)) k3 (by omega)⟩

set_option maxRecDepth 100000 in
set_option maxHeartbeats 2000000 in
theorem drawAddShares_any (v : Value) (l : List UInt8) (w : World) (hv : Seen w v (bys l)) : Calls Tryd.prog 53 #[v] w (RetSh2 w) := by
  obtain ⟨A, c, hvv⟩ := hv.len
  rw [bys_length] at hvv
  subst hvv
  have hc := cur_new hv
  have k0 := turn_alloc w (.cells #[.slice A l.length c, .int .i64 0, .int .u64 0] 94)
  have s0 := World.size_alloc w (.cells #[.slice A l.length c, .int .i64 0, .int .u64 0] 94)
  go_enter Tryd.func53, Tryd.ntmps53
  go_wp2_with fail
  refine (shares_any _ _ 0 _ hc (by omega)).mono ?_
  rintro e w1 ⟨v1, l1, rfl, hl1, ho1, hc1, k1⟩
  have s1 := k1.size
  have HL1 := Lib.hid hl1
  clear hl1
  go_wp2_with fail
  refine (one_any _ _ _ 6 _ hc1 (by omega)).mono ?_
  rintro e w2 ⟨b, rfl, hc2, k2⟩
  have s2 := k2.size
  have o1 := ho1.keep k2 (by omega)
  have kk := turn_trans (turn_trans k0 k1 (by omega)) k2 (by omega)
  generalize hg0 : w.heap.size = g at *
  have HG := Lib.hid hg0
  clear k0 k1 k2 hc hc1 ho1
  cases b
  · obtain ⟨A1, c1, hv1⟩ := o1.seen.len
    subst hv1
    have ta := turn_alloc w2 (.cells #[] 59)
    have za := World.size_alloc w2 (.cells #[] 59)
    have HEM : Hid ((w2.alloc (.cells #[] 59)).ownsRow w2.heap.size 59 2 (.slice (some ⟨w2.heap.size, 0, none⟩) 0 0) 0 (srs [])) := ⟨rfl, .inr ⟨w2.heap.size, 0, #[], rfl, Nat.le_refl _, heap_alloc_new w2 _, Nat.le_refl _, by unfold maxLen; omega, rfl, rfl⟩⟩
    have HO1 := Lib.hid (o1.keep ta (by omega))
    have HC2 := Lib.hid (hc2.keep ta (by omega))
    have HKK := Lib.hid (turn_trans kk ta (by omega))
    have hgl := hc2.lt
    generalize hn1 : l1.length = n at *
    have HN1 := Lib.hid hn1
    have hn20 : n ≤ 20 := HL1.out
    clear hn1 hc2 o1 kk ta HL1
    go_wp2_with (at_builtin; refine wpList_appendRs rfl _ _ _ rfl w2.heap.size 59 _ _ Tryd.underlying53 infoShare rfl (by omega) _ 0 [] l1 rfl HEM.out _ rfl HO1.out.seen HO1.out.nilOk ?c1 ?c3 ?_)
    case c1 => rw [HN1.out]; omega
    case c3 => simp
    intro v6 w6 ho6 hg6
    try rw [HN1.out] at ho6
    try simp only [Nat.zero_add, List.nil_append] at ho6
    have t6 := grow_turn HEM.out hg6
    have hc6 := HC2.out.keep t6 (by omega)
    have o6 := HO1.out.keep t6 (by omega)
    have k6 := turn_trans HKK.out t6 (by rw [HG.out]; omega)
    obtain ⟨A6, c6, hv6⟩ := (OwnSr.seen (hi := w6.heap.size) (l := l1) (E := 59) (lo := w2.heap.size) ⟨by rw [HN1.out]; exact ho6, Nat.le_refl _, fun g e => (ho6.lt g e).2⟩).len
    rw [HN1.out] at hv6
    subst hv6
    generalize hD : w2.heap.size = D at *
    have z6 : D ≤ w6.heap.size := by have := t6.size; omega
    clear t6 hg6 HEM HO1 HC2 HKK hD za
    go_wp2_with fail
    go_loopw [23] (fun i wr => ∃ (k : Nat) (lb : List Sr), k ≤ n ∧ i = .int .i64 k ∧ lb.length = n ∧ wr.ownsRow D 59 2 (.slice A6 n c6) n (srs lb) ∧ OwnSr 59 wr (g + 1) w1.heap.size (.slice A1 n c1) l1 ∧ CurAt wr g (.slice A l.length c) (102 + 4 * k) ∧ TurnIn 0 0 w wr ∧ D ≤ wr.heap.size)
      (fun i _ => n - (intOf i).toNat)
    case atStart => exact ⟨0, l1, Nat.zero_le _, rfl, HN1.out, ho6, by rw [s0] at o6; exact o6, hc6.more (by omega), k6, z6⟩
    case round =>
      obtain ⟨k, lb, hk, rfl, hlb, hob, hoa, hcu, kT, zT⟩ := hrel
      clear ho6 o6 hc6 k6 z6
      have HLB := Lib.hid hlb
      by_cases hlt : k < n
      · have hki : (k : Int) < (n : Int) := by omega
        rcases hob.2 with ⟨_, h0⟩ | ⟨gg, cap, cur, e6, hbg, _, hnc, hcm, _, _⟩
        · omega
        simp only [Value.slice.injEq] at e6
        obtain ⟨rfl, _, rfl⟩ := e6
        clear hlb
        go_wp2_with fail
        refine (byte_any _ _ _ _ hcu (by omega)).mono ?_
        rintro e w9 ⟨z, rfl, hc9, k9⟩
        have ho9 := own_far hob k9 (by omega)
        have hoa9 := hoa.keep k9 (by omega)
        have kT9 := turn_trans kT k9 (by rw [HG.out]; omega)
        have z9 := k9.size
        have hkl : k < lb.length := by rw [HLB.out]; exact hlt
        have hd1 : w9.cell? ⟨gg, k * 2 + 1, none⟩ = some (.int .u8 (lb[k].2.toNat : Int)) := by rw [ho9.cellAt (k * 2 + 1) (by omega), srs_data _ k hkl]
        have hf1 := ho9.frozenAt (k * 2 + 1)
        have hst := (ho9.stored (k * 2 + 1) (.int .u8 (z.toNat : Int))).1
        rw [srs_setY lb k z hkl] at hst
        have tS := turn_set w9 gg (k * 2 + 1) (.int .u8 (z.toNat : Int))
        have HCS := Lib.hid (hc9.keep tS (by omega))
        have HOA := Lib.hid (hoa9.keep tS (by omega))
        have HKS : Hid (TurnIn 0 0 w _) := turn_trans kT9 tS (by rw [HG.out]; omega)
        have HLS := Lib.hid (show (lb.set k (lb[k].1, z)).length = n by rw [List.length_set]; exact HLB.out)
        have HST := Lib.hid hst
        generalize lb.set k (lb[k].1, z) = l9 at *
        generalize lb[k] = old at *
        clear hst tS ho9 kT9 hoa9 hc9 k9 hob hoa hcu kT hkl
        go_wp2_with fail
        go_roundw
        case rel => exact ⟨k + 1, l9, by omega, by go_num, HLS.out, HST.out, HOA.out, HCS.out.more (by omega), HKS.out, by simp; omega⟩
        case measure => simp [intOf]; omega
      · obtain rfl : k = n := by omega
        have hki : ¬ (k : Int) < (k : Int) := by omega
        clear hlb
        go_wp2_with fail
        go_ret2
        exact ⟨_, _, l1, lb, rfl, by rw [HN1.out]; exact hn20, by rw [HLB.out]; exact hn20, hoa.wid (by rw [HG.out]; omega), ⟨by rw [HLB.out]; exact own_base hob (by rw [HG.out]; omega), Nat.le_refl _, fun g e => (hob.lt g e).2⟩, kT⟩
  · go_wp2_with fail
    refine (shares_any _ _ _ _ hc2 (by omega)).mono ?_
    rintro e w3 ⟨v3, l3, rfl, hl3, ho3, hc3, k3⟩
    have HL3 := Lib.hid hl3
    have o2 := o1.keep k3 (by omega)
    clear hl3
    go_wp2_with fail
    go_ret2
    exact ⟨_, _, l1, l3, rfl, HL1.out, HL3.out, o2.wid (by rw [HG.out]; omega), ho3.wid (by rw [HG.out]; omega), turn_trans kk k3 (by rw [HG.out]; omega)⟩

set_option maxRecDepth 100000 in
set_option maxHeartbeats 1000000 in
theorem sameShares_same (v u : Value) (l : List Sr) (w : World) (hv : SeenR w v l) (hu : SeenR w u l) : Calls Tryd.prog 38 #[v, u] w (RetBool w true) := by
  obtain ⟨A, c, rfl, hlc, hcm, hx⟩ := hv
  obtain ⟨A', c', rfl, hlc', hcm', hx'⟩ := hu
  unfold maxLen at hcm hcm'
  generalize hnn : l.length = n at *
  have HN := Lib.hid hnn
  clear hnn
  have hbn : ((n : Int) != (n : Int)) = false := by simp
  go_enter Tryd.func38, Tryd.ntmps38
  go_wp2_with fail
  go_loopw [13] (fun i wr => ∃ k : Nat, k ≤ n ∧ i = .int .i64 k ∧ Below w.heap.size w wr)
    (fun i _ => n - (intOf i).toNat)
  case atStart => exact ⟨0, Nat.zero_le _, rfl, Below.refl _ _⟩
  case round =>
    obtain ⟨k, hk, rfl, hb⟩ := hrel
    by_cases hlt : k < n
    · obtain ⟨b, off, rfl, hbl, hcell⟩ := hx (by omega)
      obtain ⟨b', off', rfl, hbl', hcell'⟩ := hx' (by omega)
      obtain ⟨⟨no, s⟩, hks⟩ := at_ltR HN.out hlt
      have hc1 := (hb.cell (p := ⟨b, off + k * 2, none⟩) hbl).trans (hcell k _ hks).1
      have hc2 := (hb.cell (p := ⟨b, off + k * 2 + 1, none⟩) hbl).trans (hcell k _ hks).2
      have hd1 := (hb.cell (p := ⟨b', off' + k * 2, none⟩) hbl').trans (hcell' k _ hks).1
      have hd2 := (hb.cell (p := ⟨b', off' + k * 2 + 1, none⟩) hbl').trans (hcell' k _ hks).2
      simp only at hc1 hc2 hd1 hd2
      generalize (no.toNat : Int) = x at *
      generalize (s.toNat : Int) = y at *
      have hki : (k : Int) < (n : Int) := by omega
      clear hcell hcell' hx hx'
      go_wp2_with fail
      go_quiet (fail)
      go_wp2_with fail
      go_roundw
      case rel => exact ⟨k + 1, by omega, by go_num, below_drewN hb _⟩
      case measure => simp [intOf]; omega
    · obtain rfl : k = n := by omega
      have hki : ¬ (k : Int) < (k : Int) := by omega
      go_wp2_with fail
      go_ret
      exact ⟨rfl, TurnIn.of_below hb⟩

end Go.Proofs.YtgbhcjfnkjhkiaaDoor
