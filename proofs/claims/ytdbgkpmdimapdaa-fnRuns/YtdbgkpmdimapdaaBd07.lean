/- Joined texts: CurRu, CurRv, TailHeld, RepX, TxtX, FstX. -/
import Derived.Test.YtdbgkpmdimapdaaBd03
import Derived.Test.YtdbgkpmdimapdaaBd05
import Derived.Test.YtdbgkpmdimapdaaBd04
import Derived.Test.YtdbgkpmdimapdaaBd06
import Derived.BigQuiet
import Derived.Test.YtdbgkpmdimapdaaBd00
import Derived.OrdersHeld
import Derived.StillTail
import Derived.Deep.RegionHeld
import Derived.Test.YtdbgkpmdimapdaaBd01
import Derived.Laws.CopyOwn
import Derived.Laws.Entries
import Derived.Lib.MakeNoZero
import Derived.Deep.RegionLaw
import Derived.RegionTactic
import Derived.BigRegion
set_option linter.unusedSimpArgs false
set_option linter.unusedVariables false
/- Chapter 12: the cursor's runs, and a text that is spoilt. -/
namespace G294
open Go Go.RowKit
theorem ext_dropZ (s : List UInt8) (k n : Nat) (h : s.length ≤ n) : (str s).extract k n = str (s.drop k) := by
  rw [extract_str]
  congr 1
  rw [List.take_of_length_le]; simp; omega
theorem rus_setLong (l : List Ru) (i : Nat) (y : Int) (h : i < l.length) : (rus l).set (i * 2 + 1) (.int .i64 y) = rus (l.set i (l[i].1, y)) := by
  induction l generalizing i with
  | nil => simp at h
  | cons s l ih =>
    cases i with
    | zero => rfl
    | succ i =>
      rw [show (i + 1) * 2 + 1 = i * 2 + 1 + 1 + 1 by omega]
      simp only [rus, List.set_cons_succ, List.getElem_cons_succ, ih i (by simpa using h)]
theorem rus_setByte (l : List Ru) (i : Nat) (x : UInt8) (h : i < l.length) : (rus l).set (i * 2) (.int .u8 (x.toNat : Int)) = rus (l.set i (x, l[i].2)) := by
  induction l generalizing i with
  | nil => simp at h
  | cons s l ih =>
    cases i with
    | zero => rfl
    | succ i =>
      rw [show (i + 1) * 2 = i * 2 + 1 + 1 by omega]
      simp only [rus, List.set_cons_succ, List.getElem_cons_succ, ih i (by simpa using h)]
theorem turn_drewR (w : World) (q : Nat) : TurnIn 0 0 w (w.drewN q) := ⟨rfl, rfl, rfl, Nat.le_refl _, fun _ _ _ => rfl⟩
theorem row_long {w : World} {base g m cp k : Nat} {E : TypeId} {L : List Ru} (ho : w.ownsRow base E 2 (.slice (some ⟨g, 0, none⟩) m cp) m (rus L)) (hk : k < m) :
    w.frozen? ⟨g, k * 2 + 1, none⟩ = false ∧ (∃ u, w.cell? ⟨g, k * 2 + 1, none⟩ = some u) ∧ ∀ y : Int, ∃ L', L'.length = L.length ∧ (w.setCell ⟨g, k * 2 + 1, none⟩ (.int .i64 y)).ownsRow base E 2 (.slice (some ⟨g, 0, none⟩) m cp) m (rus L') := by
  have hL : L.length = m := by have := ho.1; simp at this; omega
  refine ⟨ho.frozenAt _, ⟨_, by rw [ho.cellAt (k * 2 + 1) (by omega)]; exact rus_data _ k (by omega)⟩, fun y => ⟨L.set k (L[k].1, y), by simp, ?_⟩⟩
  rw [← rus_setLong _ k y (by omega)]
  exact (ho.stored (k * 2 + 1) (.int .i64 y)).1
theorem row_byte {w : World} {base g m cp k : Nat} {E : TypeId} {L : List Ru} (ho : w.ownsRow base E 2 (.slice (some ⟨g, 0, none⟩) m cp) m (rus L)) (hk : k < m) :
    w.frozen? ⟨g, k * 2, none⟩ = false ∧ (∃ u, w.cell? ⟨g, k * 2, none⟩ = some u) ∧ ∀ x : UInt8, ∃ L', L'.length = L.length ∧ (w.setCell ⟨g, k * 2, none⟩ (.int .u8 (x.toNat : Int))).ownsRow base E 2 (.slice (some ⟨g, 0, none⟩) m cp) m (rus L') := by
  have hL : L.length = m := by have := ho.1; simp at this; omega
  refine ⟨ho.frozenAt _, ⟨_, by rw [ho.cellAt (k * 2) (by omega)]; exact rus_no _ k (by omega)⟩, fun x => ⟨L.set k (x, L[k].2), by simp, ?_⟩⟩
  rw [← rus_setByte _ k x (by omega)]
  exact (ho.stored (k * 2) (.int .u8 (x.toNat : Int))).1
/-- runs that are seen, of a number bounded -/
theorem seenRu_of_own {w : World} {base m : Nat} {E : TypeId} {v : Value} {L : List Ru} (ho : w.ownsRow base E 2 v m (rus L)) (hm : L.length = m) : SeenRu w v L := by
  subst hm
  rcases ho.2 with ⟨hv, _⟩ | ⟨g, cp, cur, rfl, hb, hg, hc, hx⟩
  · have h0 : L.length = 0 := by
      rcases ho.2 with ⟨_, h⟩ | ⟨g, cp, cur, e, _⟩
      · omega
      · rw [hv] at e; cases e
    exact ⟨none, 0, by rw [hv, h0], by omega, by unfold maxLen; omega, fun h => by omega⟩
  · refine ⟨_, cp, rfl, hc, hx.1, fun _ => ⟨g, 0, rfl, (Array.getElem?_eq_some_iff.1 hg).1, fun i s hs => ?_⟩⟩
    obtain ⟨hi, e⟩ := List.getElem?_eq_some_iff.1 hs
    subst e
    rw [Nat.zero_add]
    exact ⟨by rw [ho.cellAt (i * 2) (by omega)]; exact rus_no _ i hi, by rw [ho.cellAt (i * 2 + 1) (by omega)]; exact rus_data _ i hi⟩
end G294
namespace Go.Proofs.Ytdbgkpmdimapdaa
open Go.RowKit G294

/-- a text is spoilt -/
def DrawsSp (w : World) (g : Nat) (cv : Value) (n L : Nat) (e : Ending) (w' : World) : Prop := ∃ r : List UInt8, e = .returned (.string (str r)) ∧ r.length ≤ L ∧ CurAt w' g cv n ∧ TurnIn g (g + 1) w w'

set_option maxRecDepth 100000 in
set_option maxHeartbeats 4000000 in
theorem spoilt_any (g : Nat) (cv : Value) (m L : Nat) (t0 W : List UInt8) (w : World) (hc : CurAt w g cv m) (hm : m ≤ 1000000) (ht : t0.length ≤ L) (hL : L ≤ 1000000000) (hW : W.length = 3) :
    Calls Try.prog 83 #[.pointer (some ⟨g, 0, none⟩), .string (str t0), .string (str W)] w (DrawsSp w g cv (m + 20) (L + 2)) := by
  obtain ⟨i0, hi0, hz0, hz1, hz2⟩ := info_parts infoByte
  have hz2' : i0.bytes = 1 := hz2
  have hgw := hc.lt
  have hsw := str_size W
  have HWG := Lib.hid (fun k h => str_get W k h)
  rw [hW] at hsw
  have HWG := Lib.hid (fun k (h : k < 3) => HWG.out k (by omega))
  go_enter Try.func83, Try.ntmps83
  go_wp2_with fail
  refine (pick_any g cv m 3 _ hc (by omega)).mono ?_
  rintro e w1 ⟨x, rfl, x0, x1, hc1, k1⟩
  have hx : x ≤ 2 := by simpa [pickHi] using x1
  obtain ⟨x, rfl⟩ := Int.eq_ofNat_of_zero_le x0
  have hx2 : x ≤ 2 := by omega
  have HC1 := Lib.hid hc1
  have HK1 := Lib.hid k1
  clear x1 x0 hx hc1 k1 hc
  go_wp2_with fail
  go_loopw [1, 7] (fun v y wr => ∃ (k : Nat) (t : List UInt8), k ≤ 2 ∧ y = .int .i64 k ∧ v = .string (str t) ∧ t.length + k ≤ L + 2 ∧ Hid (CurAt wr g cv (m + 2 + 6 * (2 - k))) ∧ Hid (TurnIn g (g + 1) w wr)) (fun _ y _ => (intOf y).toNat)
  case atStart => exact ⟨x, t0, hx2, rfl, rfl, by omega, Lib.hid (HC1.out.more (by omega)), HK1⟩
  case round =>
    clear HC1 HK1
    obtain ⟨k, t, hk, rfl, rfl, htl, HC, HK⟩ := hrel
    have hsz := str_size t
    by_cases hlt : 0 < k
    · have hki : (0 : Int) < (k : Int) := by omega
      by_cases htz : 0 < t.length
      · have hti : (0 : Int) < (t.length : Int) := by omega
        obtain ⟨q, rfl⟩ : ∃ q, k = q + 1 := ⟨k - 1, by omega⟩
        generalize hzz : t.length = z at *
        have HZ := Lib.hid hzz
        clear hzz
        go_wp2_with fail
        refine (pick_any g cv _ z _ HC.out (by omega)).mono ?_
        rintro e w2 ⟨i, rfl, i0', i1', hc2, k2⟩
        have hin : i < z := by
          unfold pickHi at i1'
          split at i1' <;> omega
        obtain ⟨i, rfl⟩ := Int.eq_ofNat_of_zero_le i0'
        have hiz : i < z := by omega
        have HC2 := Lib.hid hc2
        have HK2 := Lib.hid (turn_trans HK.out k2 (by omega))
        clear i1' i0' hc2 k2 HC HK hin
        go_wp2_with fail
        refine (pick_any g cv _ 3 _ HC2.out (by omega)).mono ?_
        rintro e w3 ⟨j, rfl, j0', j1', hc3, k3⟩
        have hj2 : j ≤ 2 := by simpa [pickHi] using j1'
        obtain ⟨j, rfl⟩ := Int.eq_ofNat_of_zero_le j0'
        have hj3 : j < 3 := by omega
        have HC3 := Lib.hid hc3
        have HK3 := Lib.hid (turn_trans HK2.out k3 (by omega))
        have hgj := HWG.out j hj3
        clear j1' j0' hc3 k3 HC2 HK2 hj2
        generalize W.getD j 0 = b at *
        have hseen : Seen (w3.alloc (.cells #[.int .u8 (b.toNat : Int)] 5)) (.slice (some ⟨w3.heap.size, 0, none⟩) 1 1) (bys [b]) := by
          refine ⟨_, 1, rfl, Nat.le_refl _, by unfold maxLen; omega, fun _ => ⟨_, 0, rfl, by rw [World.size_alloc]; omega, fun i u hu => ?_⟩⟩
          match i, hu with
          | 0, hu => simp [bys] at hu; subst hu; simp
        have hconv := run_string_seen (P := Try.prog) 22 5 9 Try.underlying22 Try.underlying5 Try.underlying9 hseen
        have ka := turn_alloc w3 (.cells #[.int .u8 (b.toNat : Int)] 5)
        have HCA := Lib.hid (HC3.out.keep ka (by have := HC3.out.lt; omega))
        have HKA := Lib.hid (turn_trans HK3.out ka (by omega))
        clear ka HC3 HK3 hseen
        go_wp2_with fail
        refine (pick_any g cv _ 3 _ HCA.out (by omega)).mono ?_
        rintro e w4 ⟨y, rfl, y0', y1', hc4, k4⟩
        have HC4 := Lib.hid (hc4.more (m := m + 2 + 6 * (2 - q)) (by omega))
        have HK4 := Lib.hid (turn_trans HKA.out k4 (by omega))
        have E1 := pre_extP t i
        have E2 := ext_dropZ t i z (by rw [HZ.out]; omega)
        have E3 := ext_dropZ t (i + 1) z (by rw [HZ.out]; omega)
        have S1 : (str (t.take i)).size = i := by rw [str_size, List.length_take, HZ.out]; omega
        have S2 : (str (t.drop i)).size = z - i := by rw [str_size, List.length_drop, HZ.out]
        have S3 : (str (t.drop (i + 1))).size = z - (i + 1) := by rw [str_size, List.length_drop, HZ.out]
        have S4 : (str [b]).size = 1 := rfl
        have A1 : str (t.take i) ++ str [b] = str (t.take i ++ [b]) := str_append _ _
        have S5 : (str (t.take i ++ [b])).size = i + 1 := by rw [str_size, List.length_append, List.length_take, HZ.out]; simp; omega
        clear y1' hc4 k4 HCA HKA hconv
        by_cases hy0 : y = 0
        · subst hy0
          go_wp2_with fail
          go_quiet (fail)
          go_wp2_with fail
          refine ⟨⟨q, t.take i ++ [b] ++ t.drop i, by omega, rfl, by rw [str_append], by simp only [List.length_append, List.length_take, List.length_drop, List.length_singleton, HZ.out]; omega, Lib.hid (HC4.out.keep (turn_drewR w4 nq) (Or.inr (Nat.zero_le _))), Lib.hid (turn_trans HK4.out (turn_drewR w4 nq) (by omega))⟩, by simp [intOf] <;> omega⟩
        · have hyb : (y == 0) = false := beq_eq_false_iff_ne.2 hy0
          by_cases hy1 : y = 1
          · subst hy1
            go_wp2_with fail
            go_quiet (fail)
            go_wp2_with fail
            refine ⟨⟨q, t.take i ++ [b] ++ t.drop (i + 1), by omega, rfl, by rw [str_append], by simp only [List.length_append, List.length_take, List.length_drop, List.length_singleton, HZ.out]; omega, Lib.hid (HC4.out.keep (turn_drewR w4 nq) (Or.inr (Nat.zero_le _))), Lib.hid (turn_trans HK4.out (turn_drewR w4 nq) (by omega))⟩, by simp [intOf] <;> omega⟩
          · have hyc : (y == 1) = false := beq_eq_false_iff_ne.2 hy1
            go_wp2_with fail
            go_quiet (fail)
            go_wp2_with fail
            refine ⟨⟨q, t.take i ++ t.drop (i + 1), by omega, rfl, by rw [str_append], by simp only [List.length_append, List.length_take, List.length_drop, List.length_singleton, HZ.out]; omega, Lib.hid (HC4.out.keep (turn_drewR w4 nq) (Or.inr (Nat.zero_le _))), Lib.hid (turn_trans HK4.out (turn_drewR w4 nq) (by omega))⟩, by simp [intOf] <;> omega⟩
      · have hti : ¬ (0 : Int) < (t.length : Int) := by omega
        go_wp2_with fail
        go_ret
        exact ⟨t, rfl, by omega, HC.out.more (by omega), HK.out⟩
    · obtain rfl : k = 0 := by omega
      have hki : ¬ (0 : Int) < ((0 : Nat) : Int) := by omega
      go_wp2_with fail
      go_ret
      exact ⟨t, rfl, by omega, HC.out.more (by omega), HK.out⟩

end Go.Proofs.Ytdbgkpmdimapdaa

/- Chapter 12: the cursor's runs; the encodings that are drawn. -/
namespace G294
open Go Go.RowKit
theorem turn_setR (w : World) (B o : Nat) (x : Value) : TurnIn B (B + 1) w (w.setCell ⟨B, o, none⟩ x) :=
  ⟨rfl, rfl, rfl, by simp, fun k hk hd => heap_setCell_other w _ k x (by rcases hd with h | h <;> simp <;> omega)⟩
end G294
namespace Go.Proofs.Ytdbgkpmdimapdaa
open Go.RowKit G294

/-- some runs are drawn -/
def DrawsRu (w : World) (g : Nat) (cv : Value) (n : Nat) (e : Ending) (w' : World) : Prop := ∃ (v : Value) (l : List Ru), e = .returned v ∧ SeenRu w' v l ∧ l.length ≤ 200 ∧ CurAt w' g cv n ∧ TurnIn g (g + 1) w w'

set_option maxRecDepth 100000 in
set_option maxHeartbeats 4000000 in
theorem runs_any (g : Nat) (cv : Value) (m : Nat) (w : World) (hc : CurAt w g cv m) (hm : m ≤ 100000) :
    Calls Try.prog 82 #[.pointer (some ⟨g, 0, none⟩)] w (DrawsRu w g cv (m + 160)) := by
  have hgw := hc.lt
  go_enter Try.func82, Try.ntmps82
  go_wp2_with fail
  refine (moved_any g cv m _ hc (by omega)).mono ?_
  rintro e w1 ⟨s, rfl, hs, hc1, k1⟩
  have HSR := Lib.hid (fun W => sRunsOf_own s W (by omega))
  have HRL := Lib.hid (rnsR_len s)
  generalize rnsR s = l at *
  generalize mvdOk s = ok at *
  have HC1 := Lib.hid hc1
  have HK1 := Lib.hid k1
  clear hc hc1 k1 hs
  go_wp2_with fail
  refine (HSR.out _).mono ?_
  rintro e w2 ⟨v, rfl, ho, k2⟩
  have HO := Lib.hid ho
  have hsz1 := HK1.out.size
  have HC2 := Lib.hid (HC1.out.keep k2 (Or.inr (Nat.zero_le _)))
  have HK2 := Lib.hid (turn_trans HK1.out k2 (by omega))
  clear k2 HC1 HK1 HSR ho
  rcases HO.out.1.2 with ⟨rfl, _⟩ | ⟨b, cp, cur, rfl, hbg, hrest⟩
  · have hl0 : l.length = 0 := by
      rcases HO.out.1.2 with ⟨_, h⟩ | ⟨g', cp, cur, e, _⟩
      · omega
      · cases e
    go_wp2_with fail
    go_ret
    exact ⟨_, l, rfl, HO.out.seen, HRL.out, HC2.out.more (by omega), HK2.out⟩
  · clear hrest
    generalize hzz : l.length = z at *
    have HZ := Lib.hid hzz
    clear hzz
    by_cases hz0 : 0 < z
    · have hzi : (0 : Int) < (z : Int) := by omega
      go_wp2_with fail
      refine (one_any g cv _ 8 _ HC2.out (by omega)).mono ?_
      rintro e w3 ⟨x, rfl, hc3, k3⟩
      have HC3 := Lib.hid hc3
      have HO3 := Lib.hid (HO.out.keep k3 (Or.inr (by omega)))
      have HK3 := Lib.hid (turn_trans HK2.out k3 (by omega))
      clear hc3 k3 HO HK2 HC2
      cases x with
      | false =>
        go_wp2_with fail
        go_ret
        exact ⟨_, l, rfl, HO3.out.seen, by have := HRL.out; rw [HZ.out]; omega, HC3.out.more (by omega), HK3.out⟩
      | true =>
        go_wp2_with fail
        refine (pick_any g cv _ z _ HC3.out (by omega)).mono ?_
        rintro e w4 ⟨i, rfl, i0', i1', hc4, k4⟩
        have hin : i < z := by
          unfold pickHi at i1'
          split at i1' <;> omega
        obtain ⟨i, rfl⟩ := Int.eq_ofNat_of_zero_le i0'
        have hiz : i < z := by omega
        have HC4 := Lib.hid hc4
        have HO4 := Lib.hid (HO3.out.keep k4 (Or.inr (by omega)))
        have HK4 := Lib.hid (turn_trans HK3.out k4 (by omega))
        clear i1' i0' hc4 k4 HO3 HK3 HC3 hin
        go_wp2_with fail
        refine (one_any g cv _ 2 _ HC4.out (by omega)).mono ?_
        rintro e w5 ⟨x, rfl, hc5, k5⟩
        have HC5 := Lib.hid hc5
        have HO5 := Lib.hid (HO4.out.keep k5 (Or.inr (by omega)))
        have HK5 := Lib.hid (turn_trans HK4.out k5 (by omega))
        clear hc5 k5 HO4 HK4 HC4
        cases x with
        | true =>
          have hsz5 := HK5.out.size
          have ka := turn_alloc w5 (.cells #[.int .i64 0, .int .i64 1, .int .i64 200, .int .i64 201] 3)
          have HCA := Lib.hid (HC5.out.keep ka (by have := HC5.out.lt; omega))
          have HKA := Lib.hid (turn_trans HK5.out ka (by omega))
          have HOA := Lib.hid (HO5.out.keep ka (by have := HO5.out.2.1; omega))
          have HAM := Lib.hid (among_any g cv _ w5.heap.size 4 [0, 1, 200, 201] _ HCA.out (by omega) (by decide) (by decide) (by decide) (by omega) (by have := HC5.out.lt; omega) (by rw [World.size_alloc]; omega) (fun i u hu => by
            match i, hu with
            | 0, hu => simp [ints] at hu; subst hu; simp
            | 1, hu => simp [ints] at hu; subst hu; simp
            | 2, hu => simp [ints] at hu; subst hu; simp
            | 3, hu => simp [ints] at hu; subst hu; simp))
          clear ka HO5 HK5 HC5
          go_wp2_with fail
          refine HAM.out.mono ?_
          rintro e w6 ⟨y, rfl, _, hc6, k6⟩
          have HC6 := Lib.hid hc6
          have HO6 := Lib.hid (HOA.out.keep k6 (Or.inr (by omega)))
          have HK6 := Lib.hid (turn_trans HKA.out k6 (by omega))
          clear hc6 k6 HOA HKA HCA HAM
          obtain ⟨f1, ⟨u, c1⟩, hst⟩ := row_long (show w6.ownsRow w1.heap.size 86 2 (.slice (some ⟨b, 0, none⟩) z cp) z (rus l) from HZ.out ▸ HO6.out.1) hiz
          obtain ⟨L', hL', ho'⟩ := hst y
          rw [HZ.out] at hL'
          have kS := turn_setR w6 b (i * 2 + 1) (.int .i64 y)
          have HCS := Lib.hid (HC6.out.keep kS (by omega))
          have HKS := Lib.hid (turn_trans HK6.out kS (by omega))
          have HSS := Lib.hid (seenRu_of_own ho' hL')
          have HL' := Lib.hid hL'
          clear hst kS ho' hL'
          go_wp2_with fail
          go_ret
          exact ⟨_, L', rfl, HSS.out, by have := HL'.out; have := HRL.out; omega, HCS.out.more (by omega), HKS.out⟩
        | false =>
          obtain ⟨f1, ⟨u, c1⟩, hst⟩ := row_byte (show w5.ownsRow w1.heap.size 86 2 (.slice (some ⟨b, 0, none⟩) z cp) z (rus l) from HZ.out ▸ HO5.out.1) hiz
          obtain ⟨L', hL', ho'⟩ := hst 97
          have h97 : (((97 : UInt8).toNat : Nat) : Int) = 97 := rfl
          rw [h97] at ho'
          rw [HZ.out] at hL'
          have kS := turn_setR w5 b (i * 2) (.int .u8 97)
          have HCS := Lib.hid (HC5.out.keep kS (by omega))
          have HKS := Lib.hid (turn_trans HK5.out kS (by omega))
          have HSS := Lib.hid (seenRu_of_own ho' hL')
          have HL' := Lib.hid hL'
          clear hst kS ho' hL'
          go_wp2_with fail
          go_ret
          exact ⟨_, L', rfl, HSS.out, by have := HL'.out; have := HRL.out; omega, HCS.out.more (by omega), HKS.out⟩
    · obtain rfl : z = 0 := by omega
      have hzi : ¬ (0 : Int) < ((0 : Nat) : Int) := by omega
      go_wp2_with fail
      go_ret
      exact ⟨_, l, rfl, HO.out.seen, by have := HRL.out; rw [HZ.out]; omega, HC2.out.more (by omega), HK2.out⟩

/-- some text, drawn from a new cursor -/
def RetSx (w : World) (e : Ending) (w' : World) : Prop := ∃ r : List UInt8, e = .returned (.string (str r)) ∧ r.length ≤ 602 ∧ TurnIn 0 0 w w'

set_option maxHeartbeats 2000000 in
theorem drawUnpackRuns_any (v : Value) (l : List UInt8) (w : World) (hv : Seen w v (bys l)) : Calls Try.prog 44 #[v] w (RetSx w) := by
  obtain ⟨A, c, hvv⟩ := hv.len
  rw [bys_length] at hvv
  subst hvv
  have hc := cur_new hv
  have k0 := turn_alloc w (.cells #[.slice A l.length c, .int .i64 0, .int .u64 0] 67)
  have HP := Lib.hid (runs_any w.heap.size _ 0 _ hc (by omega))
  have HK := Lib.hid k0
  clear hc k0
  go_enter Try.func44, Try.ntmps44
  go_wp2_with fail
  refine HP.out.mono ?_
  rintro e w1 ⟨vr, r, rfl, hsr, hrl, hc1, k1⟩
  have HF := Lib.hid (turn_trans HK.out k1 (by omega))
  have HC1 := Lib.hid hc1
  have HPK := Lib.hid (sPackRuns_own vr r w1 hsr)
  have HPL : Hid ((pkdR r).length ≤ 600) := by
    show _ ≤ _
    by_cases hg : goodRs r = true
    · rw [pkdR_yes hg]; have := pk_len hg (Nat.le_refl r.length); rwa [List.take_length] at this
    · rw [pkdR_no (by simpa using hg)]; simp
  generalize pkdR r = p at *
  generalize goodRs r = ok at *
  clear k1 hc1 hsr hrl
  go_wp2_with fail
  refine HPK.out.mono ?_
  rintro e w2 ⟨rfl, k2⟩
  have HC2 := Lib.hid (HC1.out.keep k2 (Or.inr (Nat.zero_le _)))
  have HF2 := Lib.hid (turn_trans HF.out k2 (by omega))
  clear k2 HC1 HF HPK
  go_wp2_with fail
  refine (one_any w.heap.size _ _ 3 _ HC2.out (by omega)).mono ?_
  rintro e w3 ⟨x, rfl, hc3, k3⟩
  have HC3 := Lib.hid hc3
  have HF3 := Lib.hid (turn_trans HF2.out k3 (by omega))
  clear hc3 k3 HC2 HF2
  cases x with
  | false =>
    go_wp2_with fail
    go_ret
    exact ⟨p, rfl, by have := HPL.out; omega, HF3.out⟩
  | true =>
    have HSP := Lib.hid (spoilt_any w.heap.size _ _ 600 p [0, 97, 97] _ HC3.out (by omega) HPL.out (by omega) rfl)
    go_wp2_with fail
    refine HSP.out.mono ?_
    rintro e w4 ⟨r4, rfl, h4, _, k4⟩
    have HF4 := Lib.hid (turn_trans HF3.out k4 (by omega))
    have H4 := Lib.hid h4
    clear k4 h4
    go_wp2_with fail
    go_ret
    exact ⟨r4, rfl, H4.out, HF4.out⟩

end Go.Proofs.Ytdbgkpmdimapdaa

/- Regions that draw their order and end in one operation that waits for all others: behind it nothing is asked of the cells that the loads read. -/
namespace G294
open Go Go.RowKit
section
variable {P : Program} {md : Region.Mode} {ops : Array Oper} {Q : Exit → Act → World → Prop} {S : World → Prop} {L : Nat}
/-- whatever comes up next; behind each operation but the last, L, S holds -/
def wpAnyT (P : Program) (md : Region.Mode) (ops : Array Oper) (Q : Exit → Act → World → Prop) (S : World → Prop) (L : Nat) : Nat → Array Bool → Act → World → Prop
  | 0, listed, a, w => Region.ready md ops listed = [] ∧ Q .normal a w
  | fuel + 1, listed, a, w =>
    (Region.ready md ops listed = [] → Q .normal a w) ∧
    ∀ i ∈ Region.ready md ops listed, wpOp P ops Q i (fun a' w' => (i ≠ L → S w') ∧ wpAnyT P md ops Q S L fuel (listed.setIfInBounds i true) a' w') a w
theorem wpAny_of_T : ∀ (fuel : Nat) (listed : Array Bool) (a : Act) (w : World), wpAnyT P md ops Q S L fuel listed a w → wpAny P md ops Q fuel listed a w
  | 0, _, _, _, h => h
  | fuel + 1, _, _, _, h => ⟨h.1, fun i hi => wpOp_mono (fun a' w' h' => wpAny_of_T fuel _ a' w' h'.2) (h.2 i hi)⟩
theorem not_ready {i j : Nat} {listed : Array Bool} (hw : Region.waitsFor md ops j i = true) (hi : i ∈ Region.ready md ops listed) : j ∉ Region.ready md ops listed := fun hj => by
  obtain ⟨oj, hoj, e, he, hb, hon⟩ := Region.waitsFor_spec hw
  obtain ⟨_, oj', hoj', hall⟩ := mem_ready.1 hj
  obtain rfl : oj' = oj := Option.some.inj (hoj'.symm.trans hoj)
  have h1 := hall e he hb
  have h0 := (mem_ready.1 hi).1
  rw [hon] at h1
  rcases Nat.lt_or_ge i listed.size with h' | h'
  · simp [h'] at h0 h1; rw [h0] at h1; cases h1
  · simp [Array.getElem?_eq_none h'] at h1
theorem wpAnyT_first {i : Nat} {oi : Oper} {v : Value} (hi : ops[i]? = some oi) (hsel : ∀ (j : Nat) (o : Oper) cs b, ops[j]? = some o → o.op ≠ .select cs b)
    (hQ : ∀ c a w, Q (.panic c) (a.put oi.dst v) w → Q (.panic c) a w) (hwl : Region.waitsFor md ops L i = true) :
    ∀ (fuel : Nat) (listed : Array Bool) (a : Act) (w : World),
      (∀ j oj, ops[j]? = some oj → j ≠ i → listed.getD j true = false → (∀ e ∈ oj.after, Region.binds md e = true → e.on ≠ i) → oi.apart ops oj = true) →
      i ∈ Region.ready md ops listed → YieldsIf P ops S oi v a → S w →
      wpAnyT P md ops Q S L fuel (listed.setIfInBounds i true) (a.put oi.dst v) w → wpAnyT P md ops Q S L (fuel + 1) listed a w := by
  intro fuel
  induction fuel with
  | zero =>
    intro listed a w _ hr hy hS H
    refine ⟨fun h => (by rw [h] at hr; cases hr), fun j hj => ?_⟩
    by_cases hji : j = i
    · subst hji; exact hy.wpOp hi hS ⟨fun _ => hS, H⟩
    · have h5 := ready_mono hj hji
      rw [H.1] at h5
      cases h5
  | succ fuel ih =>
    intro listed a w hfree hr hy hS H
    refine ⟨fun h => (by rw [h] at hr; cases hr), fun j hj => ?_⟩
    by_cases hji : j = i
    · subst hji; exact hy.wpOp hi hS ⟨fun _ => hS, H⟩
    · have hjL : j ≠ L := fun e => not_ready hwl hr (e ▸ hj)
      obtain ⟨hjun, oj, hoj, hall⟩ := mem_ready.1 hj
      have hnot : ∀ e ∈ oj.after, Region.binds md e = true → e.on ≠ i := fun e he hb heq => by
        have h1 := hall e he hb
        have h0 := (mem_ready.1 hr).1
        rw [heq] at h1
        rcases Nat.lt_or_ge i listed.size with h' | h'
        · simp [h'] at h0 h1; rw [h0] at h1; cases h1
        · simp [Array.getElem?_eq_none h'] at h1
      have h2 := wpOp_putIf hoj (hfree j oj hoj hji hjun hnot) (fun cs b => hsel i oi cs b hi) (fun cs b => hsel j oj cs b hoj) hQ hy (H.2 j (ready_mono hj hji))
      refine wpOp_mono (fun a' w' h3 => ⟨h3.2.1, ih (listed.setIfInBounds j true) a' w' (fun k ok hk hki hun hno => ?_) (ready_mono hr (Ne.symm hji)) h3.1 (h3.2.1 hjL) ?_⟩) h2
      · refine hfree k ok hk hki ?_ hno
        by_cases hjk : j = k
        · subst hjk; exact hjun
        · rw [getD_set_ne true hjk] at hun; exact hun
      · rw [Array.setIfInBounds_comm _ _ hji]
        exact h3.2.2
theorem wpAnyT_take {i : Nat} {oi : Oper} {v : Value} {fuel : Nat} {listed : Array Bool} {a : Act} {w : World} (hi : ops[i]? = some oi)
    (hs : Region.noSelect ops = true) (hf : Region.free md ops listed i = true) (hr : (Region.ready md ops listed).contains i = true) (hwl : Region.waitsFor md ops L i = true)
    (hQ : ∀ c a w, Q (.panic c) (a.put oi.dst v) w → Q (.panic c) a w) (hy : YieldsIf P ops S oi v a) (hS : S w)
    (h : wpAnyT P md ops Q S L fuel (listed.setIfInBounds i true) (a.put oi.dst v) w) : wpAnyT P md ops Q S L (fuel + 1) listed a w :=
  wpAnyT_first hi (Region.noSelect_spec hs) hQ hwl fuel listed a w (Region.free_spec hi hf) (by simpa using hr) hy hS h
/-- one operation alone may come up -/
theorem wpAnyT_one {i : Nat} {o : Oper} {fuel : Nat} {listed : Array Bool} {a : Act} {w : World} (ho : ops[i]? = some o) (hr : Region.ready md ops listed = [i])
    (h : ∀ K' : Act → World → Prop, Shut (∀ a w, (i ≠ L → S w) → wpAnyT P md ops Q S L fuel (listed.setIfInBounds i true) a w → K' a w) → if Region.wanted o (yielded ops a.tmps) = true then Oper.wp P o a w K' Q else K' (a.put o.dst undef) w) :
    wpAnyT P md ops Q S L (fuel + 1) listed a w :=
  ⟨fun h0 => (by rw [hr] at h0; cases h0), fun j hj => by
    rw [hr] at hj
    obtain rfl : j = i := by simpa using hj
    exact wpOp_step ho (fun K' hK => h K' (fun a w hS hW => hK a w ⟨hS, hW⟩))⟩
theorem wpAnyT_done {listed : Array Bool} {a : Act} {w : World} (hr : Region.ready md ops listed = []) (h : Q .normal a w) : ∀ fuel, wpAnyT P md ops Q S L fuel listed a w
  | 0 => ⟨hr, h⟩
  | _ + 1 => ⟨fun _ => h, by rw [hr]; simp⟩
theorem wp_region_tail {id : Nat} {a : Act} {w : World} (S : World → Prop) (L : Nat) (hm : P.follows .mixedOrders = true)
    (h : wpAnyT P .any ops Q S L ops.size (Array.replicate ops.size false) a w.drew) : (Code.region id ops true).wp P Q a w :=
  wp_region_any hm (wpAny_of_T _ _ _ _ h)
end
end G294

/- bytes.Repeat of one byte. -/
namespace G294
open Go Go.RowKit
theorem and32 {n : Nat} (h : n ≤ 200) : bits BinOp.and IntKind.u64 (n : Int) 4294967295 = (n : Int) := by
  show IntKind.u64.wrap ((BitVec.ofInt 64 n &&& BitVec.ofInt 64 4294967295).toNat : Int) = (n : Int)
  have e : (BitVec.ofInt 64 4294967295).toNat = 2 ^ 32 - 1 := by decide
  have e2 : (BitVec.ofInt 64 (n : Int)).toNat = n := by simp; omega
  rw [BitVec.toNat_and, e, e2, Nat.and_two_pow_sub_one_eq_mod, Nat.mod_eq_of_lt (by omega)]
  simp [IntKind.wrap, IntKind.bits, IntKind.signed]; omega
theorem wrapU {n : Nat} (h : n ≤ 1000) : IntKind.u64.wrap (n : Int) = n := by simp [IntKind.wrap, IntKind.bits, IntKind.signed]; omega
theorem wrap_kc {k c : Nat} (h : k + c ≤ 1000) : IntKind.i64.wrap ((k : Int) + (c : Int)) = ((k + c : Nat) : Int) := by rw [IntKind.wrap_i64]; omega
/-- the first k cells of a row hold one byte -/
def Fill (cur : List Value) (b : UInt8) (k : Nat) : Prop := ∀ j, j < k → cur[j]? = some (.int .u8 (b.toNat : Int))
theorem fill_splice {cur : List Value} {b : UInt8} {k c : Nat} (h : Fill cur b k) (hk : k ≤ cur.length) : Fill (splice cur k (bys (List.replicate c b))) b (k + c) := by
  intro j hj
  unfold splice
  rcases Nat.lt_or_ge j k with h1 | h1
  · rw [List.getElem?_append_left (by simp; omega), List.getElem?_take_of_lt h1]; exact h j h1
  · rw [List.getElem?_append_right (by simp; omega), List.length_take, Nat.min_eq_left hk, List.getElem?_append_left (by simp; omega), bys_get _ _ (by simp; omega)]
    simp
theorem fill_load {w : World} {B k c : Nat} {cur : List Value} {T : TypeId} {b : UInt8} (hg : w.heap[B]? = some (.cells cur.toArray T (0, 0))) (hf : Fill cur b k) (hc : c ≤ k) {j : Nat} {v : Value} (hj : (bys (List.replicate c b))[j]? = some v) : w.cell? ((⟨B, 0, none⟩ : Addr).add j) = some v := by
  have hi : j < c := by
    rcases Nat.lt_or_ge j c with h | h
    · exact h
    · rw [List.getElem?_eq_none (by simpa [bys] using h)] at hj; cases hj
  rw [bys_get _ _ (by simpa using hi)] at hj
  cases hj
  have := hf j (by omega)
  rw [Addr.add_lit, Nat.zero_add]
  simp [World.cell?, hg, this]
theorem fill_seen {w : World} {B n : Nat} {cur : List Value} {T : TypeId} {b : UInt8} (hg : w.heap[B]? = some (.cells cur.toArray T (0, 0))) (hf : Fill cur b n) (hn : n ≤ maxLen) : Seen w (.slice (some ⟨B, 0, none⟩) n n) (bys (List.replicate n b)) := by
  refine ⟨some ⟨B, 0, none⟩, n, by simp [bys], by simp [bys], hn, fun _ => ⟨B, 0, rfl, (Array.getElem?_eq_some_iff.1 hg).1, fun i u hu => ?_⟩⟩
  have hi : i < n := by
    rcases Nat.lt_or_ge i n with h | h
    · exact h
    · rw [List.getElem?_eq_none (by simpa [bys] using h)] at hu; cases hu
  rw [bys_get _ _ (by simpa using hi)] at hu
  cases hu
  have := hf i hi
  simp [World.cell?, hg, this]
end G294
namespace Go.Proofs.Ytdbgkpmdimapdaa
open Go.RowKit G294

set_option maxRecDepth 100000 in
set_option maxHeartbeats 1000000 in
theorem mul64_one (n : Nat) (w : World) (hn : n ≤ 200) : Calls Try.prog 113 #[.int .u64 1, .int .u64 n] w fun e w' => e = .returned (.tuple #[.int .u64 0, .int .u64 n]) ∧ w = w' := by
  have ha := and32 hn
  have h1 : bits BinOp.and IntKind.u64 1 4294967295 = 1 := and32 (n := 1) (by omega)
  have h0 : bits BinOp.and IntKind.u64 0 4294967295 = 0 := and32 (n := 0) (by omega)
  have hw := wrapU (n := n) (by omega)
  have hd : (n : Int) / 4294967296 = 0 := by omega
  go_enter Try.func113, Try.ntmps113
  go_wp2_with fail
  go_ret2
  refine ⟨?_, rfl⟩
  simp [ha, h1, h0, hd]

set_option maxRecDepth 100000 in
set_option maxHeartbeats 1000000 in
theorem mul_one (n : Nat) (w : World) (hn : n ≤ 200) : Calls Try.prog 95 #[.int .u64 1, .int .u64 n] w fun e w' => e = .returned (.tuple #[.int .u64 0, .int .u64 n]) ∧ w = w' := by
  have H := Lib.hid (fun W => mul64_one n W hn)
  go_enter Try.func95, Try.ntmps95
  go_wp2_with fail
  refine (H.out _).mono ?_
  rintro e w' ⟨rfl, rfl⟩
  go_wp2_with fail
  go_ret2
  exact ⟨rfl, rfl⟩

theorem sizeByteR : (Try.prog.info? 5).map (·.size) = some 1 := by kernel_rfl

set_option maxRecDepth 100000 in
set_option maxHeartbeats 1000000 in
theorem repeat_own (g n : Nat) (b : UInt8) (w : World) (hc : w.cell? ⟨g, 0, none⟩ = some (.int .u8 (b.toNat : Int))) (hg : g < w.heap.size) (h1 : 1 ≤ n) (h2 : n ≤ 200) :
    Calls Try.prog 80 #[.slice (some ⟨g, 0, none⟩) 1 1, .int .i64 n] w fun e w' => ∃ v, e = .returned v ∧ (∃ B, v = .slice (some ⟨B, 0, none⟩) n n) ∧ Seen w' v (bys (List.replicate n b)) ∧ TurnIn 0 0 w w' := by
  have HM := Lib.hid (fun W => mul_one n W h2)
  have hw := wrapU (n := n) (by omega)
  have hn0 : ((n : Int) == 0) = false := by rw [beq_eq_false_iff_ne]; omega
  obtain ⟨cs, hrunM, hle, _⟩ := Lib.run_makeNoZero (P := Try.prog) w #[3] 22 5 Try.underlying22 n (by omega)
  have hcall : (callFunc 96 #[.int .i64 (n : Int)]).run Try.prog w = .ok (.value (.slice (some ⟨w.heap.size, 0, none⟩) n cs.size)) ((w.alloc (.cells cs 5)).drewN 2) := by
    rw [run_callFunc_extern Try.func96 (by kernel_rfl) (by kernel_rfl) (by kernel_rfl) (e := Extern.BytealgMakeNoZero.makeNoZero #[3] #[22]) (by kernel_rfl), hrunM]
    rfl
  clear hrunM
  have i1 : (n : Int) ≤ (cs.size : Int) := by omega
  have hb2 : Below w.heap.size w ((w.alloc (.cells cs 5)).drewN 2) := below_drewN ((Below.refl _ _).alloc (Nat.le_refl _) _) 2
  have hcg : ((w.alloc (.cells cs 5)).drewN 2).cell? ⟨g, 0, none⟩ = some (.int .u8 (b.toNat : Int)) := (hb2.cell (p := ⟨g, 0, none⟩) hg).trans hc
  have HG2 : Hid (((w.alloc (.cells cs 5)).drewN 2).heap[w.heap.size]? = some (.cells cs.toList.toArray 5 (0, 0))) := by
    show _ = _
    rw [Array.toArray_toList]
    exact heap_alloc_new w _
  have HB2 := Lib.hid hb2
  have HLC : Hid (n ≤ cs.toList.length) := by show _ ≤ _; simpa using hle
  have HF0 : Hid (Fill (splice cs.toList 0 (bys (List.replicate 1 b))) b 1) := Lib.hid (by have := fill_splice (cur := cs.toList) (b := b) (k := 0) (c := 1) (fun j hj => by omega) (Nat.zero_le _); simpa using this)
  have HLS : Hid (n ≤ (splice cs.toList 0 (bys (List.replicate 1 b))).length) := by
    show _ ≤ _
    rw [length_splice _ _ _ (by simp [bys]; have := HLC.out; simp at this; omega)]
    exact HLC.out
  have hm1 : Nat.min 1 n = 1 := by simp [Nat.min_def]; omega
  generalize hcu : cs.toList = cu at *
  clear hb2 hcu
  go_enter Try.func80, Try.ntmps80
  go_wp2_with fail
  refine (HM.out _).mono ?_
  rintro e w' ⟨rfl, rfl⟩
  go_wp2_with (refine wpList_copy_splice rfl _ _ _ _ rfl 5 Try.underlying22 sizeByteR _ _ _ _ _ _ rfl rfl w.heap.size 0 cu 5 HG2.out (bys (List.replicate 1 b)) ?c1 ?c2 ?c3 (fun y hy => bys_one y _ hy) w.heap.size w HB2.out (Nat.le_refl _) ?_)
  case c1 => simp [bys]; omega
  case c2 =>
    intro j v hj
    obtain rfl : j = 0 := by
      rcases Nat.eq_zero_or_pos j with h | h
      · exact h
      · rw [List.getElem?_eq_none (by simp [bys]; omega)] at hj; cases hj
    simp [bys] at hj
    subst hj
    exact hc
  case c3 => simp [bys]; have := HLC.out; omega
  intro w3 HG3 hb3
  have HB3 := Lib.hid hb3
  clear hb3 HG2 HB2 hcg hcall hc
  go_wp2_with fail
  go_loopw [10] (fun q W => ∃ (k : Nat) (cur : List Value), 1 ≤ k ∧ k ≤ n ∧ q = .int .i64 k ∧ Hid (W.heap[w.heap.size]? = some (.cells cur.toArray 5 (0, 0))) ∧ Hid (n ≤ cur.length) ∧ Hid (Fill cur b k) ∧ Hid (Below w.heap.size w W)) (fun q _ => n - (intOf q).toNat)
  case atStart => exact ⟨1, splice cu 0 (bys (List.replicate 1 b)), Nat.le_refl _, h1, rfl, HG3, HLS, HF0, HB3⟩
  case round =>
    clear HG3 HLS HF0 HB3 HLC
    obtain ⟨k, cur, hk1, hkn, rfl, HG, HL, HF, HB⟩ := hrel
    by_cases hlt : k < n
    · have hki : (k : Int) < (n : Int) := by omega
      have hmin : min (k : Int) (n : Int) = (k : Int) := by omega
      obtain ⟨c, hcm⟩ : ∃ c, c = Nat.min k (n - k) := ⟨_, rfl⟩
      have hc1 : 1 ≤ c ∧ c ≤ k ∧ k + c ≤ n := by rw [hcm]; simp only [Nat.min_def]; split <;> omega
      have HCM := Lib.hid hcm
      have HLS2 : Hid (n ≤ (splice cur k (bys (List.replicate c b))).length) := by
        show _ ≤ _
        rw [length_splice _ _ _ (by simp [bys]; have := HL.out; omega)]
        exact HL.out
      have HF2 := Lib.hid (fill_splice (c := c) HF.out (by have := HL.out; omega))
      clear hcm
      go_wp2_with fail
      refine wp_region_tail (fun _ : World => True) 9 (by kernel_rfl) ?_
      have hS : (fun _ : World => True) w := trivial
      refine wpAnyT_take (i := 0) (oi := _) (v := ?vA0) rfl (by kernel_rfl) (by kernel_rfl) (by kernel_rfl) (by kernel_rfl) (fun _ _ _ h => h) (Or.inl ⟨by rfl, ?hyA0⟩) hS ?restA0
      case hyA0 => (intro W hW; obtain _ := hW; go_simp; try with_reducible rfl)
      simp only [List.getElem_toArray, List.getElem_cons_zero, List.getElem_cons_succ, Act.put, List.setIfInBounds_toArray, List.set_cons_zero, List.set_cons_succ]
      refine wpAnyT_take (i := 1) (oi := _) (v := ?vA1) rfl (by kernel_rfl) (by kernel_rfl) (by kernel_rfl) (by kernel_rfl) (fun _ _ _ h => h) (Or.inl ⟨by rfl, ?hyA1⟩) hS ?restA1
      case hyA1 => (intro W hW; obtain _ := hW; go_simp; try with_reducible rfl)
      simp only [List.getElem_toArray, List.getElem_cons_zero, List.getElem_cons_succ, Act.put, List.setIfInBounds_toArray, List.set_cons_zero, List.set_cons_succ]
      refine wpAnyT_take (i := 2) (oi := _) (v := ?vA2) rfl (by kernel_rfl) (by kernel_rfl) (by kernel_rfl) (by kernel_rfl) (fun _ _ _ h => h) (Or.inl ⟨by rfl, ?hyA2⟩) hS ?restA2
      case hyA2 => (intro W hW; obtain _ := hW; go_simp; try with_reducible rfl)
      simp only [List.getElem_toArray, List.getElem_cons_zero, List.getElem_cons_succ, Act.put, List.setIfInBounds_toArray, List.set_cons_zero, List.set_cons_succ]
      refine wpAnyT_take (i := 3) (oi := _) (v := ?vA3) rfl (by kernel_rfl) (by kernel_rfl) (by kernel_rfl) (by kernel_rfl) (fun _ _ _ h => h) (Or.inl ⟨by rfl, ?hyA3⟩) hS ?restA3
      case hyA3 => (intro W hW; obtain _ := hW; go_simp; try with_reducible rfl)
      simp only [List.getElem_toArray, List.getElem_cons_zero, List.getElem_cons_succ, Act.put, List.setIfInBounds_toArray, List.set_cons_zero, List.set_cons_succ]
      refine wpAnyT_take (i := 4) (oi := _) (v := ?vA4) rfl (by kernel_rfl) (by kernel_rfl) (by kernel_rfl) (by kernel_rfl) (fun _ _ _ h => h) (Or.inl ⟨by rfl, ?hyA4⟩) hS ?restA4
      case hyA4 => (intro W hW; obtain _ := hW; go_simp; try with_reducible rfl)
      simp only [List.getElem_toArray, List.getElem_cons_zero, List.getElem_cons_succ, Act.put, List.setIfInBounds_toArray, List.set_cons_zero, List.set_cons_succ]
      refine wpAnyT_take (i := 5) (oi := _) (v := ?vA5) rfl (by kernel_rfl) (by kernel_rfl) (by kernel_rfl) (by kernel_rfl) (fun _ _ _ h => h) (Or.inl ⟨by rfl, ?hyA5⟩) hS ?restA5
      case hyA5 => (intro W hW; obtain _ := hW; go_simp; try with_reducible rfl)
      simp only [List.getElem_toArray, List.getElem_cons_zero, List.getElem_cons_succ, Act.put, List.setIfInBounds_toArray, List.set_cons_zero, List.set_cons_succ]
      refine wpAnyT_take (i := 6) (oi := _) (v := ?vA6) rfl (by kernel_rfl) (by kernel_rfl) (by kernel_rfl) (by kernel_rfl) (fun _ _ _ h => h) (Or.inl ⟨by rfl, ?hyA6⟩) hS ?restA6
      case hyA6 => (intro W hW; obtain _ := hW; go_simp; try with_reducible rfl)
      simp only [List.getElem_toArray, List.getElem_cons_zero, List.getElem_cons_succ, Act.put, List.setIfInBounds_toArray, List.set_cons_zero, List.set_cons_succ]
      refine wpAnyT_one (i := 7) (o := _) rfl (by kernel_rfl) (fun K hK => ?_)
      refine step_copy_splice rfl _ _ _ _ rfl 5 Try.underlying22 sizeByteR _ _ _ _ _ _ rfl rfl w.heap.size k cur 5 HG.out (bys (List.replicate c b)) ?d1 ?d2 ?d3 (fun y hy => bys_one y _ hy) w.heap.size w HB.out.drew (Nat.le_refl _) ?_
      case d1 => have := HCM.out; simpa [bys] using this
      case d2 => exact fun _ => ⟨if_neg (by omega), _, rfl, fun j v hj => fill_load HG.out HF.out hc1.2.1 hj⟩
      case d3 => have := HL.out; simp [bys]; omega
      intro W4 hg4 hb4
      rw [show (bys (List.replicate c b)).length = c by simp [bys]]
      have HB4 := Lib.hid hb4
      clear hb4
      refine hK.out _ _ (fun h => trivial) ?_
      clear hK K
      try simp only [List.getElem_toArray, List.getElem_cons_zero, List.getElem_cons_succ, Act.put, List.setIfInBounds_toArray, List.set_cons_zero, List.set_cons_succ]
      refine wpAnyT_one (i := 8) (o := _) rfl (by kernel_rfl) (fun K hK => ?_)
      go_simp
      refine hK.out _ _ (fun h => trivial) ?_
      clear hK K
      try simp only [List.getElem_toArray, List.getElem_cons_zero, List.getElem_cons_succ, Act.put, List.setIfInBounds_toArray, List.set_cons_zero, List.set_cons_succ]
      refine wpAnyT_one (i := 9) (o := _) rfl (by kernel_rfl) (fun K hK => ?_)
      go_simp
      refine hK.out _ _ (fun h => trivial) ?_
      clear hK K
      try simp only [List.getElem_toArray, List.getElem_cons_zero, List.getElem_cons_succ, Act.put, List.setIfInBounds_toArray, List.set_cons_zero, List.set_cons_succ]
      refine wpAnyT_done (by kernel_rfl) ?_ _
      go_wp2_with fail
      go_roundw
      case rel => exact ⟨k + c, splice cur k (bys (List.replicate c b)), by omega, by omega, by rw [wrap_kc (by omega)], hg4, HLS2, HF2, HB4⟩
      case measure => simp only [intOf, wrap_kc (show k + c ≤ 1000 by omega)]; simp [intOf]; omega
    · obtain rfl : k = n := by omega
      have hki : ¬ (k : Int) < (k : Int) := by omega
      go_wp2_with fail
      go_ret
      exact ⟨_, rfl, ⟨_, rfl⟩, fill_seen HG.out HF.out (by unfold maxLen; omega), TurnIn.of_below HB.out⟩

end Go.Proofs.Ytdbgkpmdimapdaa

/- Chapter 12: TextOf, the program's and the model's. -/
namespace G294
open Go Go.RowKit
def txtR (l : List Ru) : List UInt8 := if goodRs l = true then txOf l else []
theorem txtR_yes {l : List Ru} (h : goodRs l = true) : txtR l = txOf l := if_pos h
theorem txtR_no {l : List Ru} (h : goodRs l = false) : txtR l = [] := if_neg (by rw [h]; decide)
theorem tx_at {l : List Ru} {k : Nat} {no : UInt8} {y : Int} (h : l[k]? = some (no, y)) : txOf (l.take (k + 1)) = txOf (l.take k) ++ List.replicate y.toNat no := by
  obtain ⟨hk, e⟩ := List.getElem?_eq_some_iff.1 h
  rw [txOf_take hk, e]
theorem own_apart {N B : Nat} {v v' : Value} (h : ∀ g, v.ownBlock = some g → g ≠ B) (hv : v'.ownBlock = v.ownBlock ∨ v'.ownBlock = some N) (hB : B < N) : ∀ g, v'.ownBlock = some g → g ≠ B := by
  intro g e
  rcases hv with hv | hv
  · exact h g (hv.symm.trans e)
  · rw [hv] at e
    cases e
    omega
end G294
namespace Go.Proofs.Ytdbgkpmdimapdaa
open Go.RowKit G294

set_option maxRecDepth 100000 in
set_option maxHeartbeats 2000000 in
theorem textOf_own (v : Value) (l : List Ru) (w : World) (hv : SeenRu w v l) : Calls Try.prog 40 #[v] w (RetStrOk w (txtR l) (goodRs l)) := by
  have HG := Lib.hid (goodRuns_own v l w hv)
  by_cases h : goodRs l = true
  · have HO := Lib.hid h
    have HR := Lib.hid (txtR_yes h)
    rw [HO.out] at HG
    rw [HR.out, HO.out]
    have HRB := Lib.hid (fun k no y h' => @good_at l k no y h h')
    have HPL := Lib.hid (fun k h' => @txTake_le l h k h')
    clear h
    obtain ⟨A, c, rfl, hlc, hcm, hx⟩ := hv
    unfold maxLen at hcm
    generalize hnn : l.length = n at *
    have HN := Lib.hid hnn
    have HTA : Hid (txOf (l.take n) = txOf l) := by show _ = _; rw [← hnn, List.take_length]
    clear hnn
    go_enter Try.func40, Try.ntmps40
    go_wp2_with fail
    refine HG.out.mono ?_
    rintro e w1 ⟨rfl, k1⟩
    have K1 := Lib.hid k1
    clear k1 HG
    have HOW0 : Hid (w1.ownsRow w.heap.size 5 1 (.slice none 0 0) (txOf (l.take 0)).length (bys (txOf (l.take 0)))) := by
      show World.ownsRow _ _ _ _ _ _ _
      exact World.ownsRow_nil _ _ _ _
    go_wp2_with fail
    go_loopw [4, 12] (fun v y wr => ∃ k : Nat, k ≤ n ∧ y = .int .i64 k ∧ Hid (wr.ownsRow w.heap.size 5 1 v (txOf (l.take k)).length (bys (txOf (l.take k)))) ∧ Hid (TurnIn 0 0 w wr)) (fun _ y _ => n - (intOf y).toNat)
    case atStart => exact ⟨0, Nat.zero_le _, rfl, HOW0, Lib.hid K1.out⟩
    case round =>
      clear HOW0
      obtain ⟨k, hk, rfl, HBr, HK⟩ := hrel
      by_cases hlt : k < n
      · have hki : (k : Int) < (n : Int) := by omega
        have hwr := HK.out.size
        obtain ⟨b, off, rfl, hbl, hcell⟩ := hx (by omega)
        obtain ⟨⟨no, y⟩, hks⟩ := at_ltRu HN.out hlt
        have hy := HRB.out k no y hks
        have hpl := HPL.out k hk
        have HPS := Lib.hid (@tx_at l k no y hks)
        have hb := HK.out.to_below
        have hc1 := (hb.cell (p := ⟨b, off + k * 2, none⟩) hbl).trans (hcell k _ hks).1
        have hc2 := (hb.cell (p := ⟨b, off + k * 2 + 1, none⟩) hbl).trans (hcell k _ hks).2
        simp only at hc1 hc2
        clear hcell hx hks hb
        generalize txOf (l.take k) = P at *
        obtain ⟨Y, rfl⟩ : ∃ Y : Nat, y = Y := ⟨y.toNat, by omega⟩
        have hY : 1 ≤ Y ∧ Y ≤ 200 := by omega
        have HY := Lib.hid hY
        have HO2 := Lib.hid ((HBr.out.alloc (.cells #[.int .u8 (no.toNat : Int), .int .i64 (Y : Int)] 86)).alloc (.cells #[.int .u8 (no.toNat : Int)] 5))
        have KA := Lib.hid (turn_trans (turn_trans HK.out (turn_alloc wr (.cells #[.int .u8 (no.toNat : Int), .int .i64 (Y : Int)] 86)) (by omega)) (turn_alloc _ (.cells #[.int .u8 (no.toNat : Int)] 5)) (by omega))
        have HRP := Lib.hid (repeat_own (wr.heap.size + 1) Y no ((wr.alloc (.cells #[.int .u8 (no.toNat : Int), .int .i64 (Y : Int)] 86)).alloc (.cells #[.int .u8 (no.toNat : Int)] 5)) (by simp) (by simp) hY.1 hY.2)
        clear HBr
        go_wp2_with fail
        refine HRP.out.mono ?_
        rintro e w3 ⟨v3, rfl, ⟨B3, hv3⟩, hs3, k3⟩
        have HO3 := Lib.hid (owns_turn0 HO2.out k3)
        have K3 := Lib.hid (turn_trans KA.out k3 (by omega))
        have HS3 := Lib.hid hs3
        have hw3 := K3.out.size
        subst hv3
        clear k3 hs3 HO2 KA HRP
        go_wp2_with (at_builtin; refine wpList_appendB rfl _ _ _ rfl w.heap.size 5 Try.underlying22 infoByte _ _ _ _ rfl HO3.out _ rfl HS3.out ?c7 ?c5 ?c6 ?_)
        case c7 => intro c e; cases e
        case c5 => have := HY.out; simp; omega
        case c6 => omega
        intro v4 w4 hown4 hg4
        have K4 := Lib.hid (growTu K3.out hg4 (fun g e => (HO3.out.lt g e).1))
        have HO4 : Hid (w4.ownsRow w.heap.size 5 1 v4 (txOf (l.take (k + 1))).length (bys (txOf (l.take (k + 1))))) := by
          show World.ownsRow _ _ _ _ _ _ _
          rw [HPS.out]; simpa using hown4
        clear hown4 hg4 HO3 K3 HS3
        go_wp2_with fail
        go_roundw
        case rel => exact ⟨k + 1, by omega, by go_num, HO4, K4⟩
        case measure => simp [intOf]; omega
      · obtain rfl : k = n := by omega
        have hki : ¬ (k : Int) < (k : Int) := by omega
        have hseen := Seen.of_own HBr.out
        obtain ⟨A4, c4, h4⟩ := hseen.len
        rw [bys_length, HTA.out] at h4
        rw [HTA.out] at hseen
        subst h4
        have hconv := run_string_seen (P := Try.prog) 22 5 9 Try.underlying22 Try.underlying5 Try.underlying9 hseen
        clear HBr hseen
        go_wp2_with fail
        go_ret2
        exact ⟨rfl, HK.out⟩
  · have HO : Hid (goodRs l = false) := by show _ = _; simpa using h
    have HR := Lib.hid (txtR_no HO.out)
    rw [HO.out] at HG
    rw [HR.out, HO.out]
    obtain ⟨A, c, rfl⟩ := hv.len
    clear h hv
    go_enter Try.func40, Try.ntmps40
    go_wp2_with fail
    refine HG.out.mono ?_
    rintro e w1 ⟨rfl, k1⟩
    have K1 := Lib.hid k1
    clear k1
    go_wp2_with fail
    go_ret2
    exact ⟨rfl, K1.out⟩

set_option maxRecDepth 100000 in
set_option maxHeartbeats 2000000 in
theorem sTextOf_own (v : Value) (l : List Ru) (w : World) (hv : SeenRu w v l) : Calls Try.prog 54 #[v] w (RetStrOk w (txtR l) (goodRs l)) := by
  have HG := Lib.hid (sGoodRuns_own v l w hv)
  by_cases h : goodRs l = true
  · have HO := Lib.hid h
    have HR := Lib.hid (txtR_yes h)
    rw [HO.out] at HG
    rw [HR.out, HO.out]
    have HRB := Lib.hid (fun k no y h' => @good_at l k no y h h')
    have HPL := Lib.hid (fun k h' => @txTake_le l h k h')
    clear h
    obtain ⟨A, c, rfl, hlc, hcm, hx⟩ := hv
    unfold maxLen at hcm
    generalize hnn : l.length = n at *
    have HN := Lib.hid hnn
    have HTA : Hid (txOf (l.take n) = txOf l) := by show _ = _; rw [← hnn, List.take_length]
    clear hnn
    go_enter Try.func54, Try.ntmps54
    go_wp2_with fail
    refine HG.out.mono ?_
    rintro e w1 ⟨rfl, k1⟩
    have K1 := Lib.hid k1
    clear k1 HG
    have HOW0 : Hid (w1.ownsRow w.heap.size 5 1 (.slice none 0 0) (txOf (l.take 0)).length (bys (txOf (l.take 0)))) := by
      show World.ownsRow _ _ _ _ _ _ _
      exact World.ownsRow_nil _ _ _ _
    go_wp2_with fail
    go_loopw [4, 13] (fun v y wr => ∃ k : Nat, k ≤ n ∧ y = .int .i64 k ∧ Hid (wr.ownsRow w.heap.size 5 1 v (txOf (l.take k)).length (bys (txOf (l.take k)))) ∧ Hid (TurnIn 0 0 w wr)) (fun _ y _ => n - (intOf y).toNat)
    case atStart => exact ⟨0, Nat.zero_le _, rfl, HOW0, Lib.hid K1.out⟩
    case round =>
      clear HOW0
      obtain ⟨k, hk, rfl, HBr, HK⟩ := hrel
      by_cases hlt : k < n
      · have hki : (k : Int) < (n : Int) := by omega
        have hwr := HK.out.size
        obtain ⟨b, off, rfl, hbl, hcell⟩ := hx (by omega)
        obtain ⟨⟨no, y⟩, hks⟩ := at_ltRu HN.out hlt
        have hy := HRB.out k no y hks
        have hpl := HPL.out k hk
        have HPS := Lib.hid (@tx_at l k no y hks)
        have hb := HK.out.to_below
        have hc1 := (hb.cell (p := ⟨b, off + k * 2, none⟩) hbl).trans (hcell k _ hks).1
        have hc2 := (hb.cell (p := ⟨b, off + k * 2 + 1, none⟩) hbl).trans (hcell k _ hks).2
        simp only at hc1 hc2
        clear hcell hx hks hb
        generalize txOf (l.take k) = P at *
        obtain ⟨Y, rfl⟩ : ∃ Y : Nat, y = Y := ⟨y.toNat, by omega⟩
        have hY : 1 ≤ Y ∧ Y ≤ 200 := by omega
        have HNE : Hid (∀ g, u4.ownBlock = some g → g ≠ wr.heap.size) := Lib.hid (fun g e => Nat.ne_of_lt (HBr.out.lt g e).2)
        have HOS : Hid (World.ownsRow (wr.alloc (.cells #[.int .u8 (no.toNat : Int), .int .i64 (Y : Int)] 86)) w.heap.size 5 1 u4 (P ++ List.replicate 0 no).length (bys (P ++ List.replicate 0 no))) := by
          show World.ownsRow _ _ _ _ _ _ _
          rw [List.replicate_zero, List.append_nil]
          exact HBr.out.alloc _
        have HKS := Lib.hid (turn_trans HK.out (turn_alloc wr (.cells #[.int .u8 (no.toNat : Int), .int .i64 (Y : Int)] 86)) (by omega))
        have HC0 := Lib.hid (alloc_ru0 wr (.int .u8 (no.toNat : Int)) (.int .i64 (Y : Int)) 86)
        have HC1 := Lib.hid (alloc_ru1 wr (.int .u8 (no.toNat : Int)) (.int .i64 (Y : Int)) 86)
        have HL := Lib.hid (alloc_ruL wr (.cells #[.int .u8 (no.toNat : Int), .int .i64 (Y : Int)] 86))
        clear HBr HK
        go_wp2_with fail
        generalize wr.alloc (.cells #[.int .u8 (no.toNat : Int), .int .i64 (Y : Int)] 86) = wa at *
        generalize wr.heap.size = B at *
        go_loopw [4, 7] (fun v q W => ∃ j : Nat, j ≤ Y ∧ q = .int .i64 j ∧ Hid (W.ownsRow w.heap.size 5 1 v (P ++ List.replicate j no).length (bys (P ++ List.replicate j no))) ∧ W.cell? ⟨B, 0, none⟩ = some (.int .u8 (no.toNat : Int)) ∧ W.cell? ⟨B, 1, none⟩ = some (.int .i64 (Y : Int)) ∧ B < W.heap.size ∧ Hid (∀ g, v.ownBlock = some g → g ≠ B) ∧ Hid (TurnIn 0 0 w W)) (fun _ q _ => Y - (intOf q).toNat)
        case atStart => exact ⟨0, Nat.zero_le _, rfl, HOS, HC0.out, HC1.out, HL.out, HNE, HKS⟩
        case round =>
          clear HOS HKS HC0 HC1 HL HNE
          obtain ⟨j, hj, rfl, HBj, d0, d1, hBW, HNE, HK⟩ := hrel
          have hWw := HK.out.size
          by_cases hjY : j < Y
          · have hji : (j : Int) < (Y : Int) := by omega
            rename_i W _
            have HO2 := Lib.hid (HBj.out.alloc (.cells #[.int .u8 (no.toNat : Int)] 5))
            have KA := Lib.hid (turn_trans HK.out (turn_alloc _ (.cells #[.int .u8 (no.toNat : Int)] 5)) (by omega))
            have E0 := Lib.hid (fun o => cell_turn (turn_alloc _ o) d0 hBW)
            have E1 := Lib.hid (fun o => cell_turn (turn_alloc _ o) d1 hBW)
            have HLE : Hid ((P ++ List.replicate j no).length = P.length + j) := by show _ = _; simp
            clear HBj
            go_wp2_with (at_builtin; refine wpList_append1 rfl _ _ _ rfl w.heap.size 5 _ _ Try.underlying22 infoByte rfl _ (P ++ List.replicate j no).length _ rfl HO2.out _ (.int .u8 (no.toNat : Int)) rfl ?c1 rfl ?c2 ?c3 ?c4 ?_)
            case c1 => simp
            case c2 => have := HLE.out; omega
            case c3 => omega
            case c4 => simp; omega
            intro v' w3 hown3 hg3 hv3
            have K3 := Lib.hid (growTu KA.out hg3 (fun g e => (HO2.out.lt g e).1))
            have f0 := hg3.cell (E0.out _) (fun e => HNE.out _ e.symm rfl)
            have f1 := hg3.cell (E1.out _) (fun e => HNE.out _ e.symm rfl)
            have HO3 : Hid (w3.ownsRow w.heap.size 5 1 v' (P ++ List.replicate (j + 1) no).length (bys (P ++ List.replicate (j + 1) no))) := by
              show World.ownsRow _ _ _ _ _ _ _
              have e : P ++ List.replicate (j + 1) no = (P ++ List.replicate j no) ++ [no] := by rw [List.replicate_succ', List.append_assoc]
              have e2 : (P ++ List.replicate (j + 1) no).length = P.length + j + 1 := by simp; omega
              rw [e2, e, bys_append]; exact hown3
            have HNE3 : Hid (∀ g, v'.ownBlock = some g → g ≠ B) := Lib.hid (own_apart HNE.out hv3 (by omega))
            have hB3 : B < w3.heap.size := by have := hg3.size; rw [World.size_alloc] at this; omega
            clear hown3 hg3 HO2 KA E0 E1 hv3
            go_wp2_with fail
            go_roundw
            case rel => exact ⟨j + 1, by omega, by go_num, HO3, f0, f1, hB3, HNE3, K3⟩
            case measure => simp [intOf]; omega
          · obtain rfl : j = Y := by omega
            have hji : ¬ (j : Int) < (j : Int) := by omega
            have hyt : ((j : Nat) : Int).toNat = j := Int.toNat_natCast j
            rw [hyt] at HPS
            rw [← HPS.out] at HBj
            go_wp2_with fail
            go_roundw
            case rel => exact ⟨k + 1, by omega, by go_num, HBj, HK⟩
            case measure => simp [intOf]; omega
      · obtain rfl : k = n := by omega
        have hki : ¬ (k : Int) < (k : Int) := by omega
        have hseen := Seen.of_own HBr.out
        obtain ⟨A4, c4, h4⟩ := hseen.len
        rw [bys_length, HTA.out] at h4
        rw [HTA.out] at hseen
        subst h4
        have hconv := run_string_seen (P := Try.prog) 22 5 9 Try.underlying22 Try.underlying5 Try.underlying9 hseen
        clear HBr hseen
        go_wp2_with fail
        go_ret2
        exact ⟨rfl, HK.out⟩
  · have HO : Hid (goodRs l = false) := by show _ = _; simpa using h
    have HR := Lib.hid (txtR_no HO.out)
    rw [HO.out] at HG
    rw [HR.out, HO.out]
    obtain ⟨A, c, rfl⟩ := hv.len
    clear h hv
    go_enter Try.func54, Try.ntmps54
    go_wp2_with fail
    refine HG.out.mono ?_
    rintro e w1 ⟨rfl, k1⟩
    have K1 := Lib.hid k1
    clear k1
    go_wp2_with fail
    go_ret2
    exact ⟨rfl, K1.out⟩

end Go.Proofs.Ytdbgkpmdimapdaa

/- Chapter 12: the run at the front of an encoding, the program's. -/
namespace G294
open Go Go.RowKit
/-- what firstRun returns -/
def fstV (s : List UInt8) : Value :=
  match fstRun s with
  | none => .tuple #[.agg #[.int .u8 0, .int .i64 0], .string (str []), .bool false]
  | some (r, t) => .tuple #[.agg #[.int .u8 (r.1.toNat : Int), .int .i64 r.2], .string (str t), .bool true]
theorem fst_one' {s : List UInt8} (h : s.length = 1) : fstRun s = some ((s.getD 0 0, 1), s.drop 1) := by
  match s, h with
  | [a], _ => rfl
theorem fst_new {s : List UInt8} (h : 2 ≤ s.length) (hn : s.getD 1 0 ≠ s.getD 0 0) : fstRun s = some ((s.getD 0 0, 1), s.drop 1) := by
  match s, h, hn with
  | [a, b], _, hn => have : b ≠ a := hn; simp [fstRun, this]
  | a :: b :: c :: t, _, hn => have : b ≠ a := hn; simp [fstRun, this]
theorem fst_short {s : List UInt8} (h : s.length = 2) (hn : s.getD 1 0 = s.getD 0 0) : fstRun s = none := by
  match s, h, hn with
  | [a, b], _, hn => have : b = a := hn; simp [fstRun, this]
theorem fst_long {s : List UInt8} (h : 3 ≤ s.length) (hn : s.getD 1 0 = s.getD 0 0) : fstRun s = some ((s.getD 0 0, ((s.getD 2 0).toNat : Int) + 2), s.drop 3) := by
  match s, h, hn with
  | a :: b :: c :: t, _, hn => have : b = a := hn; simp [fstRun, this]
theorem fstV_some {s t : List UInt8} {b : UInt8} {y : Int} (h : fstRun s = some ((b, y), t)) : fstV s = .tuple #[.agg #[.int .u8 (b.toNat : Int), .int .i64 y], .string (str t), .bool true] := by simp [fstV, h]
theorem fstV_none {s : List UInt8} (h : fstRun s = none) : fstV s = .tuple #[.agg #[.int .u8 0, .int .i64 0], .string (str []), .bool false] := by simp [fstV, h]
theorem ext_drop (s : List UInt8) (k : Nat) : (str s).extract k s.length = str (s.drop k) := by
  rw [extract_str]
  congr 1
  rw [List.take_of_length_le]; simp
theorem below_run2 (w : World) (o : Obj) (m : Nat) (x y : Value) : Below w.heap.size w ((((w.alloc o).drewN m).setCell ⟨w.heap.size, 0, none⟩ x).setCell ⟨w.heap.size, 1, none⟩ y) :=
  ((below_drewN ((Below.refl _ _).alloc (Nat.le_refl _) o) m).setCell (p := ⟨w.heap.size, 0, none⟩) (Nat.le_refl _) x).setCell (p := ⟨w.heap.size, 1, none⟩) (Nat.le_refl _) y
end G294
namespace Go.Proofs.Ytdbgkpmdimapdaa
open Go.RowKit G294

set_option maxRecDepth 100000 in
set_option maxHeartbeats 2000000 in
theorem firstRun_own (s : List UInt8) (w : World) (h0 : 0 < s.length) (hs : s.length ≤ 1000000000000) : Calls Try.prog 81 #[.string (str s)] w (fun e w' => e = .returned (fstV s) ∧ TurnIn 0 0 w w') := by
  have hsz : (str s).size = s.length := str_size s
  have HSG := Lib.hid (fun k h => str_get s k h)
  have HE1 := ext_drop s 1
  have HE3 := ext_drop s 3
  have HV1 := Lib.hid (fun h => fstV_some (@fst_one' s h))
  have HV2 := Lib.hid (fun h hn => fstV_some (@fst_new s h hn))
  have HV3 := Lib.hid (fun h hn => fstV_none (@fst_short s h hn))
  have HV4 := Lib.hid (fun h hn => fstV_some (@fst_long s h hn))
  have KA := Lib.hid (turn_alloc w (.cells #[.int .u8 0, .int .i64 0] 86))
  generalize hnn : s.length = n at *
  have HLN := Lib.hid hnn
  clear hnn
  by_cases h1 : n = 1
  · have HV := Lib.hid (HV1.out h1)
    have hd : s.drop 1 = [] := by rw [List.drop_eq_nil_iff, HLN.out]; omega
    rw [HV.out, hd]
    have g0 := HSG.out 0 (by omega)
    have HEM : Hid (ByteArray.empty = str []) := Lib.hid rfl
    clear HV HV1 HV2 HV3 HV4 hd
    generalize s.getD 0 0 = c at *
    subst h1
    go_enter Try.func81, Try.ntmps81
    go_wp2_with fail
    go_quiet (fail)
    go_wp2_with fail
    go_region
    all_goals
      go_wp2_with fail
      (try simp only [Exit.inBlock, Exit.then])
      refine bodyPost_ret (v := .tuple #[.agg #[.int .u8 (c.toNat : Int), .int .i64 1], .string (str []), .bool true]) (by simp [results, Try.results81, go_sem, HEM.out]) rfl ?_
      refine ⟨rfl, TurnIn.of_below ?_⟩
      exact below_run2 _ _ _ _ _
  · have hn1 : ((n : Int) == 1) = false := by rw [beq_eq_false_iff_ne]; omega
    have g0 := HSG.out 0 (by omega)
    have g1 := HSG.out 1 (by omega)
    by_cases hb : s.getD 1 0 = s.getD 0 0
    · have hbb : (((s.getD 0 0).toNat : Int) != ((s.getD 0 0).toNat : Int)) = false := bne_self_eq_false _
      rw [hb] at g1
      by_cases h3 : n = 2
      · have HV := Lib.hid (HV3.out h3 hb)
        rw [HV.out]
        clear HV HV1 HV2 HV3 HV4
        generalize s.getD 0 0 = c at *
        subst h3
        go_enter Try.func81, Try.ntmps81
        go_wp2_with fail
        go_quiet (fail)
        go_wp2_with fail
        (try simp only [Exit.inBlock, Exit.then])
        refine bodyPost_ret (v := .tuple #[.agg #[.int .u8 0, .int .i64 0], .string (str []), .bool false]) (by simp [results, Try.results81, go_sem, str_nil]) rfl ?_
        refine ⟨rfl, TurnIn.of_below ?_⟩
        exact below_run2 _ _ _ _ _
      · have HV := Lib.hid (HV4.out (by omega) hb)
        rw [HV.out]
        clear HV HV1 HV2 HV3 HV4
        have g2 := HSG.out 2 (by omega)
        have hn2 : ((n : Int) == 2) = false := by rw [beq_eq_false_iff_ne]; omega
        have hx := (s.getD 2 0).toNat_lt
        generalize s.getD 2 0 = x at *
        generalize s.getD 0 0 = c at *
        go_enter Try.func81, Try.ntmps81
        go_wp2_with fail
        go_quiet (fail)
        go_wp2_with fail
        go_region
        all_goals
          go_wp2_with fail
          (try simp only [Exit.inBlock, Exit.then])
          refine bodyPost_ret (v := .tuple #[.agg #[.int .u8 (c.toNat : Int), .int .i64 ((x.toNat : Int) + 2)], .string (str (s.drop 3)), .bool true]) (by simp [results, Try.results81, go_sem, HE3]) rfl ?_
          refine ⟨rfl, TurnIn.of_below ?_⟩
          exact below_run2 _ _ _ _ _
    · have hbb : (((s.getD 1 0).toNat : Int) != ((s.getD 0 0).toNat : Int)) = true := by rw [bne_iff_ne]; intro e; exact hb (UInt8.toNat_inj.1 (by omega))
      have HV := Lib.hid (HV2.out (by omega) hb)
      rw [HV.out]
      clear HV HV1 HV2 HV3 HV4
      generalize s.getD 0 0 = c at *
      generalize s.getD 1 0 = x at *
      go_enter Try.func81, Try.ntmps81
      go_wp2_with fail
      go_quiet (fail)
      go_wp2_with fail
      go_region
      all_goals
        go_wp2_with fail
        (try simp only [Exit.inBlock, Exit.then])
        refine bodyPost_ret (v := .tuple #[.agg #[.int .u8 (c.toNat : Int), .int .i64 1], .string (str (s.drop 1)), .bool true]) (by simp [results, Try.results81, go_sem, HE1]) rfl ?_
        refine ⟨rfl, TurnIn.of_below ?_⟩
        exact below_run2 _ _ _ _ _

end Go.Proofs.Ytdbgkpmdimapdaa
