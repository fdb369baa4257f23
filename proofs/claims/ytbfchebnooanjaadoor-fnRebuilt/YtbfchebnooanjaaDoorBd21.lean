/- Joined texts: SomeOf, Same3, Cur6, CurR, CurR2, RbtMath, Join2. -/
import Derived.Deep.QuietTactic
import Derived.BigQuiet
import Derived.IntWalk
import Derived.Test.YtbfchebnooanjaaDoorBd19
import Derived.Test.YtbfchebnooanjaaDoorBd11
import Derived.Test.YtbfchebnooanjaaDoorBd00
import Derived.Test.YtbfchebnooanjaaDoorBd02
import Derived.Test.YtbfchebnooanjaaDoorBd03
import Derived.Test.YtbfchebnooanjaaDoorBd10
import Derived.Test.YtbfchebnooanjaaDoorBd20
import Derived.Test.YtbfchebnooanjaaDoorBd09
import Derived.Test.YtbfchebnooanjaaDoorBd18
import Derived.Test.YtbfchebnooanjaaDoorBd06
import Derived.Test.YtbfchebnooanjaaDoorBd16
import Derived.Test.YtbfchebnooanjaaDoorBd12
set_option linter.unusedSimpArgs false
set_option linter.unusedVariables false
/- The laws' someOf. -/
namespace Go.Proofs.YtbfchebnooanjaaDoor
open Go.RowKit G294

/-- whether someOf takes number t for its byte -/
def evenAt (l : List UInt8) (t : Nat) : Bool := (l.getD t 0).toNat % 2 == 0

end Go.Proofs.YtbfchebnooanjaaDoor

/- The laws' comparisons of texts, shards and matrices, and someOf. -/
namespace Go.Proofs.YtbfchebnooanjaaDoor
open Go.RowKit G294

set_option maxRecDepth 100000 in
set_option maxHeartbeats 1000000 in
theorem sameTexts_same (v u : Value) (l : List (List UInt8)) (w : World) (hv : Seen w v (strs l)) (hu : Seen w u (strs l)) :
    Calls Tryd.prog 14 #[v, u] w (RetBool w true) := by
  obtain ⟨A, c, rfl, hlc, hcm, hx⟩ := hv
  obtain ⟨A', c', rfl, hlc', hcm', hx'⟩ := hu
  rw [strs_length] at hlc hx hlc' hx'
  simp only [strs_length]
  unfold maxLen at hcm hcm'
  generalize hnn : l.length = n at *
  have HN := Lib.hid hnn
  clear hnn
  have hbn : ((n : Int) != (n : Int)) = false := by simp
  go_enter Tryd.func14, Tryd.ntmps14
  go_wp2_with fail
  go_loopw [13] (fun i wr => ∃ k : Nat, k ≤ n ∧ i = .int .i64 k ∧ Below w.heap.size w wr)
    (fun i _ => n - (intOf i).toNat)
  case atStart => exact ⟨0, Nat.zero_le _, rfl, Below.refl _ _⟩
  case round =>
    obtain ⟨k, hk, rfl, hb⟩ := hrel
    by_cases hlt : k < n
    · obtain ⟨b, off, rfl, hbl, hcell⟩ := hx (by omega)
      obtain ⟨b', off', rfl, hbl', hcell'⟩ := hx' (by omega)
      have hkl : k < l.length := by rw [HN.out]; exact hlt
      have hcx : wr.cell? ⟨b, off + k, none⟩ = some (.string (str l[k])) := (hb.cell (p := ⟨b, off + k, none⟩) hbl).trans (hcell k _ (strs_get l k hkl))
      have hcy : wr.cell? ⟨b', off' + k, none⟩ = some (.string (str l[k])) := (hb.cell (p := ⟨b', off' + k, none⟩) hbl').trans (hcell' k _ (strs_get l k hkl))
      clear hcell hcell' hx hx'
      have hki : (k : Int) < (n : Int) := by omega
      have hbb := str_same l[k]
      go_wp2_with fail
      go_quiet (fail)
      go_wp2_with fail
      go_roundw
      case rel => exact ⟨k + 1, by omega, by go_num, below_drewN hb _⟩
      case measure => simp [intOf]; omega
    · obtain rfl : k = n := by omega
      have hki : ¬ (k : Int) < (k : Int) := by omega
      go_wp2_with fail
      go_ret
      exact ⟨rfl, TurnIn.of_below hb⟩

end Go.Proofs.YtbfchebnooanjaaDoor

/- The laws' comparison of stripes; the cursor's chosen. -/
namespace Go.Proofs.YtbfchebnooanjaaDoor
open Go.RowKit G294

/-- some ints are drawn -/
def DrawsInts (w : World) (g : Nat) (cv : Value) (m : Nat) (e : Ending) (w' : World) : Prop := ∃ (v : Value) (l : List Int), e = .returned v ∧ w'.ownsRow w.heap.size 3 1 v l.length (ints l) ∧ CurAt w' g cv m ∧ TurnIn g (g + 1) w w'

set_option maxRecDepth 100000 in
set_option maxHeartbeats 2000000 in
theorem chosen_any (g : Nat) (cv : Value) (m n many : Nat) (w : World) (hc : CurAt w g cv m) (hm : m ≤ 1000000) (hn : n ≤ 1000) (hmm : many ≤ 1000) :
    Calls Tryd.prog 53 #[.pointer (some ⟨g, 0, none⟩), .int .i64 n, .int .i64 many] w (DrawsInts w g cv (m + 2 * n)) := by
  have hgw := hc.lt
  go_enter Tryd.func53, Tryd.ntmps53
  go_wp2_with fail
  go_loopw [7, 8] (fun o y wr => ∃ (k : Nat) (l : List Int), k ≤ n ∧ y = .int .i64 k ∧ l.length ≤ k ∧ wr.ownsRow w.heap.size 3 1 o l.length (ints l) ∧ CurAt wr g cv (m + 2 * k) ∧ TurnIn g (g + 1) w wr)
    (fun _ y _ => n - (intOf y).toNat)
  case atStart => exact ⟨0, [], Nat.zero_le _, rfl, Nat.zero_le _, World.ownsRow_nil _ _ _ _, hc.more (by omega), ⟨rfl, rfl, rfl, Nat.le_refl _, fun _ _ _ => rfl⟩⟩
  case round =>
    obtain ⟨k, l, hk, rfl, hlk, hown, hcr, kr⟩ := hrel
    have hsr := kr.size
    have hgr := hcr.lt
    obtain ⟨A7, n7, c7, rfl⟩ := own_isSlice hown
    have hn7 : n7 = l.length := by
      rcases hown.2 with ⟨hh, h0⟩ | ⟨g', c', cur, hh, _⟩
      · simp at hh; omega
      · simp at hh; exact hh.2.1
    subst hn7
    generalize hz : l.length = z at *
    have HZ := Lib.hid hz
    clear hz
    by_cases hlt : k < n
    · have hki : (k : Int) < (n : Int) := by omega
      have hkd : decide ((k : Int) < (n : Int)) = true := by simpa using hki
      by_cases hlm : z < many
      · have hzi : (z : Int) < (many : Int) := by omega
        have hzd : decide ((z : Int) < (many : Int)) = true := by simpa using hzi
        have HT : Hid (∀ W (v' : Value) (w' : World), CurAt W g cv (m + 2 * (k + 1)) → TurnIn g (g + 1) w W → W.ownsRow w.heap.size 3 1 (.slice A7 z c7) z (ints l) → w'.ownsRow w.heap.size 3 1 v' (z + 1) (ints l ++ [.int .i64 k]) → World.grownBy (W.alloc (.cells #[.int .i64 k] 3)) w' (Value.slice A7 z c7).ownBlock → w'.ownsRow w.heap.size 3 1 v' (l ++ [(k : Int)]).length (ints (l ++ [(k : Int)])) ∧ CurAt w' g cv (m + 2 * (k + 1)) ∧ TurnIn g (g + 1) w w') := Lib.hid (fun W v' w' hcW kW hoW ho hg => by
          have sW := kW.size
          have ka := turn_alloc W (.cells #[.int .i64 (k : Int)] 3)
          have ko := turn_own (hoW.alloc (.cells #[.int .i64 (k : Int)] 3)) hg
          have sA := ka.size
          exact ⟨by rw [ints_append, List.length_append, HZ.out]; exact ho, (hcW.keep ka (by omega)).keep ko (by omega), turn_trans (turn_trans kW ka (by omega)) ko (by omega)⟩)
        by_cases hq : n - k ≤ many - z
        · have hd1 : decide ((n : Int) - (k : Int) ≤ (many : Int) - (z : Int)) = true := by simp; omega
          go_wp2_with (at_builtin; refine wpList_append1 rfl _ _ _ rfl w.heap.size 3 _ _ Tryd.underlying71 infoInt rfl _ z _ rfl (hown.alloc _) wr.heap.size (.int .i64 k) rfl ?c1 rfl ?c2 ?c3 ?c4 ?_)
          case c1 => simp
          case c2 => omega
          case c3 => omega
          case c4 => simp; omega
          intro v' w' hown' hg' _
          obtain ⟨h1, h2, h3⟩ := HT.out _ _ _ (hcr.more (by omega)) kr hown hown' hg'
          have HL1 : Hid ((l ++ [(k : Int)]).length ≤ k + 1) := Lib.hid (by rw [List.length_append, HZ.out]; simp; omega)
          clear hown hown' hg' HT
          go_wp2_with fail
          go_roundw
          case rel => exact ⟨k + 1, l ++ [(k : Int)], by omega, by go_num, HL1.out, h1, h2, h3⟩
          case measure => simp [intOf]; omega
        · have hd1 : decide ((n : Int) - (k : Int) ≤ (many : Int) - (z : Int)) = false := by simp; omega
          go_wp2_with fail
          refine (one_any g cv _ 2 _ hcr (by omega)).mono ?_
          rintro e w1 ⟨b, rfl, hc1, k1⟩
          have s1 := k1.size
          have hown1 : w1.ownsRow w.heap.size 3 1 (.slice A7 z c7) z (ints l) := by
            refine ⟨hown.1, ?_⟩
            rcases hown.2 with hn | ⟨g', cap, cur, e1, hbg, hg', rest⟩
            · exact .inl hn
            · refine .inr ⟨g', cap, cur, e1, hbg, ?_, rest⟩
              rw [k1.block g' (Array.getElem?_eq_some_iff.1 hg').1 (by omega)]
              exact hg'
          have k01 := turn_trans kr k1 (by omega)
          cases b
          · have HO1 : Hid (w1.ownsRow w.heap.size 3 1 (.slice A7 z c7) l.length (ints l)) := Lib.hid (by rw [HZ.out]; exact hown1)
            have HL1 : Hid (l.length ≤ k + 1) := Lib.hid (by rw [HZ.out]; omega)
            clear hown hown1 HT
            go_wp2_with fail
            go_roundw
            case rel => exact ⟨k + 1, l, by omega, by go_num, HL1.out, HO1.out, hc1.more (by omega), k01⟩
            case measure => simp [intOf]; omega
          · go_wp2_with (at_builtin; refine wpList_append1 rfl _ _ _ rfl w.heap.size 3 _ _ Tryd.underlying71 infoInt rfl _ z _ rfl (hown1.alloc _) w1.heap.size (.int .i64 k) rfl ?c1 rfl ?c2 ?c3 ?c4 ?_)
            case c1 => simp
            case c2 => omega
            case c3 => omega
            case c4 => simp; omega
            intro v' w' hown' hg' _
            obtain ⟨h1, h2, h3⟩ := HT.out _ _ _ (hc1.more (by omega)) k01 hown1 hown' hg'
            have HL1 : Hid ((l ++ [(k : Int)]).length ≤ k + 1) := Lib.hid (by rw [List.length_append, HZ.out]; simp; omega)
            clear hown hown1 hown' hg' HT
            go_wp2_with fail
            go_roundw
            case rel => exact ⟨k + 1, l ++ [(k : Int)], by omega, by go_num, HL1.out, h1, h2, h3⟩
            case measure => simp [intOf]; omega
      · have hzi : ¬ (z : Int) < (many : Int) := by omega
        have hzd : decide ((z : Int) < (many : Int)) = false := by simpa using hzi
        have HO1 : Hid (wr.ownsRow w.heap.size 3 1 (.slice A7 z c7) l.length (ints l)) := Lib.hid (by rw [HZ.out]; exact hown)
        go_wp2_with fail
        go_ret
        exact ⟨_, l, rfl, HO1.out, hcr.more (by omega), kr⟩
    · have hki : ¬ (k : Int) < (n : Int) := by omega
      have hkd : decide ((k : Int) < (n : Int)) = false := by simpa using hki
      have HO1 : Hid (wr.ownsRow w.heap.size 3 1 (.slice A7 z c7) l.length (ints l)) := Lib.hid (by rw [HZ.out]; exact hown)
      go_wp2_with fail
      go_ret
      exact ⟨_, l, rfl, HO1.out, hcr.more (by omega), kr⟩

end Go.Proofs.YtbfchebnooanjaaDoor

/- The cursor's shards, and the drawn arguments of RebuildShard and SplitText. -/
namespace G294
open Go Go.RowKit
theorem shs_setN (l : List Sh) (i : Nat) (x : Int) (h : i < l.length) : (shs l).set (i * 2) (.int .i64 x) = shs (l.set i (x, l[i].2)) := by
  induction l generalizing i with
  | nil => simp at h
  | cons s l ih =>
    cases i with
    | zero => rfl
    | succ i =>
      rw [show (i + 1) * 2 = i * 2 + 1 + 1 by omega]
      simp only [shs, List.set_cons_succ, ih i (by simpa using h), List.getElem_cons_succ]
theorem shs_setD (l : List Sh) (i : Nat) (x : List UInt8) (h : i < l.length) : (shs l).set (i * 2 + 1) (.string (str x)) = shs (l.set i (l[i].1, x)) := by
  induction l generalizing i with
  | nil => simp at h
  | cons s l ih =>
    cases i with
    | zero => rfl
    | succ i =>
      rw [show (i + 1) * 2 + 1 = i * 2 + 1 + 1 + 1 by omega]
      simp only [shs, List.set_cons_succ, ih i (by simpa using h), List.getElem_cons_succ]
theorem ownSh_setN {E : TypeId} {w : World} {lo g n cap q : Nat} {l : List Sh} (h : w.ownsRow lo E 2 (.slice (some ⟨g, 0, none⟩) n cap) n (shs l)) (hn : l.length = n) (hq : q < n) (x : Int) :
    (w.setCell ⟨g, q * 2, none⟩ (.int .i64 x)).ownsRow lo E 2 (.slice (some ⟨g, 0, none⟩) n cap) n (shs (l.set q (x, (l.getD q (0, [])).2))) := by
  have := (h.stored (q * 2) (.int .i64 x)).1
  rw [shs_setN l q x (by omega)] at this
  have e : l.getD q (0, []) = l[q] := by simp [List.getD, show q < l.length by omega]
  rw [e]; exact this
theorem ownSh_setD {E : TypeId} {w : World} {lo g n cap q : Nat} {l : List Sh} (h : w.ownsRow lo E 2 (.slice (some ⟨g, 0, none⟩) n cap) n (shs l)) (hn : l.length = n) (hq : q < n) (x : List UInt8) :
    (w.setCell ⟨g, q * 2 + 1, none⟩ (.string (str x))).ownsRow lo E 2 (.slice (some ⟨g, 0, none⟩) n cap) n (shs (l.set q ((l.getD q (0, [])).1, x))) := by
  have := (h.stored (q * 2 + 1) (.string (str x))).1
  rw [shs_setD l q x (by omega)] at this
  have e : l.getD q (0, []) = l[q] := by simp [List.getD, show q < l.length by omega]
  rw [e]; exact this
theorem encR_txt (T : List (List UInt8)) (m : Int) : ∀ s ∈ encR T m, s.2.length ≤ 40 := fun s hs => by
  unfold encR at hs
  split at hs
  · rename_i h
    simp only [encOk, Bool.and_eq_true] at h
    have h1 : s.2 ∈ (encL T.length m.toNat T).map (·.2) := List.mem_map.2 ⟨s, hs, rfl⟩
    rw [encL, shardsF_texts] at h1
    simp only [rowsT, mkM, List.mem_map] at h1
    obtain ⟨i, _, e⟩ := h1
    rw [← e, mkRow_length]
    exact textsOk_first h.2
  · simp at hs
end G294
namespace Go.Proofs.YtbfchebnooanjaaDoor
open Go.RowKit G294

/-- some ints below n are drawn -/
def DrawsBelow (n : Nat) (w : World) (g : Nat) (cv : Value) (m : Nat) (e : Ending) (w' : World) : Prop := ∃ (v : Value) (l : List Int), e = .returned v ∧ (l.length ≤ n ∧ ∀ x ∈ l, 0 ≤ x ∧ x < (n : Int)) ∧ w'.ownsRow w.heap.size 3 1 v l.length (ints l) ∧ CurAt w' g cv m ∧ TurnIn g (g + 1) w w'

set_option maxRecDepth 100000 in
set_option maxHeartbeats 2000000 in
theorem chosenB_any (g : Nat) (cv : Value) (m n many : Nat) (w : World) (hc : CurAt w g cv m) (hm : m ≤ 1000000) (hn : n ≤ 1000) (hmm : many ≤ 1000) :
    Calls Tryd.prog 53 #[.pointer (some ⟨g, 0, none⟩), .int .i64 n, .int .i64 many] w (DrawsBelow n w g cv (m + 2 * n)) := by
  have hgw := hc.lt
  go_enter Tryd.func53, Tryd.ntmps53
  go_wp2_with fail
  go_loopw [7, 8] (fun o y wr => ∃ (k : Nat) (l : List Int), k ≤ n ∧ y = .int .i64 k ∧ l.length ≤ k ∧ Hid (∀ x ∈ l, 0 ≤ x ∧ x < (n : Int)) ∧ wr.ownsRow w.heap.size 3 1 o l.length (ints l) ∧ CurAt wr g cv (m + 2 * k) ∧ TurnIn g (g + 1) w wr)
    (fun _ y _ => n - (intOf y).toNat)
  case atStart => exact ⟨0, [], Nat.zero_le _, rfl, Nat.zero_le _, (fun x hx => by simp at hx), World.ownsRow_nil _ _ _ _, hc.more (by omega), ⟨rfl, rfl, rfl, Nat.le_refl _, fun _ _ _ => rfl⟩⟩
  case round =>
    obtain ⟨k, l, hk, rfl, hlk, HBB, hown, hcr, kr⟩ := hrel
    have hsr := kr.size
    have hgr := hcr.lt
    obtain ⟨A7, n7, c7, rfl⟩ := own_isSlice hown
    have hn7 : n7 = l.length := by
      rcases hown.2 with ⟨hh, h0⟩ | ⟨g', c', cur, hh, _⟩
      · simp at hh; omega
      · simp at hh; exact hh.2.1
    subst hn7
    generalize hz : l.length = z at *
    have HZ := Lib.hid hz
    clear hz
    by_cases hlt : k < n
    · have hki : (k : Int) < (n : Int) := by omega
      have HB1 : Hid (∀ x ∈ l ++ [(k : Int)], 0 ≤ x ∧ x < (n : Int)) := fun x hx => by
        rcases List.mem_append.1 hx with h | h
        · exact HBB.out x h
        · rw [List.mem_singleton] at h; omega
      have hkd : decide ((k : Int) < (n : Int)) = true := by simpa using hki
      by_cases hlm : z < many
      · have hzi : (z : Int) < (many : Int) := by omega
        have hzd : decide ((z : Int) < (many : Int)) = true := by simpa using hzi
        have HT : Hid (∀ W (v' : Value) (w' : World), CurAt W g cv (m + 2 * (k + 1)) → TurnIn g (g + 1) w W → W.ownsRow w.heap.size 3 1 (.slice A7 z c7) z (ints l) → w'.ownsRow w.heap.size 3 1 v' (z + 1) (ints l ++ [.int .i64 k]) → World.grownBy (W.alloc (.cells #[.int .i64 k] 3)) w' (Value.slice A7 z c7).ownBlock → w'.ownsRow w.heap.size 3 1 v' (l ++ [(k : Int)]).length (ints (l ++ [(k : Int)])) ∧ CurAt w' g cv (m + 2 * (k + 1)) ∧ TurnIn g (g + 1) w w') := Lib.hid (fun W v' w' hcW kW hoW ho hg => by
          have sW := kW.size
          have ka := turn_alloc W (.cells #[.int .i64 (k : Int)] 3)
          have ko := turn_own (hoW.alloc (.cells #[.int .i64 (k : Int)] 3)) hg
          have sA := ka.size
          exact ⟨by rw [ints_append, List.length_append, HZ.out]; exact ho, (hcW.keep ka (by omega)).keep ko (by omega), turn_trans (turn_trans kW ka (by omega)) ko (by omega)⟩)
        by_cases hq : n - k ≤ many - z
        · have hd1 : decide ((n : Int) - (k : Int) ≤ (many : Int) - (z : Int)) = true := by simp; omega
          go_wp2_with (at_builtin; refine wpList_append1 rfl _ _ _ rfl w.heap.size 3 _ _ Tryd.underlying71 infoInt rfl _ z _ rfl (hown.alloc _) wr.heap.size (.int .i64 k) rfl ?c1 rfl ?c2 ?c3 ?c4 ?_)
          case c1 => simp
          case c2 => omega
          case c3 => omega
          case c4 => simp; omega
          intro v' w' hown' hg' _
          obtain ⟨h1, h2, h3⟩ := HT.out _ _ _ (hcr.more (by omega)) kr hown hown' hg'
          have HL1 : Hid ((l ++ [(k : Int)]).length ≤ k + 1) := Lib.hid (by rw [List.length_append, HZ.out]; simp; omega)
          clear hown hown' hg' HT
          go_wp2_with fail
          go_roundw
          case rel => exact ⟨k + 1, l ++ [(k : Int)], by omega, by go_num, HL1.out, HB1, h1, h2, h3⟩
          case measure => simp [intOf]; omega
        · have hd1 : decide ((n : Int) - (k : Int) ≤ (many : Int) - (z : Int)) = false := by simp; omega
          go_wp2_with fail
          refine (one_any g cv _ 2 _ hcr (by omega)).mono ?_
          rintro e w1 ⟨b, rfl, hc1, k1⟩
          have s1 := k1.size
          have hown1 : w1.ownsRow w.heap.size 3 1 (.slice A7 z c7) z (ints l) := by
            refine ⟨hown.1, ?_⟩
            rcases hown.2 with hn | ⟨g', cap, cur, e1, hbg, hg', rest⟩
            · exact .inl hn
            · refine .inr ⟨g', cap, cur, e1, hbg, ?_, rest⟩
              rw [k1.block g' (Array.getElem?_eq_some_iff.1 hg').1 (by omega)]
              exact hg'
          have k01 := turn_trans kr k1 (by omega)
          cases b
          · have HO1 : Hid (w1.ownsRow w.heap.size 3 1 (.slice A7 z c7) l.length (ints l)) := Lib.hid (by rw [HZ.out]; exact hown1)
            have HL1 : Hid (l.length ≤ k + 1) := Lib.hid (by rw [HZ.out]; omega)
            clear hown hown1 HT
            go_wp2_with fail
            go_roundw
            case rel => exact ⟨k + 1, l, by omega, by go_num, HL1.out, HBB, HO1.out, hc1.more (by omega), k01⟩
            case measure => simp [intOf]; omega
          · go_wp2_with (at_builtin; refine wpList_append1 rfl _ _ _ rfl w.heap.size 3 _ _ Tryd.underlying71 infoInt rfl _ z _ rfl (hown1.alloc _) w1.heap.size (.int .i64 k) rfl ?c1 rfl ?c2 ?c3 ?c4 ?_)
            case c1 => simp
            case c2 => omega
            case c3 => omega
            case c4 => simp; omega
            intro v' w' hown' hg' _
            obtain ⟨h1, h2, h3⟩ := HT.out _ _ _ (hc1.more (by omega)) k01 hown1 hown' hg'
            have HL1 : Hid ((l ++ [(k : Int)]).length ≤ k + 1) := Lib.hid (by rw [List.length_append, HZ.out]; simp; omega)
            clear hown hown1 hown' hg' HT
            go_wp2_with fail
            go_roundw
            case rel => exact ⟨k + 1, l ++ [(k : Int)], by omega, by go_num, HL1.out, HB1, h1, h2, h3⟩
            case measure => simp [intOf]; omega
      · have hzi : ¬ (z : Int) < (many : Int) := by omega
        have hzd : decide ((z : Int) < (many : Int)) = false := by simpa using hzi
        have HO1 : Hid (wr.ownsRow w.heap.size 3 1 (.slice A7 z c7) l.length (ints l)) := Lib.hid (by rw [HZ.out]; exact hown)
        go_wp2_with fail
        go_ret
        exact ⟨_, l, rfl, ⟨by rw [HZ.out]; omega, HBB.out⟩, HO1.out, hcr.more (by omega), kr⟩
    · have hki : ¬ (k : Int) < (n : Int) := by omega
      have hkd : decide ((k : Int) < (n : Int)) = false := by simpa using hki
      have HO1 : Hid (wr.ownsRow w.heap.size 3 1 (.slice A7 z c7) l.length (ints l)) := Lib.hid (by rw [HZ.out]; exact hown)
      go_wp2_with fail
      go_ret
      exact ⟨_, l, rfl, ⟨by rw [HZ.out]; omega, HBB.out⟩, HO1.out, hcr.more (by omega), kr⟩

/-- some shards and two numbers are drawn -/
def DrawsSh (w : World) (g : Nat) (cv : Value) (m : Nat) (e : Ending) (w' : World) : Prop := ∃ (v : Value) (l : List Sh) (k q : Nat), e = .returned (.tuple #[v, .int .i64 (k : Int), .int .i64 (q : Int)]) ∧ (l.length ≤ 14 ∧ k ≤ 10 ∧ q ≤ 10) ∧ w'.ownsRow w.heap.size 27 2 v l.length (shs l) ∧ CurAt w' g cv m ∧ TurnIn g (g + 1) w w'

set_option maxRecDepth 100000 in
set_option maxHeartbeats 8000000 in
theorem shards_any (g : Nat) (cv : Value) (m : Nat) (w : World) (hc : CurAt w g cv m) (hm : m ≤ 100000) :
    Calls Tryd.prog 25 #[.pointer (some ⟨g, 0, none⟩)] w (DrawsSh w g cv (m + 3000)) := by
  have hgw := hc.lt
  go_enter Tryd.func25, Tryd.ntmps25
  go_wp2_with fail
  refine (pick_any g cv m 4 _ hc (by omega)).mono ?_
  rintro e w1 ⟨r, rfl, ra, rb, hc1, k1⟩
  have hr : r ≤ 3 := by simpa [pickHi] using rb
  obtain ⟨rn, rfl⟩ := Int.eq_ofNat_of_zero_le ra
  have s1 := k1.size
  clear ra rb
  go_wp2_with fail
  refine (pick_any g cv _ 3 _ hc1 (by omega)).mono ?_
  rintro e w2 ⟨q, rfl, qa, qb, hc2, k2⟩
  have hq : q ≤ 2 := by simpa [pickHi] using qb
  obtain ⟨qn, rfl⟩ := Int.eq_ofNat_of_zero_le qa
  have s2 := k2.size
  clear qa qb
  have HD : Hid (Calls Tryd.prog 52 #[.pointer (some ⟨g, 0, none⟩), .int .i64 (1 + (rn : Int))] w2 (DrawsStrs w2 g cv (m + 2 + 2 + 10 + 200 * (1 + rn)))) := Lib.hid (by
    have h := data_any g cv (m + 2 + 2) (1 + rn) w2 hc2 (by omega) (by omega)
    have e : ((1 + rn : Nat) : Int) = 1 + (rn : Int) := by omega
    rwa [e] at h)
  go_wp2_with fail
  refine HD.out.mono ?_
  rintro e w3 ⟨v3, T, rfl, hT, hc3, k3⟩
  have s3 := k3.size
  obtain ⟨A3, c3, hv3⟩ := hT.len
  rw [strs_length] at hv3
  subst hv3
  have HM := Lib.hid (sEncodeShards_own _ T (1 + (qn : Int)) w3 hT)
  have HEL := Lib.hid (encR_len T (1 + (qn : Int)))
  have HET := Lib.hid (encR_txt T (1 + (qn : Int)))
  clear hT HD
  generalize encR T (1 + (qn : Int)) = L at *
  go_wp2_with fail
  refine HM.out.mono ?_
  rintro e w4 ⟨v4, rfl, oL, k4⟩
  have s4 := k4.size
  obtain ⟨A4, c4, hv4⟩ := oL.seen.len
  subst hv4
  have hL14 := HEL.out
  have HOL := Lib.hid oL
  clear oL HM
  generalize hn4 : L.length = n4 at *
  have HN4 := Lib.hid hn4
  clear hn4
  have hc4 := hc3.keep k4 (by omega)
  have K4 := Lib.hid (turn_trans (turn_trans (turn_trans k1 k2 (by omega)) k3 (by omega)) k4 (by omega))
  go_wp2_with fail
  refine (pick_any g cv _ _ _ hc4 (by omega)).mono ?_
  rintro e w5 ⟨r5, rfl, r5a, r5b, hc5, k5⟩
  obtain ⟨r5, rfl⟩ := Int.eq_ofNat_of_zero_le r5a
  have hr5 : r5 ≤ 3 := by unfold pickHi at r5b; split at r5b <;> omega
  clear r5a r5b
  go_wp2_with fail
  refine (pick_any g cv _ 2 _ hc5 (by omega)).mono ?_
  rintro e w6 ⟨r6, rfl, r6a, r6b, hc6, k6⟩
  have hr6 : r6 ≤ 1 := by simpa [pickHi] using r6b
  go_wp2_with fail
  refine (pick_any g cv _ 2 _ hc6 (by omega)).mono ?_
  rintro e w7 ⟨r7, rfl, r7a, r7b, hc7, k7⟩
  have hr7 : r7 ≤ 1 := by simpa [pickHi] using r7b
  obtain ⟨pr, hpr, hpr1⟩ : ∃ pr : Nat, r6 * r7 = (pr : Int) ∧ pr ≤ 1 := by
    rcases (by omega : r6 = 0 ∨ r6 = 1) with rfl | rfl
    · exact ⟨0, by simp, by omega⟩
    · obtain ⟨z, rfl⟩ := Int.eq_ofNat_of_zero_le r7a
      exact ⟨z, by simp, by omega⟩
  obtain ⟨mn, hmn⟩ : ∃ mn : Nat, (mn : Int) = 1 + (rn : Int) + (r5 : Int) - (pr : Int) := ⟨1 + rn + r5 - pr, by omega⟩
  have s5 := k5.size
  have s6 := k6.size
  have s7 := k7.size
  have K7 := Lib.hid (turn_trans (turn_trans (turn_trans K4.out k5 (by omega)) k6 (by omega)) k7 (by omega))
  have HOL7 := Lib.hid (((HOL.out.keep k5 (by omega)).keep k6 (by omega)).keep k7 (by omega))
  have HC : Hid (Calls Tryd.prog 53 #[.pointer (some ⟨g, 0, none⟩), .int .i64 (n4 : Int), .int .i64 (1 + (rn : Int) + (r5 : Int) - (pr : Int))] w7 (DrawsBelow n4 w7 g cv (m + 2000 + 2 * n4))) := Lib.hid (by
    rw [← hmn]
    exact chosenB_any g cv (m + 2000) n4 mn w7 (hc7.more (by omega)) (by omega) (by omega) (by omega))
  have hb6 : 0 ≤ r6 * r7 ∧ r6 * r7 ≤ 1 := by omega
  clear hmn k1 k2 k3 k4 k5 k6 k7 hc1 hc2 hc3 hc4 hc5 hc6 hc7 hc r7a r7b r6a r6b HOL K4 HEL
  go_wp2_with fail
  refine HC.out.mono ?_
  rintro e w8 ⟨v8, l8, rfl, ⟨hl8, hl8b⟩, o8, hc8, k8⟩
  have s8 := k8.size
  obtain ⟨A8, c8, rfl⟩ := own_sliceN o8
  have HL8 := Lib.hid hl8b
  have HS8 := Lib.hid (Seen.of_own o8)
  have HOL8 := Lib.hid (HOL7.out.keep k8 (by omega))
  have K8 := Lib.hid (turn_trans K7.out k8 (by omega))
  clear hl8b o8 HC K7 HOL7 k8
  obtain ⟨A8', c8', hv8, hlc8, hcm8, hX8⟩ := HS8.out
  rw [ints_length] at hv8 hlc8 hX8
  simp only [Value.slice.injEq] at hv8
  obtain ⟨rfl, e8x, rfl⟩ := hv8
  clear e8x
  obtain ⟨A4', c4', hv4, hlc4, hcm4, hX4⟩ := HOL8.out.seen
  rw [HN4.out] at hv4 hlc4 hX4
  simp only [Value.slice.injEq] at hv4
  obtain ⟨rfl, e4x, rfl⟩ := hv4
  clear e4x
  unfold maxLen at hcm8 hcm4
  have HX8 := Lib.hid hX8
  have HX4 := Lib.hid hX4
  clear hX8 hX4 HS8 HOL8
  generalize hn8 : l8.length = n8 at *
  have HN8 := Lib.hid hn8
  clear hn8
  go_wp2_with fail
  go_loopw [9, 44] (fun o y wr => ∃ (j : Nat) (U : List Sh), j ≤ n8 ∧ y = .int .i64 (j : Int) ∧ U.length ≤ j ∧ Hid (∀ s ∈ U, s.2.length ≤ 40) ∧ Hid (wr.ownsRow w8.heap.size 27 2 o U.length (shs U)) ∧ Hid (Below w8.heap.size w8 wr))
    (fun _ y _ => n8 - (intOf y).toNat)
  case atStart => exact ⟨0, [], Nat.zero_le _, rfl, Nat.zero_le _, (fun x hx => by simp at hx), Lib.hid (World.ownsRow_nil _ _ _ _), Lib.hid (Below.refl _ _)⟩
  case round =>
    obtain ⟨j, U, hj, rfl, hUj, HUT, HOW, HBr⟩ := hrel
    have sr := HBr.out.size
    by_cases hlt : j < n8
    · have hji : (j : Int) < (n8 : Int) := by omega
      obtain ⟨x, hx⟩ : ∃ x, l8[j]? = some x := ⟨_, List.getElem?_eq_getElem (by rw [HN8.out]; exact hlt)⟩
      have hxb := HL8.out x (List.mem_of_getElem? hx)
      obtain ⟨xn, rfl⟩ := Int.eq_ofNat_of_zero_le hxb.1
      have hxi : (xn : Int) < (n4 : Int) := hxb.2
      obtain ⟨b8, off8, rfl, hb8, hcell8⟩ := HX8.out (by omega)
      have hcx := (HBr.out.cell (p := ⟨b8, off8 + j, none⟩) hb8).trans (hcell8 j (.int .i64 (xn : Int)) (by simp [ints, hx]))
      obtain ⟨b4, off4, rfl, hb4, hcell4⟩ := HX4.out (by omega)
      obtain ⟨⟨no, s⟩, hks⟩ := at_lt HN4.out (show xn < n4 by omega)
      have HUT2 : Hid (∀ t ∈ U ++ [(no, s)], t.2.length ≤ 40) := fun t ht => by
        rcases List.mem_append.1 ht with h | h
        · exact HUT.out t h
        · rw [List.mem_singleton] at h; rw [h]; exact HET.out _ (List.mem_of_getElem? hks)
      have hc1 := (HBr.out.cell (p := ⟨b4, off4 + xn * 2, none⟩) hb4).trans (hcell4 xn _ hks).1
      have hc2 := (HBr.out.cell (p := ⟨b4, off4 + xn * 2 + 1, none⟩) hb4).trans (hcell4 xn _ hks).2
      simp only at hc1 hc2
      clear hcell8 hcell4 hks hx hxb
      obtain ⟨A9, c9, rfl⟩ := own_sliceN HOW.out
      generalize hzz : U.length = z at *
      have HZ := Lib.hid hzz
      clear hzz
      go_wp2_with (at_builtin; refine wpList_appendKeep rfl _ _ _ rfl w8.heap.size 27 _ 2 _ Tryd.underlying23 infoShard rfl (by omega) _ z (shs U) rfl (HOW.out.alloc _) ⟨wr.heap.size, 0, none⟩ 1 [.int .i64 no, .string (str s)] (by rfl) rfl (cell_two_new wr (.int .i64 no) (.string (str s)) 27) (by intro y hy; simp at hy; rcases hy with rfl | rfl <;> rfl) ?c2 ?c3 ?c4 ?_)
      case c2 => omega
      case c3 => omega
      case c4 => simp; omega
      intro v' w' hmore hg' hv' hold
      have hb3 : Below w8.heap.size w8 w' := (HBr.out.alloc HBr.out.size _).grown hg' (by simp; omega) (fun g e => (HOW.out.lt g e).1)
      have hlen : (U ++ [(no, s)]).length = z + 1 := by rw [List.length_append, HZ.out]; rfl
      have HO2 : Hid (w'.ownsRow w8.heap.size 27 2 v' (U ++ [(no, s)]).length (shs (U ++ [(no, s)]))) := Lib.hid (by rw [hlen, shs_append]; exact hmore)
      have HB3 := Lib.hid hb3
      have HLL : Hid ((U ++ [(no, s)]).length ≤ j + 1) := by show _ ≤ _; omega
      clear hmore hg' hv' hold hb3 hlen hc1 hc2 hcx
      go_wp2_with fail
      go_roundw
      case rel => exact ⟨j + 1, U ++ [(no, s)], by omega, by go_num, HLL.out, HUT2, HO2, HB3⟩
      case measure => simp [intOf]; omega
    · obtain rfl : j = n8 := by omega
      have hji : ¬ (j : Int) < (j : Int) := by omega
      have K9 := Lib.hid (turn_trans K8.out (TurnIn.of_below HBr.out) (by omega))
      have hc9 := hc8.keep (TurnIn.of_below HBr.out) (by omega)
      obtain ⟨A9, c9, rfl⟩ := own_sliceN HOW.out
      have HU14 : Hid (U.length ≤ 14) := by show _ ≤ _; omega
      have HE1 : Hid (((1 + rn : Nat) : Int) = 1 + (rn : Int)) := by show _ = _; omega
      have HE2 : Hid (((1 + qn : Nat) : Int) = 1 + (qn : Int)) := by show _ = _; omega
      have HOB := Lib.hid (own_base HOW.out (show w.heap.size ≤ w8.heap.size by omega))
      generalize hzz : U.length = z at *
      have HZ := Lib.hid hzz
      clear hzz HX8 HX4
      by_cases hz : z = 0
      · subst hz
        go_wp2_with fail
        refine bodyPost_ret (v := .tuple #[.slice A9 0 c9, .int .i64 (1 + (rn : Int)), .int .i64 (1 + (qn : Int))]) (by simp [results, Tryd.results25, go_sem]) rfl ?_
        exact ⟨_, U, 1 + rn, 1 + qn, by rw [HE1.out, HE2.out], ⟨by rw [HZ.out]; exact HU14.out, by omega, by omega⟩, by rw [HZ.out]; exact HOB.out, hc9.more (by omega), K9.out⟩
      · have hzi : (0 : Int) < (z : Int) := by omega
        have hzd : decide ((0 : Int) < (z : Int)) = true := by simpa using hzi
        go_wp2_with fail
        refine (one_any g cv _ 6 _ hc9 (by omega)).mono ?_
        rintro e wa ⟨bb, rfl, hca, ka⟩
        have sa := ka.size
        have HOa := Lib.hid (owns_turn2 HOB.out (fun g' e => (HOW.out.lt g' e).2) ka (by omega))
        have Ka := Lib.hid (turn_trans K9.out ka (by omega))
        have HLO : Hid (∀ g', (Value.slice A9 z c9).ownBlock = some g' → w8.heap.size ≤ g' ∧ g' < wr.heap.size) := Lib.hid (fun g' e => HOW.out.lt g' e)
        clear K9 ka hc9 HOW HBr HET
        cases bb
        · go_wp2_with fail
          refine bodyPost_ret (v := .tuple #[.slice A9 z c9, .int .i64 (1 + (rn : Int)), .int .i64 (1 + (qn : Int))]) (by simp [results, Tryd.results25, go_sem]) rfl ?_
          exact ⟨_, U, 1 + rn, 1 + qn, by rw [HE1.out, HE2.out], ⟨by rw [HZ.out]; exact HU14.out, by omega, by omega⟩, by rw [HZ.out]; exact HOa.out, hca.more (by omega), Ka.out⟩
        · go_wp2_with fail
          refine (pick_any g cv _ _ _ hca (by omega)).mono ?_
          rintro e wb ⟨i, rfl, ia, ib, hcb, kb⟩
          obtain ⟨i, rfl⟩ := Int.eq_ofNat_of_zero_le ia
          have hi : i < z := by unfold pickHi at ib; split at ib <;> omega
          have hii : (i : Int) < (z : Int) := by omega
          have sb := kb.size
          have HOb := Lib.hid (owns_turn2 HOa.out (fun g' e => (HLO.out g' e).2) kb (by omega))
          have Kb := Lib.hid (turn_trans Ka.out kb (by omega))
          clear ia ib kb hca Ka HOa
          go_wp2_with fail
          refine (pick_any g cv _ 3 _ hcb (by omega)).mono ?_
          rintro e wd ⟨x, rfl, xa, xb, hcd, kd⟩
          have sd := kd.size
          have HOd := Lib.hid (owns_turn2 HOb.out (fun g' e => (HLO.out g' e).2) kd (by omega))
          have Kd := Lib.hid (turn_trans Kb.out kd (by omega))
          obtain ⟨g9, hA9⟩ : ∃ g9, A9 = some ⟨g9, 0, none⟩ := by
            rcases HOd.out.2 with ⟨hh, _⟩ | ⟨g9, cap, cur, hh, _⟩
            · simp at hh; omega
            · simp at hh; exact ⟨g9, hh.1⟩
          subst hA9
          have hg9 := HLO.out g9 rfl
          have hUi : i < U.length := by rw [HZ.out]; exact hi
          have hti := HUT.out U[i] (List.getElem_mem hUi)
          clear kd hcb Kb HOb HLO HUT xb
          by_cases hx : x = 0
          · subst hx
            go_wp2_with fail
            refine (pick_any g cv _ 9 _ hcd (by omega)).mono ?_
            rintro e wf ⟨y, rfl, ya, yb, hcf, kf⟩
            have sf := kf.size
            have HOf := Lib.hid (owns_turn2 HOd.out (fun g' e => (by cases e; exact hg9.2)) kf (by omega))
            have Kf := Lib.hid (turn_trans Kd.out kf (by omega))
            have hd1 : wf.cell? ⟨g9, i * 2, none⟩ = some (.int .i64 U[i].1) := by rw [HOf.out.cellAt (i * 2) (by omega), shs_no U i hUi]
            have hf1 := HOf.out.frozenAt (i * 2)
            have HST := Lib.hid (ownSh_setN HOf.out HZ.out hi y)
            have HLS : Hid ((U.set i (y, (U.getD i (0, [])).2)).length = z) := by show _ = _; rw [List.length_set, HZ.out]
            have hcs := hcf.keep (turn_setCell wf g9 (i * 2) (.int .i64 y)) (by omega)
            have Ks := Lib.hid (turn_trans Kf.out (turn_setCell wf g9 (i * 2) (.int .i64 y)) (by omega))
            clear kf hcd Kd HOd HOf Kf hcf
            go_wp2_with fail
            refine bodyPost_ret (v := .tuple #[.slice (some ⟨g9, 0, none⟩) z c9, .int .i64 (1 + (rn : Int)), .int .i64 (1 + (qn : Int))]) (by simp [results, Tryd.results25, go_sem]) rfl ?_
            exact ⟨_, U.set i (y, (U.getD i (0, [])).2), 1 + rn, 1 + qn, by rw [HE1.out, HE2.out], ⟨by rw [HLS.out]; exact HU14.out, by omega, by omega⟩, by rw [HLS.out]; exact HST.out, hcs.more (by omega), Ks.out⟩
          · have hx1 : (x == (0 : Int)) = false := by simp; exact hx
            have hsz := str_size U[i].2
            have hd1 : wd.cell? ⟨g9, i * 2 + 1, none⟩ = some (.string (str U[i].2)) := by rw [HOd.out.cellAt (i * 2 + 1) (by omega), shs_data U i hUi]
            have HTX := Lib.hid (fun (W : World) (M : Nat) (h : CurAt W g cv M) (hM : M ≤ 100000000) => text_any g cv M U[i].2.length W h (by omega))
            generalize U[i].2 = tx at *
            generalize tx.length = tn at *
            go_wp2_with fail
            refine (HTX.out _ _ hcd (by omega)).mono ?_
            rintro e wf ⟨y, rfl, hy, hcf, kf⟩
            have sf := kf.size
            have HOf := Lib.hid (owns_turn2 HOd.out (fun g' e => (by cases e; exact hg9.2)) kf (by omega))
            have Kf := Lib.hid (turn_trans Kd.out kf (by omega))
            have hd2 : wf.cell? ⟨g9, i * 2 + 1, none⟩ = some (.string (str U[i].2)) := by rw [HOf.out.cellAt (i * 2 + 1) (by omega), shs_data U i hUi]
            have hf1 := HOf.out.frozenAt (i * 2 + 1)
            have HST := Lib.hid (ownSh_setD HOf.out HZ.out hi y)
            have HLS : Hid ((U.set i ((U.getD i (0, [])).1, y)).length = z) := by show _ = _; rw [List.length_set, HZ.out]
            have hcs := hcf.keep (turn_setCell wf g9 (i * 2 + 1) (.string (str y))) (by omega)
            have Ks := Lib.hid (turn_trans Kf.out (turn_setCell wf g9 (i * 2 + 1) (.string (str y))) (by omega))
            clear kf hcd Kd HOd HOf Kf hcf hy HTX hd1
            go_wp2_with fail
            refine bodyPost_ret (v := .tuple #[.slice (some ⟨g9, 0, none⟩) z c9, .int .i64 (1 + (rn : Int)), .int .i64 (1 + (qn : Int))]) (by simp [results, Tryd.results25, go_sem]) rfl ?_
            exact ⟨_, U.set i ((U.getD i (0, [])).1, y), 1 + rn, 1 + qn, by rw [HE1.out, HE2.out], ⟨by rw [HLS.out]; exact HU14.out, by omega, by omega⟩, by rw [HLS.out]; exact HST.out, hcs.more (by omega), Ks.out⟩

end Go.Proofs.YtbfchebnooanjaaDoor

/- The drawn arguments of RebuildShard and SplitText. -/
namespace G294
open Go Go.RowKit
theorem ints_newR {w : World} {T : TypeId} {l : List Int} (hl : (ints l).length ≤ 1000) : ∀ i u, (ints l)[i]? = some u → (w.alloc (.cells (ints l).toArray T)).cell? ⟨w.heap.size, i, none⟩ = some u := fun i u hu => by
  rw [cell_of_row _ w.heap.size i _ T _ (heap_alloc_new w _), List.getElem?_toArray]; exact hu
end G294
namespace Go.Proofs.YtbfchebnooanjaaDoor
open Go.RowKit G294

/-- what DrawRebuildShard answers -/
def RetReb (w : World) (e : Ending) (w' : World) : Prop := ∃ (v : Value) (l : List Sh) (k q : Nat) (no : Int), e = .returned (.tuple #[v, .int .i64 (k : Int), .int .i64 (q : Int), .int .i64 no]) ∧ (l.length ≤ 14 ∧ k ≤ 10 ∧ q ≤ 10 ∧ -1 ≤ no ∧ no ≤ 30) ∧ SeenH w' v l ∧ TurnIn 0 0 w w'

set_option maxRecDepth 100000 in
set_option maxHeartbeats 2000000 in
theorem drawReb_any (v : Value) (l : List UInt8) (w : World) (hv : Seen w v (bys l)) : Calls Tryd.prog 5 #[v] w (RetReb w) := by
  obtain ⟨A, c, hvv⟩ := hv.len
  rw [bys_length] at hvv
  subst hvv
  have hc := cur_new hv
  have k0 := turn_alloc w (.cells #[.slice A l.length c, .int .i64 0, .int .u64 0] 54)
  have s0 : w.heap.size < (w.alloc (.cells #[.slice A l.length c, .int .i64 0, .int .u64 0] 54)).heap.size := by simp
  have HP := Lib.hid (shards_any w.heap.size _ 0 _ hc (by omega))
  have HK := Lib.hid k0
  clear hc k0 s0 hv
  go_enter Tryd.func5, Tryd.ntmps5
  go_wp2_with fail
  refine HP.out.mono ?_
  rintro e w1 ⟨v1, l1, kn, qn, rfl, ⟨b1, b2, b3⟩, o1, hc1, k1⟩
  have K1 := Lib.hid (turn_trans HK.out k1 (by omega))
  obtain ⟨A1, c1, rfl⟩ := own_sliceN o1
  have HS1 := Lib.hid (show OwnSh 27 w1 _ w1.heap.size (.slice A1 l1.length c1) l1 from ⟨o1, Nat.le_refl _, fun g h => (o1.lt g h).2⟩)
  clear k1 o1 HK HP
  go_wp2_with fail
  refine (pick_any w.heap.size _ _ _ _ hc1 (by omega)).mono ?_
  rintro e w2 ⟨r, rfl, ra, rb, hc2, k2⟩
  have hr : r ≤ 30 := by unfold pickHi at rb; split at rb <;> omega
  have K2 := Lib.hid (turn_trans K1.out k2 (by omega))
  have s1 := K1.out.size
  have HS2 := Lib.hid ((HS1.out.keep k2 (by simp)).seen)
  clear rb k2 hc2 hc1
  go_wp2_with fail
  refine bodyPost_ret (v := .tuple #[.slice A1 l1.length c1, .int .i64 (kn : Int), .int .i64 (qn : Int), .int .i64 (r - 1)]) (by simp [results, Tryd.results5, go_sem]) rfl ?_
  exact ⟨_, l1, kn, qn, r - 1, rfl, ⟨b1, b2, b3, by omega, by omega⟩, HS2.out, K2.out⟩

/-- what DrawSplitText answers -/
def RetSpl (w : World) (e : Ending) (w' : World) : Prop := ∃ (s : List UInt8) (k : Int), e = .returned (.tuple #[.string (str s), .int .i64 k]) ∧ (s.length ≤ 400 ∧ 0 ≤ k ∧ k ≤ 9) ∧ TurnIn 0 0 w w'

set_option maxRecDepth 100000 in
set_option maxHeartbeats 2000000 in
theorem drawSplit_any (v : Value) (l : List UInt8) (w : World) (hv : Seen w v (bys l)) : Calls Tryd.prog 11 #[v] w (RetSpl w) := by
  obtain ⟨i0, hi0, hz0, hz1, hz2⟩ := info_parts infoByte
  obtain ⟨A, c, hvv⟩ := hv.len
  rw [bys_length] at hvv
  subst hvv
  have hc := cur_new hv
  have k0 := turn_alloc w (.cells #[.slice A l.length c, .int .i64 0, .int .u64 0] 54)
  have s0 := World.size_alloc w (.cells #[.slice A l.length c, .int .i64 0, .int .u64 0] 54)
  have HIN := Lib.hid (ints_newR (w := w.alloc (.cells #[.slice A l.length c, .int .i64 0, .int .u64 0] 54)) (T := 3) (l := [0, 1, 2, 3, 8, 9]) (by simp))
  have ka := turn_alloc (w.alloc (.cells #[.slice A l.length c, .int .i64 0, .int .u64 0] 54)) (.cells (ints [0, 1, 2, 3, 8, 9]).toArray 3)
  have za := World.size_alloc (w.alloc (.cells #[.slice A l.length c, .int .i64 0, .int .u64 0] 54)) (.cells (ints [0, 1, 2, 3, 8, 9]).toArray 3)
  have hc2 := hc.keep ka (by omega)
  have kk := turn_trans k0 ka (by omega)
  rw [s0] at HIN za
  clear hv
  go_enter Tryd.func11, Tryd.ntmps11
  go_wp2_with fail
  refine (among_any w.heap.size _ _ (w.heap.size + 1) 6 [0, 1, 2, 3, 8, 9] _ hc2 (by omega) (by simp) (by simp) (by simp) (by omega) (by omega) (by rw [za]; omega) HIN.out).mono ?_
  rintro e w3 ⟨r, rfl, hr, hc3, k3⟩
  have hr' : 0 ≤ r ∧ r ≤ 9 := by
    simp only [List.mem_cons, List.not_mem_nil, or_false] at hr
    omega
  obtain ⟨rn, rfl⟩ := Int.eq_ofNat_of_zero_le hr'.1
  have K3 := Lib.hid (turn_trans kk k3 (by omega))
  have s3 := K3.out.size
  clear hr k0 ka k3 kk hc hc2 HIN za s0
  go_wp2_with fail
  refine (one_any w.heap.size _ _ 12 _ hc3 (by omega)).mono ?_
  rintro e w4 ⟨b, rfl, hc4, k4⟩
  have K4 := Lib.hid (turn_trans K3.out k4 (by omega))
  have s4 := K4.out.size
  clear k4 hc3 K3
  cases b
  · go_wp2_with fail
    refine (pick_any w.heap.size _ _ 20 _ hc4 (by omega)).mono ?_
    rintro e w5 ⟨n, rfl, na, nb, hc5, k5⟩
    have hn : n ≤ 19 := by simpa [pickHi] using nb
    obtain ⟨nn, rfl⟩ := Int.eq_ofNat_of_zero_le na
    have K5 := Lib.hid (turn_trans K4.out k5 (by omega))
    clear na nb k5 hc4 K4
    go_wp2_with fail
    refine (text_any w.heap.size _ _ nn _ hc5 (by omega)).mono ?_
    rintro e w6 ⟨x, rfl, hx, hc6, k6⟩
    have K6 := Lib.hid (turn_trans K5.out k6 (by omega))
    have HX := Lib.hid hx
    clear hx k6 hc5 K5 hc6
    go_wp2_with fail
    refine bodyPost_ret (v := .tuple #[.string (str x), .int .i64 (rn : Int)]) (by simp [results, Tryd.results11, go_sem]) rfl ?_
    exact ⟨x, rn, rfl, ⟨by have := HX.out; omega, by omega, by omega⟩, K6.out⟩
  · go_wp2_with fail
    refine (pick_any w.heap.size _ _ 2 _ hc4 (by omega)).mono ?_
    rintro e w5 ⟨n, rfl, na, nb, hc5, k5⟩
    have hn : n ≤ 1 := by simpa [pickHi] using nb
    obtain ⟨nn, rfl⟩ := Int.eq_ofNat_of_zero_le na
    have K5 := Lib.hid (turn_trans K4.out k5 (by omega))
    obtain ⟨bn, hbn⟩ : ∃ bn : Nat, (rn : Int) * 40 + (nn : Int) = (bn : Int) := ⟨rn * 40 + nn, by omega⟩
    have hbb : bn ≤ 361 := by omega
    clear na nb k5 hc4 K4 hc5
    go_wp2_with (at_make; refine wpList_make_full _ rfl _ _ _ rfl w5.heap.size _ i0 _ 1 Tryd.underlying22 hi0 hz0 hz1 _ _ _ _ bn rfl rfl rfl rfl ?b2 ?b3 ?b4 ?_)
    case b2 => rw [hz2]; omega
    case b3 => unfold maxLen; omega
    case b4 => exact Nat.le_refl _
    intro w6 hown6 hg6
    have kg : TurnIn 0 0 w5 w6 := TurnIn.of_below (below_of_grown hg6 (Nat.le_refl _) (by simp))
    rw [toList_madeCells_one] at hown6
    have hO : OwnBytes 5 w6 w5.heap.size w6.heap.size (.slice (some ⟨w5.heap.size, 0, none⟩) bn bn) (mkRow bn fun _ => 0) := by
      refine OwnBytes.of_made ?_
      rw [mkRow_length, bys_zero bn (fun _ => 0) (fun _ _ => rfl)]; exact hown6
    have hconv := run_string_seen (P := Tryd.prog) 22 5 9 Tryd.underlying22 Tryd.underlying5 Tryd.underlying9 hO.seen
    have K6 := Lib.hid (turn_trans K5.out kg (by omega))
    clear hown6 hg6 hO kg K5
    generalize hmk : mkRow bn (fun _ => (0 : UInt8)) = tx at *
    have HTX : Hid (tx.length = bn) := by show _ = _; rw [← hmk, mkRow_length]
    clear hmk
    go_wp2_with fail
    refine bodyPost_ret (v := .tuple #[.string (str tx), .int .i64 (rn : Int)]) (by simp [results, Tryd.results11, go_sem]) rfl ?_
    exact ⟨tx, rn, rfl, ⟨by have := HTX.out; omega, by omega, by omega⟩, K6.out⟩

end Go.Proofs.YtbfchebnooanjaaDoor

/- A rebuilt shard is the one that was; a wrong one is seen; a text comes back from its parts: the mathematics. -/
namespace G294
theorem chk_at {l : List Sh} {k m : Int} (h : chkR l k m = true) : decOk l k m = true ∧ ∀ s ∈ l, s.2 = comb k.toNat (lenH l) (codF k.toNat s.1.toNat) (decR l k m) := by
  unfold chkR at h
  rw [Bool.and_eq_true] at h
  refine ⟨h.1, fun s hs => ?_⟩
  obtain ⟨i, hi⟩ := List.mem_iff_getElem?.1 hs
  exact (matchB_iff _ _).1 h.2 i s hi
/-- a shard of the list that is rebuilt is the list's -/
theorem reb_same {l : List Sh} {k m no : Int} (h : chkR l k m = true) (hr : rebOk l k m no = true) {o : Sh} (ho : o ∈ l) (hn : o.1 = no) : o = rebR l k m no := by
  have h1 := (chk_at h).2 o ho
  unfold rebR
  rw [if_pos hr]
  obtain ⟨a, b⟩ := o
  simp only at hn h1
  subst hn
  rw [h1]
/-- one shard's bytes changed -/
def wrg (l : List Sh) (i : Nat) (y : List UInt8) : List Sh := l.set i ((l.getD i (0, [])).1, y)
@[simp] theorem wrg_length (l : List Sh) (i : Nat) (y : List UInt8) : (wrg l i y).length = l.length := by simp [wrg]
theorem wrg_getD {l : List Sh} {i : Nat} {y : List UInt8} (hi : i < l.length) (j : Nat) : (wrg l i y).getD j (0, []) = if j = i then ((l.getD i (0, [])).1, y) else l.getD j (0, []) := by
  unfold wrg
  by_cases h : j = i
  · subst h; simp [List.getD, List.getElem?_set, hi]
  · rw [if_neg h]; simp [List.getD, List.getElem?_set, Ne.symm h]
section
variable {l : List Sh} {i : Nat} {y : List UInt8} (hi : i < l.length) (hy : y.length = (l.getD i (0, [])).2.length)
include hi
theorem wrg_no (j : Nat) : ((wrg l i y).getD j (0, [])).1 = (l.getD j (0, [])).1 := by
  rw [wrg_getD hi]; split
  · rename_i h; rw [h]
  · rfl
include hy
theorem wrg_len (j : Nat) : ((wrg l i y).getD j (0, [])).2.length = (l.getD j (0, [])).2.length := by
  rw [wrg_getD hi]; split
  · rename_i h; rw [h]; exact hy
  · rfl
theorem wrg_lenH : lenH (wrg l i y) = lenH l := wrg_len hi hy 0
theorem wrg_shardsOk {n : Int} (h : shardsOk l n = true) : shardsOk (wrg l i y) n = true := by
  rw [shardsOk_iff] at h ⊢
  intro j s hs
  have hj : j < l.length := by have := (List.getElem?_eq_some_iff.1 hs).1; simpa using this
  have hsg : (wrg l i y).getD j (0, []) = s := by simp [List.getD, hs]
  have h1 := h j (l.getD j (0, [])) (by simp [List.getD, hj])
  have e1 := wrg_no (y := y) hi j
  have e2 := wrg_len hi hy j
  have e3 := wrg_len hi hy 0
  have e4 : lastNo (wrg l i y) j = lastNo l j := by
    cases j with
    | zero => rfl
    | succ j => exact wrg_no hi j
  rw [hsg] at e1 e2
  unfold shAt at h1 ⊢
  rw [e4, e1, e2, e3]
  exact h1
omit hy in
theorem wrg_usedOk {k : Nat} (h : usedOk k l = true) : usedOk k (wrg l i y) = true := by
  have e : usedG k (wrg l i y) = usedG k l := by
    funext a b
    unfold usedG
    rw [wrg_no hi a]
  unfold usedOk usedF at h ⊢
  rw [e]; exact h
theorem wrg_decOk {k m : Int} (h : decOk l k m = true) : decOk (wrg l i y) k m = true := by
  unfold decOk preOk at h ⊢
  simp only [Bool.and_eq_true, decide_eq_true_eq, wrg_length] at h ⊢
  exact ⟨⟨⟨h.1.1.1, wrg_shardsOk hi hy h.1.1.2⟩, h.1.2⟩, wrg_usedOk hi h.2⟩
end
/-- the numbers of shards, and the shards that a code has there -/
def nosN (l : List Sh) : List Nat := l.map fun s => s.1.toNat
theorem nosN_rises {l : List Sh} {n : Nat} (h : shardsOk l (n : Int) = true) : risesB (nosN l) n := by
  have hge := shards_ge h
  refine ⟨fun x hx => ?_, ?_⟩
  · obtain ⟨s, hs, rfl⟩ := List.mem_map.1 hx
    obtain ⟨i, hi⟩ := List.mem_iff_getElem?.1 hs
    have h1 := ((shardsOk_iff l n).1 h i s hi).1.2
    have h2 := hge i s hi
    omega
  · rw [List.pairwise_iff_getElem]
    intro a b ha hb hab
    simp only [nosN, List.length_map] at ha hb
    simp only [nosN, List.getElem_map]
    have h1 := shards_lt' h hab (List.getElem?_eq_getElem ha) (List.getElem?_eq_getElem hb)
    have h2 := hge a _ (List.getElem?_eq_getElem ha)
    omega
/-- one wrong shard is seen where one more is there -/
theorem chk_bad {l : List Sh} {k m : Int} (h : chkR l k m = true) (hl : k < l.length) {i : Nat} (hi : i < l.length) {y : List UInt8} (hy : y.length = (l.getD i (0, [])).2.length) (hne : y ≠ (l.getD i (0, [])).2) :
    decOk (wrg l i y) k m = true ∧ chkR (wrg l i y) k m = false := by
  obtain ⟨hd, hs⟩ := chk_at h
  have hd' := wrg_decOk hi hy hd
  refine ⟨hd', ?_⟩
  rw [Bool.eq_false_iff]
  intro hc
  obtain ⟨_, hs'⟩ := chk_at hc
  have hsh := decOk_shape hd
  have hso := decOk_shards hd
  have hb := shapeOk_b hsh
  obtain ⟨p, rfl⟩ := Int.eq_ofNat_of_zero_le (show 0 ≤ k by omega)
  obtain ⟨q, rfl⟩ := Int.eq_ofNat_of_zero_le (show 0 ≤ m by omega)
  rw [wrg_lenH hi hy] at hs'
  rw [show ((p : Int) + (q : Int)) = ((p + q : Nat) : Int) by omega] at hso
  simp only [Int.toNat_natCast] at hs hs'
  have hL := decR_length hd
  have hR := decR_row hd
  have hL' := decR_length hd'
  have hR' := decR_row hd'
  rw [wrg_lenH hi hy] at hR'
  have h40 : lenH l ≤ 40 := shards_40 hso
  have hris := nosN_rises hso
  have hnl : (nosN l).length = l.length := by simp [nosN]
  have hris' : risesB ((nosN l).eraseIdx i) (p + q) := ⟨fun x hx => hris.1 x ((List.eraseIdx_sublist _ _).subset hx), hris.2.sublist (List.eraseIdx_sublist _ _)⟩
  have hlen' : p ≤ ((nosN l).eraseIdx i).length := by rw [List.length_eraseIdx, hnl, if_pos hi]; omega
  have a1 := (any_few hsh hris' hlen' hL hR h40).2.1
  have a2 := (any_few hsh hris' hlen' hL' hR' h40).2.1
  have hpick : pickS p (lenH l) (decR l p q) ((nosN l).eraseIdx i) = pickS p (lenH l) (decR (wrg l i y) p q) ((nosN l).eraseIdx i) := by
    unfold pickS
    refine List.map_congr_left fun x hx => ?_
    obtain ⟨j, hj, hji, rfl⟩ := List.mem_eraseIdx_iff_getElem.1 hx
    have hjl : j < l.length := by omega
    have e1 := hs l[j] (List.getElem_mem hjl)
    have hjw : j < (wrg l i y).length := by simpa using hjl
    have e2 := hs' (wrg l i y)[j] (List.getElem_mem hjw)
    have e3 : (wrg l i y)[j] = l[j] := by
      have := wrg_getD (y := y) hi j
      rw [if_neg hji] at this
      simpa [List.getD, hjl] using this
    rw [e3] at e2
    have e4 : (nosN l)[j] = l[j].1.toNat := by simp [nosN]
    rw [e4, ← e1, ← e2]
  have hT : decR l p q = decR (wrg l i y) p q := by rw [← a1, hpick, a2]
  have hiw : i < (wrg l i y).length := by simpa using hi
  have f1 := hs l[i] (List.getElem_mem hi)
  have f2 := hs' (wrg l i y)[i] (List.getElem_mem hiw)
  have f3 : (wrg l i y)[i] = ((l.getD i (0, [])).1, y) := by
    have := wrg_getD (y := y) hi i
    rw [if_pos rfl] at this
    simpa [List.getD, hi] using this
  have f4 : l.getD i (0, []) = l[i] := by simp [List.getD, hi]
  rw [f3, f4, ← hT] at f2
  simp only at f2
  rw [f4] at hne
  exact hne (f2.trans f1.symm)
/-- the first byte's last bit turned -/
def flp (s : List UInt8) : List UInt8 := s.set 0 (s.getD 0 0 ^^^ 1)
@[simp] theorem flp_length (s : List UInt8) : (flp s).length = s.length := by simp [flp]
theorem flp_ne {s : List UInt8} (h : 0 < s.length) : flp s ≠ s := fun e => by
  cases s with
  | nil => simp at h
  | cons a t =>
    have h1 : a ^^^ 1 = a := by simpa [flp] using e
    have h2 := congrArg (fun x => a ^^^ x) h1
    simp only [← UInt8.xor_assoc, UInt8.xor_self, UInt8.zero_xor] at h2
    exact absurd h2 (by decide)
/-- a text comes back from its parts -/
theorem split_join {s : List UInt8} {k : Int} (h : splitOk s k = true) : joinOk (splitR s k) s.length = true ∧ joinR (splitR s k) s.length = s ∧ ((splitR s k).length : Int) = k := by
  have h' := h
  simp only [splitOk, dataOk, Bool.and_eq_true, decide_eq_true_eq] at h'
  obtain ⟨q, rfl⟩ := Int.eq_ofNat_of_zero_le (show 0 ≤ k by omega)
  have hq : 1 ≤ q := by omega
  have hR : splitR s q = splitL s q := by unfold splitR; rw [if_pos h]; simp
  have hps := partSize_mul s.length q hq
  have hpl := padded_length s q hq
  have h40 := partSize_le s.length q hq (by omega)
  have hfl : ∀ j, j ≤ q → ((List.range j).map (splitP s q)).flatten = (padded s q).take (j * partSize s.length q) := fun j => by
    induction j with
    | zero => intro _; simp
    | succ j ih =>
      intro hj
      rw [splitL_succ, List.flatten_append, ih (by omega)]
      simp only [List.flatten_cons, List.flatten_nil, List.append_nil]
      unfold splitP
      rw [Nat.succ_mul, List.take_add]
  have hff : (splitL s q).flatten = padded s q := by
    unfold splitL
    rw [hfl q (Nat.le_refl _), List.take_of_length_le (by rw [hpl]; exact Nat.le_refl _)]
  have hto : textsOk (splitL s q) = true := by
    rw [textsOk_iff]
    intro i hi
    have hi' : i < q := by simpa using hi
    have e1 : (splitL s q)[i] = splitP s q i := by simp [splitL]
    have e0 : (splitL s q).getD 0 [] = splitP s q 0 := by simp [splitL, List.getD, show 0 < q by omega]
    rw [e1, e0, splitP_length s q i hq hi', splitP_length s q 0 hq (by omega)]
    exact ⟨rfl, h40⟩
  have hjo : joinOk (splitL s q) s.length = true := by
    simp only [joinOk, dataOk, Bool.and_eq_true, decide_eq_true_eq, splitL_length, hff, hpl]
    exact ⟨⟨h'.1, hto⟩, by omega, by omega⟩
  rw [hR]
  refine ⟨hjo, ?_, by simp⟩
  unfold joinR
  rw [if_pos hjo, hff, Int.toNat_natCast]
  unfold padded
  rw [List.take_left']
  rfl
end G294

/- JoinShards: the model's and the program's. -/
namespace G294
open Go Go.RowKit
theorem str_extract0 (l : List UInt8) (b : Nat) : (str l).extract 0 b = str (l.take b) := by
  rw [extract_str]; simp
theorem flat_bound {L : List (List UInt8)} (h : textsOk L = true) (h8 : L.length ≤ 8) : L.flatten.length ≤ 320 := by
  rw [textsOk_flatten h]
  exact Nat.mul_le_mul h8 (textsOk_first h)
theorem joinR_no {L : List (List UInt8)} {z : Int} (h : joinOk L z = false) : joinR L z = [] := by unfold joinR; rw [if_neg (by rw [h]; simp)]
theorem joinR_yes {L : List (List UInt8)} {z : Nat} (h : joinOk L z = true) : joinR L z = L.flatten.take z := by unfold joinR; rw [if_pos h]; simp
theorem joinOk_z {L : List (List UInt8)} {z : Int} (h1 : dataOk L.length = true) (h2 : textsOk L = true) : joinOk L z = decide (0 ≤ z ∧ z ≤ L.flatten.length) := by unfold joinOk; rw [h1, h2]; simp
end G294
namespace Go.Proofs.YtbfchebnooanjaaDoor
open Go.RowKit G294

set_option maxRecDepth 100000 in
set_option maxHeartbeats 4000000 in
theorem joinShards_own (v : Value) (L : List (List UInt8)) (z : Int) (w : World) (hv : Seen w v (strs L)) : Calls Tryd.prog 15 #[v, .int .i64 z] w (RetStrOk w (joinR L z) (joinOk L z)) := by
  obtain ⟨i0, hi0, hz0, hz1, hz2⟩ := info_parts infoByte
  have HV := Lib.hid hv
  obtain ⟨A, c, rfl, hlc, hcm, hx⟩ := hv
  rw [strs_length] at hlc hx HV
  simp only [strs_length]
  unfold maxLen at hcm
  by_cases h : dataOk L.length = true
  · have HI : Hid (dataOk L.length = true) := h
    have hb : 1 ≤ L.length ∧ L.length ≤ 8 := by have : 1 ≤ (L.length : Int) ∧ (L.length : Int) ≤ 8 := by simpa [dataOk] using h
                                                omega
    clear h
    by_cases h2 : textsOk L = true
    · have HT := Lib.hid h2
      have HJ := Lib.hid (joinOk_z (z := z) HI.out h2)
      have HFB := Lib.hid (flat_bound h2 hb.2)
      have HFM := Lib.hid (textsOk_flatten h2)
      have hf40 := textsOk_first h2
      obtain ⟨b, off, rfl, hbl, hcell⟩ := hx (by omega)
      have hc0 : w.cell? ⟨b, off, none⟩ = some (.string (str (L.getD 0 []))) := by
        have := hcell 0 _ (strs_get L 0 (by omega))
        rw [Nat.add_zero] at this
        rw [this]; simp [List.getD, show 0 < L.length by omega]
      have hs0 := str_size (L.getD 0 [])
      clear h2 hx
      have hmul : (L.length : Int) * ((L.getD 0 []).length : Int) = (L.flatten.length : Int) := by rw [HFM.out]; exact (Int.natCast_mul _ _).symm
      clear HFM
      generalize L.getD 0 [] = s0 at *
      generalize s0.length = n0 at *
      generalize hnn : L.length = n at *
      have HN := Lib.hid hnn
      clear hnn
      generalize hfl : L.flatten.length = fl at *
      have HFL := Lib.hid hfl
      have hflb := HFB.out
      clear hfl
      by_cases hz : 0 ≤ z ∧ z ≤ fl
      · obtain ⟨q, rfl⟩ := Int.eq_ofNat_of_zero_le hz.1
        have HO : Hid (joinOk L q = true) := by show joinOk L q = true; rw [HJ.out]; simp; omega
        have HR := Lib.hid (joinR_yes HO.out)
        have hqf : q ≤ fl := by omega
        have t1 : decide ((q : Int) < 0) = false := by simp
        have t2 : decide (fl < q) = false := by simp; omega
        go_enter Tryd.func15, Tryd.ntmps15
        go_wp2_with fail
        refine (goodDataCount_any _ _).mono ?_
        rintro e w' ⟨rfl, rfl⟩
        rw [HI.out]
        go_wp2_with fail
        refine (equallyLong_any _ L _ HV.out).mono ?_
        rintro e w' ⟨rfl, rfl⟩
        rw [HT.out]
        go_wp2_with fail
        go_loopw [6, 35] (fun o i wr => ∃ k : Nat, k ≤ n ∧ i = .int .i64 k ∧ OwnBytes 5 wr w.heap.size wr.heap.size o (L.take k).flatten ∧ Below w.heap.size w wr) (fun _ i _ => n - (intOf i).toNat)
        case atStart => exact ⟨0, Nat.zero_le _, rfl, OwnBytes.nil _ _ _, Below.refl _ _⟩
        case round =>
          obtain ⟨k, hk, rfl, hown, hbw⟩ := hrel
          by_cases hlt : k < n
          · have hki : (k : Int) < (n : Int) := by omega
            have hkl : k < L.length := by rw [HN.out]; exact hlt
            have hcx : wr.cell? ⟨b, off + k, none⟩ = some (.string (str L[k])) := (hbw.cell (p := ⟨b, off + k, none⟩) hbl).trans (hcell k _ (strs_get L k hkl))
            have HA := Lib.hid (flatten_take_succ L k hkl)
            have hle := flatten_take_le L (k + 1)
            rw [HA.out, List.length_append, HFL.out] at hle
            have hbs := hbw.size
            generalize (L.take k).flatten = acc at *
            have ho1 := hown.1
            clear hcell
            go_wp2_with (at_builtin; refine Lib.wpList_append_own_string _ rfl _ _ _ _ rfl w.heap.size 5 i0 Tryd.underlying22 Tryd.underlying9 hi0 hz0 hz1 hz2 _ acc.length _ rfl ho1 (str L[k]) rfl ?c1 ?c2 ?c3 ?_)
            case c1 => rw [str_size]; unfold maxLen; omega
            case c2 => rw [str_size]; omega
            case c3 => exact hbs
            intro v' w' hown' hg' _
            have hb' : Below w.heap.size w w' := below_append hbw ho1 hg' (Nat.le_refl _) hbs
            have hown2 : OwnBytes 5 w' w.heap.size w'.heap.size v' (L.take (k + 1)).flatten := by
              have e : Lib.strCells (str L[k]) = bys L[k] := by simp [Lib.strCells, str, bys]
              rw [e, str_size] at hown'
              refine ⟨?_, Nat.le_refl _, fun g hg => (hown'.lt g hg).2⟩
              rw [HA.out, bys_append, List.length_append]; exact hown'
            clear hown' hg'
            go_wp2_with fail
            go_roundw
            case rel => exact ⟨k + 1, by omega, by go_num, hown2, hb'⟩
            case measure => simp [intOf]; omega
          · obtain rfl : k = n := by omega
            have hki : ¬ (k : Int) < (k : Int) := by omega
            have HTA : Hid ((L.take k).flatten = L.flatten) := by show _ = _; rw [List.take_of_length_le (by rw [HN.out]; exact Nat.le_refl _)]
            rw [HTA.out] at hown
            rcases hown.1.2 with ⟨rfl, hn⟩ | ⟨g, cap, cur, rfl, hbg, hg, hnc, hcm2, hcs, ht⟩
            · have hf0 : fl = 0 := by rw [← HFL.out]; exact hn
              have hq0 : q = 0 := by omega
              subst hq0
              have hconv := run_string_seen (P := Tryd.prog) 22 5 9 Tryd.underlying22 Tryd.underlying5 Tryd.underlying9 (seen_part0 (w := wr) (A := none) (c := 0) (by unfold maxLen; omega) [] rfl)
              have HO0 : Hid (joinOk L 0 = true) := HO.out
              have HR0 : Hid (joinR L 0 = []) := by show joinR L 0 = []; have := HR.out; simpa using this
              clear hown hn HO HR
              go_wp2_with fail
              go_ret2
              exact ⟨by rw [HO0.out, HR0.out]; rfl, TurnIn.of_below hbw⟩
            · rw [HFL.out] at hown hnc
              unfold maxLen at hcm2
              have hconv := run_string_seen (P := Tryd.prog) 22 5 9 Tryd.underlying22 Tryd.underlying5 Tryd.underlying9 (seen_part (a := 0) (z := q) hown HFL.out (by unfold maxLen; omega) hnc (by omega))
              rw [Nat.sub_zero, List.drop_zero] at hconv
              rw [HFL.out]
              clear hown hg hcs ht
              go_wp2_with fail
              go_ret2
              exact ⟨by rw [HO.out, HR.out]; rfl, TurnIn.of_below hbw⟩
      · have HO : Hid (joinOk L z = false) := by show joinOk L z = false; rw [HJ.out]; simp; omega
        have HR := Lib.hid (joinR_no HO.out)
        by_cases hz1 : z < 0
        · have t1 : decide (z < 0) = true := by simpa using hz1
          go_enter Tryd.func15, Tryd.ntmps15
          go_wp2_with fail
          refine (goodDataCount_any _ _).mono ?_
          rintro e w' ⟨rfl, rfl⟩
          rw [HI.out]
          go_wp2_with fail
          refine (equallyLong_any _ L _ HV.out).mono ?_
          rintro e w' ⟨rfl, rfl⟩
          rw [HT.out]
          go_wp2_with fail
          go_ret2
          exact ⟨by rw [HO.out, HR.out]; rfl, TurnIn.refl _⟩
        · have t1 : decide (z < 0) = false := by simpa using hz1
          have hgt : (fl : Int) < z := by omega
          have t2 : decide ((fl : Int) < z) = true := by simpa using hgt
          go_enter Tryd.func15, Tryd.ntmps15
          go_wp2_with fail
          refine (goodDataCount_any _ _).mono ?_
          rintro e w' ⟨rfl, rfl⟩
          rw [HI.out]
          go_wp2_with fail
          refine (equallyLong_any _ L _ HV.out).mono ?_
          rintro e w' ⟨rfl, rfl⟩
          rw [HT.out]
          go_wp2_with fail
          go_ret2
          exact ⟨by rw [HO.out, HR.out]; rfl, TurnIn.refl _⟩
    · have HT : Hid (textsOk L = false) := by show textsOk L = false; simpa using h2
      have HO : Hid (joinOk L z = false) := by show joinOk L z = false; simp [joinOk, HT.out]
      have HR := Lib.hid (joinR_no HO.out)
      clear h2
      generalize hnn : L.length = n at *
      go_enter Tryd.func15, Tryd.ntmps15
      go_wp2_with fail
      refine (goodDataCount_any _ _).mono ?_
      rintro e w' ⟨rfl, rfl⟩
      rw [HI.out]
      go_wp2_with fail
      refine (equallyLong_any _ L _ HV.out).mono ?_
      rintro e w' ⟨rfl, rfl⟩
      rw [HT.out]
      go_wp2_with fail
      go_ret2
      exact ⟨by rw [HO.out, HR.out]; rfl, TurnIn.refl _⟩
  · have HI : Hid (dataOk L.length = false) := by show dataOk L.length = false; simpa using h
    have HO : Hid (joinOk L z = false) := by show joinOk L z = false; simp [joinOk, h]
    have HR := Lib.hid (joinR_no HO.out)
    clear h
    generalize hnn : L.length = n at *
    go_enter Tryd.func15, Tryd.ntmps15
    go_wp2_with fail
    refine (goodDataCount_any _ _).mono ?_
    rintro e w' ⟨rfl, rfl⟩
    rw [HI.out]
    go_wp2_with fail
    go_ret2
    exact ⟨by rw [HO.out, HR.out]; rfl, TurnIn.refl _⟩

end Go.Proofs.YtbfchebnooanjaaDoor
