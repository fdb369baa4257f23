/- Joined texts: Cur3, ShardMem, ShardWalks, PartMath, AnyMath, ShardArgs, SplitMath. -/
import Derived.Test.YtfglkgeeelapgaaDoorBd10
import Derived.Test.YtfglkgeeelapgaaDoorBd02
import Derived.Test.YtfglkgeeelapgaaDoorBd12
import Derived.Test.YtfglkgeeelapgaaDoorBd04
import Derived.Test.YtfglkgeeelapgaaDoorBd01
import Derived.Test.YtfglkgeeelapgaaDoorBd11
import Derived.Test.YtfglkgeeelapgaaDoorBd08
set_option linter.unusedSimpArgs false
set_option linter.unusedVariables false
/- The cursor's shapes and data, and the drawn arguments of EncodeShards. -/
namespace Go.Proofs.YtfglkgeeelapgaaDoor
open Go.RowKit G294

set_option maxRecDepth 100000 in
set_option maxHeartbeats 1000000 in
theorem text_any (g : Nat) (cv : Value) (m n : Nat) (w : World) (hc : CurAt w g cv m) (hm : m + 4 * n ≤ 1000000000) :
    Calls Tryd.prog 72 #[.pointer (some ⟨g, 0, none⟩), .int .i64 n] w fun e w' => ∃ l : List UInt8, e = .returned (.string (str l)) ∧ l.length = n ∧ CurAt w' g cv (m + 4 * n) ∧ TurnIn g (g + 1) w w' := by
  go_enter Tryd.func72, Tryd.ntmps72
  go_wp2_with fail
  refine (vector_any g cv m n _ hc hm).mono ?_
  rintro e w1 ⟨v, l, rfl, hl, ho, hc1, k1⟩
  have r1 := run_string_seen (P := Tryd.prog) 22 5 9 Tryd.underlying22 Tryd.underlying5 Tryd.underlying9 (Seen.of_own ho)
  obtain ⟨A, c, N, rfl⟩ := own_isSlice ho
  have HL := Lib.hid hl
  clear hl ho
  go_wp2_with fail
  go_ret
  exact ⟨l, rfl, HL.out, hc1, k1⟩

theorem infoStr3 : (Tryd.prog.info? 9).map (fun i => (i.zero, i.size, i.bytes)) = some (some (.string ⟨#[]⟩), 1, 16) := by kernel_rfl

/-- some texts are drawn -/
def DrawsStrs (w : World) (g : Nat) (cv : Value) (m : Nat) (e : Ending) (w' : World) : Prop := ∃ (v : Value) (T : List (List UInt8)), e = .returned v ∧ Seen w' v (strs T) ∧ CurAt w' g cv m ∧ TurnIn g (g + 1) w w'

set_option maxRecDepth 100000 in
set_option maxHeartbeats 4000000 in
theorem data_any (g : Nat) (cv : Value) (m k : Nat) (w : World) (hc : CurAt w g cv m) (hm : m ≤ 100000000) (hk : k ≤ 9) :
    Calls Tryd.prog 111 #[.pointer (some ⟨g, 0, none⟩), .int .i64 k] w (DrawsStrs w g cv (m + 10 + 200 * k)) := by
  have hgw := hc.lt
  go_enter Tryd.func111, Tryd.ntmps111
  go_wp2_with fail
  refine (pick_any g cv m 5 _ hc (by omega)).mono ?_
  rintro e w1 ⟨r, rfl, r0, r1, hc1, k1⟩
  have hr : r ≤ 4 := by simpa [pickHi] using r1
  have s1 := k1.size
  clear r1
  go_wp2_with fail
  refine (one_any g cv _ 20 _ hc1 (by omega)).mono ?_
  rintro e w2 ⟨b, rfl, hc2, k2⟩
  have s2 := k2.size
  cases b
  · obtain ⟨n, rfl⟩ := Int.eq_ofNat_of_zero_le r0
    have hcS := hc2
    have kS := turn_trans k1 k2 (by omega)
    clear hc1 hc2 k1 k2
    go_wp2_with fail
    go_loopw [1, 6] (fun y o wr => ∃ (j : Nat) (T : List (List UInt8)), j ≤ k ∧ y = .int .i64 j ∧ Hid (T.length + j = k ∧ ∀ s ∈ T, s.length = n) ∧ wr.ownsRow w.heap.size 9 1 o T.length (strs T) ∧ CurAt wr g cv (m + 6 + 200 * (k - j)) ∧ TurnIn g (g + 1) w wr)
      (fun y _ _ => (intOf y).toNat)
    case atStart => exact ⟨k, [], Nat.le_refl _, rfl, ⟨by simp, by simp⟩, World.ownsRow_nil _ _ _ _, hcS.more (by omega), kS⟩
    case round =>
      clear hcS kS
      obtain ⟨j, T, hj, rfl, HL, hown, hcr, kr⟩ := hrel
      have hsr := kr.size
      have hgr := hcr.lt
      by_cases hlt : 0 < j
      · go_wp2_with fail
        refine (text_any g cv _ n _ hcr (by omega)).mono ?_
        rintro e w5 ⟨x, rfl, hx, hc5, k5⟩
        have hs5 := k5.size
        have hown5 : w5.ownsRow w.heap.size 9 1 u6 T.length (strs T) := by
          refine ⟨hown.1, ?_⟩
          rcases hown.2 with hn | ⟨g', cap, cur, e1, hbg, hg', rest⟩
          · exact .inl hn
          · refine .inr ⟨g', cap, cur, e1, hbg, ?_, rest⟩
            rw [k5.block g' (Array.getElem?_eq_some_iff.1 hg').1 (by omega)]
            exact hg'
        have hll : T.length ≤ 1000 := by have := HL.out.1; omega
        have HX := Lib.hid hx
        clear hx
        go_wp2_with (at_builtin; refine wpList_append1 rfl _ _ _ rfl w.heap.size 9 _ _ Tryd.underlying23 infoStr3 rfl _ T.length _ rfl (hown5.alloc _) w5.heap.size (.string (str x)) rfl ?c1 rfl ?c2 ?c3 ?c4 ?_)
        case c1 => simp
        case c2 => omega
        case c3 => omega
        case c4 => simp; omega
        intro v' w6 hown6 hg6 _
        have ka := turn_alloc w5 (.cells #[.string (str x)] 9)
        have ko := turn_own (hown5.alloc (.cells #[.string (str x)] 9)) hg6
        have hc6 := (hc5.keep ka (by omega)).keep ko (by omega)
        have k6 : TurnIn g (g + 1) w w6 := turn_trans (turn_trans (turn_trans kr k5 (by omega)) ka (by omega)) ko (by omega)
        have hown7 : w6.ownsRow w.heap.size 9 1 v' (T ++ [x]).length (strs (T ++ [x])) := by
          rw [strs_append, List.length_append]; exact hown6
        clear hown6 hg6 hown5 ka ko hc5 k5 hown hcr kr
        go_wp2_with fail
        go_roundw
        case rel => exact ⟨j - 1, T ++ [x], by omega, by go_num, ⟨by have := HL.out.1; rw [List.length_append, List.length_singleton]; omega, fun s hs => by rcases List.mem_append.1 hs with h | h; exact HL.out.2 s h; rw [List.mem_singleton] at h; rw [h]; exact HX.out⟩, hown7, hc6.more (by omega), k6⟩
        case measure => simp [intOf]; omega
      · obtain rfl : j = 0 := by omega
        obtain ⟨A6, n6, c6, rfl⟩ := own_isSlice hown
        have hn6 : n6 = T.length := by
          rcases hown.2 with ⟨hh, h0⟩ | ⟨g', c', cur, hh, _⟩
          · simp at hh; omega
          · simp at hh; exact hh.2.1
        subst hn6
        have hTk : T.length = k := by have := HL.out.1; omega
        subst hTk
        by_cases hk0 : T.length = 0
        · have hz : decide ((0 : Int) < (T.length : Int)) = false := decide_eq_false (by omega)
          have HOWN := Lib.hid hown
          clear hown
          go_wp2_with fail
          go_ret
          exact ⟨_, T, rfl, Seen.of_own HOWN.out, hcr.more (by omega), kr⟩
        · have hz : decide ((0 : Int) < (T.length : Int)) = true := decide_eq_true (by omega)
          go_wp2_with fail
          refine (one_any g cv _ 30 _ hcr (by omega)).mono ?_
          rintro e w7 ⟨b7, rfl, hc7, k7⟩
          have hs7 := k7.size
          have hown7 : w7.ownsRow w.heap.size 9 1 (.slice A6 T.length c6) T.length (strs T) := owns_turn (hi := wr.heap.size) hown (fun x hx => (hown.lt x hx).2) k7 (by omega)
          cases b7
          · have HOWN := Lib.hid hown7
            clear hown7 hown
            go_wp2_with fail
            go_ret
            exact ⟨_, T, rfl, Seen.of_own HOWN.out, hc7.more (by omega), turn_trans kr k7 (by omega)⟩
          · obtain ⟨g', rfl, hbg⟩ : ∃ g', A6 = some ⟨g', 0, none⟩ ∧ w.heap.size ≤ g' := by
              rcases hown7.2 with ⟨hh, h0⟩ | ⟨g', c', cur, hh, hbg, _⟩
              · omega
              · simp at hh; exact ⟨g', hh.1, hbg⟩
            have hT0 : 0 < T.length := by omega
            have cc := hown7.cells (g := g') rfl 0 _ (strs_get T 0 hT0)
            rw [Addr.add_lit, Nat.zero_add] at cc
            have hfz := hown7.frozenAt 0
            have hts := str_size T[0]
            rw [HL.out.2 T[0] (List.getElem_mem hT0)] at hts
            generalize hx0 : T[0] = x0 at *
            have hst := fun y => (hown7.stored 0 y).1
            have ks := fun y => turn_setCell w7 g' 0 y
            have HST := Lib.hid hst
            have HKS := Lib.hid ks
            clear hst ks hown7 hown hx0
            go_wp2_with fail
            go_ret
            generalize hs : (str x0 ++ { data := #[120] } : ByteArray) = sx
            refine ⟨_, T.set 0 sx.data.toList, rfl, ?_, (hc7.keep (HKS.out _) (by omega)).more (by omega), turn_trans (turn_trans kr k7 (by omega)) (HKS.out _) (by omega)⟩
            have e1 : strs (T.set 0 sx.data.toList) = (strs T).set 0 (.string sx) := by
              simp only [strs, List.map_set, ← str_eq]
            rw [e1]
            exact Seen.of_own (HST.out _)
  · go_wp2_with fail
    refine (pick_any g cv _ 2 _ hc2 (by omega)).mono ?_
    rintro e w3 ⟨q, rfl, q0, q1, hc3, k3⟩
    have hq : q ≤ 1 := by simpa [pickHi] using q1
    have s3 := k3.size
    clear q1
    obtain ⟨n, hn⟩ : ∃ n : Nat, (40 : Int) + q = (n : Int) := Int.eq_ofNat_of_zero_le (by omega)
    have hn41 : n ≤ 41 := by omega
    have hcS := hc3
    have kS := turn_trans (turn_trans k1 k2 (by omega)) k3 (by omega)
    clear hc1 hc2 hc3 k1 k2 k3
    go_wp2_with fail
    go_loopw [1, 6] (fun y o wr => ∃ (j : Nat) (T : List (List UInt8)), j ≤ k ∧ y = .int .i64 j ∧ Hid (T.length + j = k ∧ ∀ s ∈ T, s.length = n) ∧ wr.ownsRow w.heap.size 9 1 o T.length (strs T) ∧ CurAt wr g cv (m + 6 + 200 * (k - j)) ∧ TurnIn g (g + 1) w wr)
      (fun y _ _ => (intOf y).toNat)
    case atStart => exact ⟨k, [], Nat.le_refl _, rfl, ⟨by simp, by simp⟩, World.ownsRow_nil _ _ _ _, hcS.more (by omega), kS⟩
    case round =>
      clear hcS kS
      obtain ⟨j, T, hj, rfl, HL, hown, hcr, kr⟩ := hrel
      have hsr := kr.size
      have hgr := hcr.lt
      by_cases hlt : 0 < j
      · go_wp2_with fail
        refine (text_any g cv _ n _ hcr (by omega)).mono ?_
        rintro e w5 ⟨x, rfl, hx, hc5, k5⟩
        have hs5 := k5.size
        have hown5 : w5.ownsRow w.heap.size 9 1 u6 T.length (strs T) := by
          refine ⟨hown.1, ?_⟩
          rcases hown.2 with hn | ⟨g', cap, cur, e1, hbg, hg', rest⟩
          · exact .inl hn
          · refine .inr ⟨g', cap, cur, e1, hbg, ?_, rest⟩
            rw [k5.block g' (Array.getElem?_eq_some_iff.1 hg').1 (by omega)]
            exact hg'
        have hll : T.length ≤ 1000 := by have := HL.out.1; omega
        have HX := Lib.hid hx
        clear hx
        go_wp2_with (at_builtin; refine wpList_append1 rfl _ _ _ rfl w.heap.size 9 _ _ Tryd.underlying23 infoStr3 rfl _ T.length _ rfl (hown5.alloc _) w5.heap.size (.string (str x)) rfl ?c1 rfl ?c2 ?c3 ?c4 ?_)
        case c1 => simp
        case c2 => omega
        case c3 => omega
        case c4 => simp; omega
        intro v' w6 hown6 hg6 _
        have ka := turn_alloc w5 (.cells #[.string (str x)] 9)
        have ko := turn_own (hown5.alloc (.cells #[.string (str x)] 9)) hg6
        have hc6 := (hc5.keep ka (by omega)).keep ko (by omega)
        have k6 : TurnIn g (g + 1) w w6 := turn_trans (turn_trans (turn_trans kr k5 (by omega)) ka (by omega)) ko (by omega)
        have hown7 : w6.ownsRow w.heap.size 9 1 v' (T ++ [x]).length (strs (T ++ [x])) := by
          rw [strs_append, List.length_append]; exact hown6
        clear hown6 hg6 hown5 ka ko hc5 k5 hown hcr kr
        go_wp2_with fail
        go_roundw
        case rel => exact ⟨j - 1, T ++ [x], by omega, by go_num, ⟨by have := HL.out.1; rw [List.length_append, List.length_singleton]; omega, fun s hs => by rcases List.mem_append.1 hs with h | h; exact HL.out.2 s h; rw [List.mem_singleton] at h; rw [h]; exact HX.out⟩, hown7, hc6.more (by omega), k6⟩
        case measure => simp [intOf]; omega
      · obtain rfl : j = 0 := by omega
        obtain ⟨A6, n6, c6, rfl⟩ := own_isSlice hown
        have hn6 : n6 = T.length := by
          rcases hown.2 with ⟨hh, h0⟩ | ⟨g', c', cur, hh, _⟩
          · simp at hh; omega
          · simp at hh; exact hh.2.1
        subst hn6
        have hTk : T.length = k := by have := HL.out.1; omega
        subst hTk
        by_cases hk0 : T.length = 0
        · have hz : decide ((0 : Int) < (T.length : Int)) = false := decide_eq_false (by omega)
          have HOWN := Lib.hid hown
          clear hown
          go_wp2_with fail
          go_ret
          exact ⟨_, T, rfl, Seen.of_own HOWN.out, hcr.more (by omega), kr⟩
        · have hz : decide ((0 : Int) < (T.length : Int)) = true := decide_eq_true (by omega)
          go_wp2_with fail
          refine (one_any g cv _ 30 _ hcr (by omega)).mono ?_
          rintro e w7 ⟨b7, rfl, hc7, k7⟩
          have hs7 := k7.size
          have hown7 : w7.ownsRow w.heap.size 9 1 (.slice A6 T.length c6) T.length (strs T) := owns_turn (hi := wr.heap.size) hown (fun x hx => (hown.lt x hx).2) k7 (by omega)
          cases b7
          · have HOWN := Lib.hid hown7
            clear hown7 hown
            go_wp2_with fail
            go_ret
            exact ⟨_, T, rfl, Seen.of_own HOWN.out, hc7.more (by omega), turn_trans kr k7 (by omega)⟩
          · obtain ⟨g', rfl, hbg⟩ : ∃ g', A6 = some ⟨g', 0, none⟩ ∧ w.heap.size ≤ g' := by
              rcases hown7.2 with ⟨hh, h0⟩ | ⟨g', c', cur, hh, hbg, _⟩
              · omega
              · simp at hh; exact ⟨g', hh.1, hbg⟩
            have hT0 : 0 < T.length := by omega
            have cc := hown7.cells (g := g') rfl 0 _ (strs_get T 0 hT0)
            rw [Addr.add_lit, Nat.zero_add] at cc
            have hfz := hown7.frozenAt 0
            have hts := str_size T[0]
            rw [HL.out.2 T[0] (List.getElem_mem hT0)] at hts
            generalize hx0 : T[0] = x0 at *
            have hst := fun y => (hown7.stored 0 y).1
            have ks := fun y => turn_setCell w7 g' 0 y
            have HST := Lib.hid hst
            have HKS := Lib.hid ks
            clear hst ks hown7 hown hx0
            go_wp2_with fail
            go_ret
            generalize hs : (str x0 ++ { data := #[120] } : ByteArray) = sx
            refine ⟨_, T.set 0 sx.data.toList, rfl, ?_, (hc7.keep (HKS.out _) (by omega)).more (by omega), turn_trans (turn_trans kr k7 (by omega)) (HKS.out _) (by omega)⟩
            have e1 : strs (T.set 0 sx.data.toList) = (strs T).set 0 (.string sx) := by
              simp only [strs, List.map_set, ← str_eq]
            rw [e1]
            exact Seen.of_own (HST.out _)

end Go.Proofs.YtfglkgeeelapgaaDoor

/- Shards in memory: a slice of structs of an int and a string that is seen, or of the call's own; what a mark writes. -/
namespace G294
open Go Go.RowKit
abbrev Sh := Int × List UInt8
/-- shards as the cells of memory -/
def shs : List Sh → List Value
  | [] => []
  | s :: l => .int .i64 s.1 :: .string (str s.2) :: shs l
@[simp] theorem shs_length (l : List Sh) : (shs l).length = l.length * 2 := by
  induction l with
  | nil => rfl
  | cons s l ih => simp [shs, ih]; omega
theorem shs_append (l m : List Sh) : shs (l ++ m) = shs l ++ shs m := by
  induction l with
  | nil => rfl
  | cons s l ih => simp [shs, ih]
theorem shs_no (l : List Sh) (i : Nat) (h : i < l.length) : (shs l)[i * 2]? = some (.int .i64 l[i].1) := by
  induction l generalizing i with
  | nil => simp at h
  | cons s l ih =>
    cases i with
    | zero => rfl
    | succ i => rw [show (i + 1) * 2 = i * 2 + 1 + 1 by omega]; simpa [shs] using ih i (by simpa using h)
theorem shs_data (l : List Sh) (i : Nat) (h : i < l.length) : (shs l)[i * 2 + 1]? = some (.string (str l[i].2)) := by
  induction l generalizing i with
  | nil => simp at h
  | cons s l ih =>
    cases i with
    | zero => rfl
    | succ i => rw [show (i + 1) * 2 + 1 = i * 2 + 1 + 1 + 1 by omega]; simpa [shs] using ih i (by simpa using h)
theorem shs_oneC (l : List Sh) : ∀ y, y ∈ shs l → y.oneCell' = true := by
  induction l with
  | nil => intro y hy; simp [shs] at hy
  | cons s l ih =>
    intro y hy
    simp only [shs, List.mem_cons] at hy
    rcases hy with rfl | rfl | hy
    · rfl
    · rfl
    · exact ih y hy
theorem shs_set (l : List Sh) (i : Nat) (x : Sh) (h : i < l.length) : ((shs l).set (i * 2) (.int .i64 x.1)).set (i * 2 + 1) (.string (str x.2)) = shs (l.set i x) := by
  induction l generalizing i with
  | nil => simp at h
  | cons s l ih =>
    cases i with
    | zero => rfl
    | succ i =>
      rw [show (i + 1) * 2 = i * 2 + 1 + 1 by omega]
      simp only [shs, List.set_cons_succ, ih i (by simpa using h)]
/-- the value v is seen in w as the shards l -/
def SeenH (w : World) (v : Value) (l : List Sh) : Prop :=
  ∃ A c, v = .slice A l.length c ∧ l.length ≤ c ∧ c ≤ maxLen ∧ (0 < l.length → ∃ b off, A = some ⟨b, off, none⟩ ∧ b < w.heap.size ∧ ∀ i s, l[i]? = some s → w.cell? ⟨b, off + i * 2, none⟩ = some (.int .i64 s.1) ∧ w.cell? ⟨b, off + i * 2 + 1, none⟩ = some (.string (str s.2)))
theorem at_lt {α : Type} {l : List α} {n k : Nat} (hn : l.length = n) (h : k < n) : ∃ s, l[k]? = some s := ⟨_, List.getElem?_eq_getElem (by omega)⟩
/-- a row of shards of the call's own, its block from lo to hi -/
def OwnSh (E : TypeId) (w : World) (lo hi : Nat) (v : Value) (l : List Sh) : Prop := w.ownsRow lo E 2 v l.length (shs l) ∧ hi ≤ w.heap.size ∧ ∀ g, v.ownBlock = some g → g < hi
section
variable {w w' : World} {lo hi a b : Nat} {v : Value} {l : List Sh} {E : TypeId}
theorem SeenH.below (h : SeenH w v l) (hb : Below w.heap.size w w') : SeenH w' v l := by
  obtain ⟨A, c, rfl, h1, h2, h3⟩ := h
  refine ⟨A, c, rfl, h1, h2, fun hn => ?_⟩
  obtain ⟨b, off, rfl, hb', hc⟩ := h3 hn
  exact ⟨b, off, rfl, Nat.lt_of_lt_of_le hb' hb.size, fun i s hi => ⟨(hb.cell (p := ⟨b, off + i * 2, none⟩) hb').trans (hc i s hi).1, (hb.cell (p := ⟨b, off + i * 2 + 1, none⟩) hb').trans (hc i s hi).2⟩⟩
theorem SeenH.len (h : SeenH w v l) : ∃ A c, v = .slice A l.length c := by
  obtain ⟨A, c, h, _⟩ := h
  exact ⟨A, c, h⟩
theorem SeenH.nil (w : World) : SeenH w (.slice none 0 0) [] := ⟨none, 0, rfl, Nat.le_refl _, Nat.zero_le _, fun h => by simp at h⟩
theorem owns_turn2 {size n : Nat} {xs : List Value} (h : w.ownsRow lo E size v n xs) (h2 : ∀ g, v.ownBlock = some g → g < hi) (t : TurnIn a b w w') (d : hi ≤ a ∨ b ≤ lo) : w'.ownsRow lo E size v n xs := by
  refine ⟨h.1, ?_⟩
  rcases h.2 with hn | ⟨g, cap, cur, rfl, hbg, hg, rest⟩
  · exact .inl hn
  · refine .inr ⟨g, cap, cur, rfl, hbg, ?_, rest⟩
    have := h2 g rfl
    rw [t.block g (Array.getElem?_eq_some_iff.1 hg).1 (by omega)]
    exact hg
theorem OwnSh.keep (h : OwnSh E w lo hi v l) (t : TurnIn a b w w') (d : hi ≤ a ∨ b ≤ lo) : OwnSh E w' lo hi v l :=
  ⟨owns_turn2 h.1 h.2.2 t d, Nat.le_trans h.2.1 t.size, h.2.2⟩
theorem OwnSh.seen (h : OwnSh E w lo hi v l) : SeenH w v l := by
  obtain ⟨h1, h2, h3⟩ := h
  rcases h1.2 with ⟨rfl, hn⟩ | ⟨g, cap, cur, rfl, hb, hg, hnc, hcm, hcs, ht⟩
  · have : l = [] := List.eq_nil_of_length_eq_zero hn
    subst this
    exact SeenH.nil w
  · refine ⟨_, cap, rfl, hnc, hcm, fun hn => ⟨g, 0, rfl, (Array.getElem?_eq_some_iff.1 hg).1, fun i s hs => ?_⟩⟩
    obtain ⟨hi, rfl⟩ := List.getElem?_eq_some_iff.1 hs
    have e1 := h1.cells (g := g) rfl (i * 2) _ (shs_no l i hi)
    have e2 := h1.cells (g := g) rfl (i * 2 + 1) _ (shs_data l i hi)
    rw [Addr.add_lit, Nat.zero_add] at e1 e2
    exact ⟨by rw [Nat.zero_add]; exact e1, by rw [Nat.zero_add]; exact e2⟩
theorem OwnSh.nil (E : TypeId) (w : World) (lo : Nat) : OwnSh E w lo w.heap.size (.slice none 0 0) [] := ⟨World.ownsRow_nil _ _ _ _, Nat.le_refl _, fun g h => by simp [Value.ownBlock] at h⟩
theorem OwnSh.of_made (h : w'.ownsRow w.heap.size E 2 v l.length (shs l)) : OwnSh E w' w.heap.size w'.heap.size v l := ⟨h, Nat.le_refl _, fun g hg => (h.lt g hg).2⟩
end
def RetShs (E : TypeId) (w : World) (l : List Sh) (e : Ending) (w' : World) : Prop := ∃ v, e = .returned v ∧ OwnSh E w' w.heap.size w'.heap.size v l ∧ TurnIn 0 0 w w'
def RetShsOk (E : TypeId) (w : World) (l : List Sh) (ok : Bool) (e : Ending) (w' : World) : Prop := ∃ v, e = .returned (.tuple #[v, .bool ok]) ∧ OwnSh E w' w.heap.size w'.heap.size v l ∧ TurnIn 0 0 w w'
/-- the shards that marks write -/
def marksH (k n : Nat) : List Sh := (List.range n).map fun i => (((k + i * 2 : Nat) : Int), mtext (k + i * 2 + 1))
@[simp] theorem marksH_length (k n : Nat) : (marksH k n).length = n := by simp [marksH]
theorem marksH_get (k n i : Nat) (h : i < (marksH k n).length) : (marksH k n)[i] = (((k + i * 2 : Nat) : Int), mtext (k + i * 2 + 1)) := by simp [marksH]
def RetMarkH (E : TypeId) (w : World) (lo hi : Nat) (v : Value) (k n : Nat) (e : Ending) (w' : World) : Prop :=
  e = .returned (.int .i64 ((k + n * 2 : Nat) : Int)) ∧ OwnSh E w' lo hi v (marksH k n) ∧ TurnIn lo hi w w'
end G294

/- Contracts of the laws' helpers on []Shard: equality, marks, marks held. -/
namespace Go.Proofs.YtfglkgeeelapgaaDoor
open Go.RowKit G294

end Go.Proofs.YtfglkgeeelapgaaDoor

/- Increasing lists of indexes, and parts of matrices: plain functions. -/
namespace G294
def okAt (l : List Int) (size : Nat) (i : Nat) : Prop := 0 ≤ l.getD i 0 ∧ l.getD i 0 < size ∧ (0 < i → l.getD (i - 1) 0 < l.getD i 0)
instance (l : List Int) (size i : Nat) : Decidable (okAt l size i) := by unfold okAt; infer_instance
def someOk (l : List Int) (size : Nat) : Bool := decide (∀ i, i < l.length → okAt l size i)
def chosen (l : List Int) (size : Nat) : Bool := someOk l size && decide (0 < l.length)
theorem someOk_iff (l : List Int) (size : Nat) : someOk l size = true ↔ ∀ i, i < l.length → okAt l size i := by simp only [someOk, decide_eq_true_eq]
theorem someOk_no {l : List Int} {size k : Nat} (hk : k < l.length) (h : ¬ okAt l size k) : someOk l size = false := by
  rw [Bool.eq_false_iff]; intro e; exact h ((someOk_iff l size).1 e k hk)
def ptOk (m : Mat) (l c : List Int) : Bool := goodM m && chosen l m.length && chosen c (wid m)
def ptF (m : Mat) (l c : List Int) : Ents := fun i j => ent m (l.getD i 0).toNat (c.getD j 0).toNat
def ptR (m : Mat) (l c : List Int) : Mat := if ptOk m l c = true then mkM l.length c.length (ptF m l c) else []
/-- an increasing list of indexes below size is no longer than size -/
theorem okAt_lo (l : List Int) (size : Nat) (h : ∀ i, i < l.length → okAt l size i) : ∀ i, i < l.length → (i : Int) ≤ l.getD i 0 := by
  intro i
  induction i with
  | zero => intro hi; exact (h 0 hi).1
  | succ i ih =>
    intro hi
    have h1 := ih (by omega)
    have h2 := (h (i + 1) hi).2.2 (by omega)
    simp only [Nat.add_sub_cancel] at h2
    omega
theorem some_len {l : List Int} {size : Nat} (h : someOk l size = true) : l.length ≤ size := by
  have h' := (someOk_iff l size).1 h
  rcases Nat.eq_zero_or_pos l.length with h0 | h0
  · omega
  · have h1 := okAt_lo l size h' (l.length - 1) (by omega)
    have h2 := (h' (l.length - 1) (by omega)).2.1
    omega
end G294

/- Any k rows of the matrix of a Reed-Solomon code are independent. -/
namespace G294
theorem cau_inv {k r j : Nat} (h1 : k + r < 256) (h2 : j < 256) : cauF k r j = ginv (UInt8.ofNat (k + r) ^^^ UInt8.ofNat j) := by
  unfold cauF ginv
  rw [UInt8.toNat_xor, UInt8.toNat_ofNat', UInt8.toNat_ofNat', Nat.mod_eq_of_lt (show k + r < 2 ^ 8 from h1), Nat.mod_eq_of_lt (show j < 2 ^ 8 from h2)]
theorem ofNat_inj {a b : Nat} (ha : a < 256) (hb : b < 256) (h : UInt8.ofNat a = UInt8.ofNat b) : a = b := by
  have := congrArg UInt8.toNat h
  rwa [UInt8.toNat_ofNat', UInt8.toNat_ofNat', Nat.mod_eq_of_lt (show a < 2 ^ 8 from ha), Nat.mod_eq_of_lt (show b < 2 ^ 8 from hb)] at this
theorem nodup_ofNat {l : List Nat} (hn : l.Nodup) (h : ∀ x ∈ l, x < 256) : (l.map UInt8.ofNat).Nodup := by
  induction l with
  | nil => simp
  | cons x l ih =>
    have h1 := List.nodup_cons.1 hn
    rw [List.map_cons, List.nodup_cons]
    refine ⟨fun hm => ?_, ih h1.2 fun y hy => h y (by simp [hy])⟩
    obtain ⟨y, hy, e⟩ := List.mem_map.1 hm
    have := ofNat_inj (h y (by simp [hy])) (h x (by simp)) e
    exact h1.1 (this ▸ hy)
/-- no kernel -/
theorem code_ker {k m : Nat} (N : List Nat) (hn : N.Nodup) (hl : N.length = k) (hb : ∀ x ∈ N, x < k + m) (hk : k + m ≤ 256) (v : Nat → UInt8)
    (h : ∀ x ∈ N, sumK k (fun j => gmul (codF k x j) (v j)) = 0) : ∀ j, j < k → v j = 0 := by
  have h1 : ∀ j, j < k → j ∈ N → v j = 0 := fun j hj hm => by
    have := h j hm
    rw [sumK_one (k := j) _ hj (fun t ht hne => by simp only [codF, if_pos hj, idF]; rw [if_neg (fun e => hne e.symm)]; exact zero_gmul _)] at this
    simp only [codF, if_pos hj, idF, if_true] at this
    rwa [one_gmul] at this
  let Y := (List.range k).filter fun j => !decide (j ∈ N)
  let X := N.filter fun x => !decide (x < k)
  have hYX : Y.length ≤ X.length := by
    have e1 := len_parts (fun j => decide (j ∈ N)) (List.range k)
    have e2 := len_parts (fun x => decide (x < k)) N
    have e3 : (N.filter fun x => decide (x < k)).length ≤ ((List.range k).filter fun j => decide (j ∈ N)).length := len_sub (hn.filter _) fun x hx => by
      rw [List.mem_filter] at hx ⊢
      exact ⟨List.mem_range.2 (by simpa using hx.2), by simpa using hx.1⟩
    rw [List.length_range] at e1
    show ((List.range k).filter fun j => !decide (j ∈ N)).length ≤ (N.filter fun x => !decide (x < k)).length
    omega
  have hXm : ∀ x ∈ X, x ∈ N ∧ k ≤ x := fun x hx => by
    have := List.mem_filter.1 hx
    exact ⟨this.1, by simpa using this.2⟩
  have hYm : ∀ y ∈ Y, y < k ∧ y ∉ N := fun y hy => by
    have := List.mem_filter.1 hy
    exact ⟨List.mem_range.1 this.1, by simpa using this.2⟩
  have key := cau_list (Y.map UInt8.ofNat) (X.map UInt8.ofNat) (fun y => v y.toNat) (by simpa using hYX)
    (nodup_ofNat (hn.filter _) fun x hx => by have := hb x (hXm x hx).1; omega)
    (nodup_ofNat (List.nodup_range.filter _) fun y hy => by have := (hYm y hy).1; omega)
    (fun x hx y hy e => by
      obtain ⟨a, ha, rfl⟩ := List.mem_map.1 hx
      obtain ⟨b, hb', rfl⟩ := List.mem_map.1 hy
      have h3 := hb a (hXm a ha).1
      have h4 := (hYm b hb').1
      have := ofNat_inj (by omega) (by omega) e
      have := (hXm a ha).2
      omega)
    (fun x hx => by
      obtain ⟨a, ha, rfl⟩ := List.mem_map.1 hx
      obtain ⟨ha1, ha2⟩ := hXm a ha
      have h3 := hb a ha1
      rw [sumL_map]
      have hrow := h a ha1
      rw [← sumL_range] at hrow
      rw [← sumL_filter (fun j => !decide (j ∈ N)) (List.range k) _ (fun j hj hp => by
        have hjN : j ∈ N := by simpa using hp
        show gmul (codF k a j) (v j) = 0
        rw [h1 j (List.mem_range.1 hj) hjN, gmul_comm, zero_gmul])] at hrow
      rw [← hrow]
      refine sumL_congr fun j hj => ?_
      have hj' := (hYm j hj).1
      have e0 : (UInt8.ofNat j).toNat = j := by rw [UInt8.toNat_ofNat', Nat.mod_eq_of_lt (show j < 2 ^ 8 by omega)]
      rw [e0]
      simp only [codF, if_neg (Nat.not_lt.2 ha2)]
      rw [cau_inv (by omega) (by omega), show k + (a - k) = a by omega, gmul_comm])
  intro j hj
  by_cases hm : j ∈ N
  · exact h1 j hj hm
  · have hy : j ∈ Y := List.mem_filter.2 ⟨List.mem_range.2 hj, by simpa using hm⟩
    have := key (UInt8.ofNat j) (List.mem_map.2 ⟨j, hy, rfl⟩)
    simpa [UInt8.toNat_ofNat', Nat.mod_eq_of_lt (show j < 2 ^ 8 by omega)] using this
/-- an increasing list of numbers has none twice -/
theorem some_nodup {l : List Int} {size : Nat} (h : someOk l size = true) : (l.map Int.toNat).Nodup := by
  have h' := (someOk_iff l size).1 h
  have mono : ∀ i d, i + d < l.length → 0 < d → l.getD i 0 < l.getD (i + d) 0 := fun i d => by
    induction d with
    | zero => intro _ h0; omega
    | succ d ih =>
      intro hlt _
      have h2 := (h' (i + (d + 1)) hlt).2.2 (by omega)
      rw [show i + (d + 1) - 1 = i + d by omega] at h2
      rcases Nat.eq_zero_or_pos d with rfl | hd
      · simpa using h2
      · have := ih (by omega) hd; omega
  rw [List.nodup_iff_pairwise_ne, List.pairwise_iff_getElem]
  intro i j hi hj hij
  simp only [List.length_map] at hi hj
  simp only [List.getElem_map]
  have e1 := (h' i hi).1
  have e2 := mono i (j - i) (by omega) (by omega)
  rw [show i + (j - i) = j by omega] at e2
  have g1 : l.getD i 0 = l[i] := by simp [List.getD, hi]
  have g2 : l.getD j 0 = l[j] := by simp [List.getD, hj]
  rw [g1] at e1 e2
  rw [g2] at e2
  omega
/-- any k rows of the code's matrix have full rank -/
theorem code_full {k m : Nat} {l : List Int} (h : someOk l (k + m) = true) (hl : l.length = k) (hk : k + m ≤ 256) : (est (fun i j => codF k (l.getD i 0).toNat j) k k).2 = k := by
  have h' := (someOk_iff l (k + m)).1 h
  refine rank_full (Nat.le_refl _) fun v hv => ?_
  refine code_ker (m := m) (l.map Int.toNat) (some_nodup h) (by simpa using hl) (fun x hx => ?_) hk v (fun x hx => ?_)
  · obtain ⟨a, ha, rfl⟩ := List.mem_map.1 hx
    obtain ⟨i, hi, rfl⟩ := List.getElem_of_mem ha
    have := h' i hi
    unfold okAt at this
    have g1 : l.getD i 0 = l[i] := by simp [List.getD, hi]
    rw [g1] at this
    omega
  · obtain ⟨a, ha, rfl⟩ := List.mem_map.1 hx
    obtain ⟨i, hi, rfl⟩ := List.getElem_of_mem ha
    have := hv i (by omega)
    have g1 : l.getD i 0 = l[i] := by simp [List.getD, hi]
    simpa only [g1] using this
end G294

/- Shards as arguments: the laws' copies and sizes, and the program's textsOf. -/
namespace G294
open Go Go.RowKit
def sizH (l : List Sh) : Nat := sizM (l.map (·.2))
theorem sizH_take_succ (l : List Sh) (k : Nat) (h : k < l.length) : sizH (l.take (k + 1)) = sizH (l.take k) + l[k].2.length := by
  unfold sizH
  rw [List.map_take, List.map_take, sizM_take_succ _ k (by simpa using h)]
  simp [List.getD, h]
theorem sizH_take_le (l : List Sh) (k : Nat) : sizH (l.take k) ≤ sizH l := by
  unfold sizH
  rw [List.map_take]; exact sizM_take_le _ _
theorem toList_madeCells_shs (n : Nat) : (madeCells #[.int .i64 0, .string ⟨#[]⟩] (n * 2)).toList = shs (List.replicate n ((0 : Int), ([] : List UInt8))) := by
  apply List.ext_getElem?
  intro j
  by_cases hj : j < n * 2
  · rcases Nat.mod_two_eq_zero_or_one j with h | h
    · have e : j = (j / 2) * 2 := by omega
      rw [e, shs_no _ (j / 2) (by simp; omega)]
      simp [madeCells, show j / 2 * 2 < n * 2 by omega]
    · have e : j = (j / 2) * 2 + 1 := by omega
      have h2 : (j / 2 * 2 + 1) % 2 = 1 := by omega
      rw [e, shs_data _ (j / 2) (by simp; omega)]
      simp [madeCells, show j / 2 * 2 + 1 < n * 2 by omega, h2]
      rfl
  · rw [List.getElem?_eq_none (by simp [madeCells]; omega), List.getElem?_eq_none (by simp; omega)]
end G294
namespace Go.Proofs.YtfglkgeeelapgaaDoor
open Go.RowKit G294

end Go.Proofs.YtfglkgeeelapgaaDoor

/- The mathematics of SplitText and JoinShards. -/
namespace G294
open Go Go.RowKit
/-- the length of a part -/
def partSize (n k : Nat) : Nat := (n + k - 1) / k
def padded (s : List UInt8) (k : Nat) : List UInt8 := s ++ List.replicate (k * partSize s.length k - s.length) 0
def splitP (s : List UInt8) (k : Nat) (i : Nat) : List UInt8 := ((padded s k).drop (i * partSize s.length k)).take (partSize s.length k)
def splitL (s : List UInt8) (k : Nat) : List (List UInt8) := (List.range k).map (splitP s k)
def splitOk (s : List UInt8) (k : Int) : Bool := dataOk k && decide ((s.length : Int) ≤ k * 40)
def splitR (s : List UInt8) (k : Int) : List (List UInt8) := if splitOk s k then splitL s k.toNat else []
theorem partSize_mul (n k : Nat) (hk : 1 ≤ k) : n ≤ k * partSize n k := by
  unfold partSize
  have h := Nat.div_add_mod (n + k - 1) k
  have h2 := Nat.mod_lt (n + k - 1) (show 0 < k by omega)
  omega
theorem partSize_le (n k : Nat) (hk : 1 ≤ k) (h : n ≤ k * 40) : partSize n k ≤ 40 := by
  unfold partSize
  have h1 : n + k - 1 < 41 * k := by omega
  have := (Nat.div_lt_iff_lt_mul (show 0 < k by omega)).2 h1
  omega
theorem padded_length (s : List UInt8) (k : Nat) (hk : 1 ≤ k) : (padded s k).length = k * partSize s.length k := by
  have := partSize_mul s.length k hk
  simp [padded]; omega
theorem splitP_length (s : List UInt8) (k i : Nat) (hk : 1 ≤ k) (hi : i < k) : (splitP s k i).length = partSize s.length k := by
  unfold splitP
  rw [List.length_take, List.length_drop, padded_length s k hk]
  have : (i + 1) * partSize s.length k ≤ k * partSize s.length k := Nat.mul_le_mul_right _ hi
  rw [Nat.add_mul] at this
  omega
@[simp] theorem splitL_length (s : List UInt8) (k : Nat) : (splitL s k).length = k := by simp [splitL]
theorem splitL_succ (s : List UInt8) (k i : Nat) : (List.range (i + 1)).map (splitP s k) = (List.range i).map (splitP s k) ++ [splitP s k i] := by simp [List.range_succ]
theorem extract_str (l : List UInt8) (a b : Nat) : (str l).extract a b = str ((l.drop a).take (b - a)) := by
  apply ByteArray.ext
  rw [ByteArray.data_extract]
  apply Array.ext'
  simp [str]
end G294
