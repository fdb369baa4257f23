/- Joined texts: Cur3, ShardMem, Boxes, ShardWalks, IntsWalks, Takes, InvMath. -/
import Derived.Test.YtjgmegfbfjmnfaaDoorBd01
import Derived.Test.YtjgmegfbfjmnfaaDoorBd02
import Derived.Test.YtjgmegfbfjmnfaaDoorBd03
import Derived.Test.YtjgmegfbfjmnfaaDoorBd00
set_option linter.unusedSimpArgs false
set_option linter.unusedVariables false
/- The cursor's shapes and data, and the drawn arguments of EncodeShards. -/
namespace Go.Proofs.YtjgmegfbfjmnfaaDoor
open Go.RowKit G294

set_option maxRecDepth 100000 in
set_option maxHeartbeats 1000000 in
theorem text_any (g : Nat) (cv : Value) (m n : Nat) (w : World) (hc : CurAt w g cv m) (hm : m + 4 * n ≤ 1000000000) :
    Calls Tryd.prog 80 #[.pointer (some ⟨g, 0, none⟩), .int .i64 n] w fun e w' => ∃ l : List UInt8, e = .returned (.string (str l)) ∧ l.length = n ∧ CurAt w' g cv (m + 4 * n) ∧ TurnIn g (g + 1) w w' := by
  go_enter Tryd.func80, Tryd.ntmps80
  go_wp2_with fail
  refine (vector_any g cv m n _ hc hm).mono ?_
  rintro e w1 ⟨v, l, rfl, hl, ho, hc1, k1⟩
  have r1 := run_string_seen (P := Tryd.prog) 22 5 9 Tryd.underlying22 Tryd.underlying5 Tryd.underlying9 (Seen.of_own ho)
  obtain ⟨A, c, N, rfl⟩ := own_isSlice ho
  have HL := Lib.hid hl
  clear hl ho
  go_wp2_with fail
  go_ret
  exact ⟨l, rfl, HL.out, hc1, k1⟩

theorem infoStr3 : (Tryd.prog.info? 9).map (fun i => (i.zero, i.size, i.bytes)) = some (some (.string ⟨#[]⟩), 1, 16) := by kernel_rfl

/-- some texts are drawn -/
def DrawsStrs (w : World) (g : Nat) (cv : Value) (m : Nat) (e : Ending) (w' : World) : Prop := ∃ (v : Value) (T : List (List UInt8)), e = .returned v ∧ Seen w' v (strs T) ∧ CurAt w' g cv m ∧ TurnIn g (g + 1) w w'

set_option maxRecDepth 100000 in
set_option maxHeartbeats 4000000 in
theorem data_any (g : Nat) (cv : Value) (m k : Nat) (w : World) (hc : CurAt w g cv m) (hm : m ≤ 100000000) (hk : k ≤ 9) :
    Calls Tryd.prog 105 #[.pointer (some ⟨g, 0, none⟩), .int .i64 k] w (DrawsStrs w g cv (m + 10 + 200 * k)) := by
  have hgw := hc.lt
  go_enter Tryd.func105, Tryd.ntmps105
  go_wp2_with fail
  refine (pick_any g cv m 5 _ hc (by omega)).mono ?_
  rintro e w1 ⟨r, rfl, r0, r1, hc1, k1⟩
  have hr : r ≤ 4 := by simpa [pickHi] using r1
  have s1 := k1.size
  clear r1
  go_wp2_with fail
  refine (one_any g cv _ 20 _ hc1 (by omega)).mono ?_
  rintro e w2 ⟨b, rfl, hc2, k2⟩
  have s2 := k2.size
  cases b
  · obtain ⟨n, rfl⟩ := Int.eq_ofNat_of_zero_le r0
    have hcS := hc2
    have kS := turn_trans k1 k2 (by omega)
    clear hc1 hc2 k1 k2
    go_wp2_with fail
    go_loopw [1, 6] (fun y o wr => ∃ (j : Nat) (T : List (List UInt8)), j ≤ k ∧ y = .int .i64 j ∧ Hid (T.length + j = k ∧ ∀ s ∈ T, s.length = n) ∧ wr.ownsRow w.heap.size 9 1 o T.length (strs T) ∧ CurAt wr g cv (m + 6 + 200 * (k - j)) ∧ TurnIn g (g + 1) w wr)
      (fun y _ _ => (intOf y).toNat)
    case atStart => exact ⟨k, [], Nat.le_refl _, rfl, ⟨by simp, by simp⟩, World.ownsRow_nil _ _ _ _, hcS.more (by omega), kS⟩
    case round =>
      clear hcS kS
      obtain ⟨j, T, hj, rfl, HL, hown, hcr, kr⟩ := hrel
      have hsr := kr.size
      have hgr := hcr.lt
      by_cases hlt : 0 < j
      · go_wp2_with fail
        refine (text_any g cv _ n _ hcr (by omega)).mono ?_
        rintro e w5 ⟨x, rfl, hx, hc5, k5⟩
        have hs5 := k5.size
        have hown5 : w5.ownsRow w.heap.size 9 1 u6 T.length (strs T) := by
          refine ⟨hown.1, ?_⟩
          rcases hown.2 with hn | ⟨g', cap, cur, e1, hbg, hg', rest⟩
          · exact .inl hn
          · refine .inr ⟨g', cap, cur, e1, hbg, ?_, rest⟩
            rw [k5.block g' (Array.getElem?_eq_some_iff.1 hg').1 (by omega)]
            exact hg'
        have hll : T.length ≤ 1000 := by have := HL.out.1; omega
        have HX := Lib.hid hx
        clear hx
        go_wp2_with (at_builtin; refine wpList_append1 rfl _ _ _ rfl w.heap.size 9 _ _ Tryd.underlying23 infoStr3 rfl _ T.length _ rfl (hown5.alloc _) w5.heap.size (.string (str x)) rfl ?c1 rfl ?c2 ?c3 ?c4 ?_)
        case c1 => simp
        case c2 => omega
        case c3 => omega
        case c4 => simp; omega
        intro v' w6 hown6 hg6 _
        have ka := turn_alloc w5 (.cells #[.string (str x)] 9)
        have ko := turn_own (hown5.alloc (.cells #[.string (str x)] 9)) hg6
        have hc6 := (hc5.keep ka (by omega)).keep ko (by omega)
        have k6 : TurnIn g (g + 1) w w6 := turn_trans (turn_trans (turn_trans kr k5 (by omega)) ka (by omega)) ko (by omega)
        have hown7 : w6.ownsRow w.heap.size 9 1 v' (T ++ [x]).length (strs (T ++ [x])) := by
          rw [strs_append, List.length_append]; exact hown6
        clear hown6 hg6 hown5 ka ko hc5 k5 hown hcr kr
        go_wp2_with fail
        go_roundw
        case rel => exact ⟨j - 1, T ++ [x], by omega, by go_num, ⟨by have := HL.out.1; rw [List.length_append, List.length_singleton]; omega, fun s hs => by rcases List.mem_append.1 hs with h | h; exact HL.out.2 s h; rw [List.mem_singleton] at h; rw [h]; exact HX.out⟩, hown7, hc6.more (by omega), k6⟩
        case measure => simp [intOf]; omega
      · obtain rfl : j = 0 := by omega
        obtain ⟨A6, n6, c6, rfl⟩ := own_isSlice hown
        have hn6 : n6 = T.length := by
          rcases hown.2 with ⟨hh, h0⟩ | ⟨g', c', cur, hh, _⟩
          · simp at hh; omega
          · simp at hh; exact hh.2.1
        subst hn6
        have hTk : T.length = k := by have := HL.out.1; omega
        subst hTk
        by_cases hk0 : T.length = 0
        · have hz : decide ((0 : Int) < (T.length : Int)) = false := decide_eq_false (by omega)
          have HOWN := Lib.hid hown
          clear hown
          go_wp2_with fail
          go_ret
          exact ⟨_, T, rfl, Seen.of_own HOWN.out, hcr.more (by omega), kr⟩
        · have hz : decide ((0 : Int) < (T.length : Int)) = true := decide_eq_true (by omega)
          go_wp2_with fail
          refine (one_any g cv _ 30 _ hcr (by omega)).mono ?_
          rintro e w7 ⟨b7, rfl, hc7, k7⟩
          have hs7 := k7.size
          have hown7 : w7.ownsRow w.heap.size 9 1 (.slice A6 T.length c6) T.length (strs T) := owns_turn (hi := wr.heap.size) hown (fun x hx => (hown.lt x hx).2) k7 (by omega)
          cases b7
          · have HOWN := Lib.hid hown7
            clear hown7 hown
            go_wp2_with fail
            go_ret
            exact ⟨_, T, rfl, Seen.of_own HOWN.out, hc7.more (by omega), turn_trans kr k7 (by omega)⟩
          · obtain ⟨g', rfl, hbg⟩ : ∃ g', A6 = some ⟨g', 0, none⟩ ∧ w.heap.size ≤ g' := by
              rcases hown7.2 with ⟨hh, h0⟩ | ⟨g', c', cur, hh, hbg, _⟩
              · omega
              · simp at hh; exact ⟨g', hh.1, hbg⟩
            have hT0 : 0 < T.length := by omega
            have cc := hown7.cells (g := g') rfl 0 _ (strs_get T 0 hT0)
            rw [Addr.add_lit, Nat.zero_add] at cc
            have hfz := hown7.frozenAt 0
            have hts := str_size T[0]
            rw [HL.out.2 T[0] (List.getElem_mem hT0)] at hts
            generalize hx0 : T[0] = x0 at *
            have hst := fun y => (hown7.stored 0 y).1
            have ks := fun y => turn_setCell w7 g' 0 y
            have HST := Lib.hid hst
            have HKS := Lib.hid ks
            clear hst ks hown7 hown hx0
            go_wp2_with fail
            go_ret
            generalize hs : (str x0 ++ { data := #[120] } : ByteArray) = sx
            refine ⟨_, T.set 0 sx.data.toList, rfl, ?_, (hc7.keep (HKS.out _) (by omega)).more (by omega), turn_trans (turn_trans kr k7 (by omega)) (HKS.out _) (by omega)⟩
            have e1 : strs (T.set 0 sx.data.toList) = (strs T).set 0 (.string sx) := by
              simp only [strs, List.map_set, ← str_eq]
            rw [e1]
            exact Seen.of_own (HST.out _)
  · go_wp2_with fail
    refine (pick_any g cv _ 2 _ hc2 (by omega)).mono ?_
    rintro e w3 ⟨q, rfl, q0, q1, hc3, k3⟩
    have hq : q ≤ 1 := by simpa [pickHi] using q1
    have s3 := k3.size
    clear q1
    obtain ⟨n, hn⟩ : ∃ n : Nat, (40 : Int) + q = (n : Int) := Int.eq_ofNat_of_zero_le (by omega)
    have hn41 : n ≤ 41 := by omega
    have hcS := hc3
    have kS := turn_trans (turn_trans k1 k2 (by omega)) k3 (by omega)
    clear hc1 hc2 hc3 k1 k2 k3
    go_wp2_with fail
    go_loopw [1, 6] (fun y o wr => ∃ (j : Nat) (T : List (List UInt8)), j ≤ k ∧ y = .int .i64 j ∧ Hid (T.length + j = k ∧ ∀ s ∈ T, s.length = n) ∧ wr.ownsRow w.heap.size 9 1 o T.length (strs T) ∧ CurAt wr g cv (m + 6 + 200 * (k - j)) ∧ TurnIn g (g + 1) w wr)
      (fun y _ _ => (intOf y).toNat)
    case atStart => exact ⟨k, [], Nat.le_refl _, rfl, ⟨by simp, by simp⟩, World.ownsRow_nil _ _ _ _, hcS.more (by omega), kS⟩
    case round =>
      clear hcS kS
      obtain ⟨j, T, hj, rfl, HL, hown, hcr, kr⟩ := hrel
      have hsr := kr.size
      have hgr := hcr.lt
      by_cases hlt : 0 < j
      · go_wp2_with fail
        refine (text_any g cv _ n _ hcr (by omega)).mono ?_
        rintro e w5 ⟨x, rfl, hx, hc5, k5⟩
        have hs5 := k5.size
        have hown5 : w5.ownsRow w.heap.size 9 1 u6 T.length (strs T) := by
          refine ⟨hown.1, ?_⟩
          rcases hown.2 with hn | ⟨g', cap, cur, e1, hbg, hg', rest⟩
          · exact .inl hn
          · refine .inr ⟨g', cap, cur, e1, hbg, ?_, rest⟩
            rw [k5.block g' (Array.getElem?_eq_some_iff.1 hg').1 (by omega)]
            exact hg'
        have hll : T.length ≤ 1000 := by have := HL.out.1; omega
        have HX := Lib.hid hx
        clear hx
        go_wp2_with (at_builtin; refine wpList_append1 rfl _ _ _ rfl w.heap.size 9 _ _ Tryd.underlying23 infoStr3 rfl _ T.length _ rfl (hown5.alloc _) w5.heap.size (.string (str x)) rfl ?c1 rfl ?c2 ?c3 ?c4 ?_)
        case c1 => simp
        case c2 => omega
        case c3 => omega
        case c4 => simp; omega
        intro v' w6 hown6 hg6 _
        have ka := turn_alloc w5 (.cells #[.string (str x)] 9)
        have ko := turn_own (hown5.alloc (.cells #[.string (str x)] 9)) hg6
        have hc6 := (hc5.keep ka (by omega)).keep ko (by omega)
        have k6 : TurnIn g (g + 1) w w6 := turn_trans (turn_trans (turn_trans kr k5 (by omega)) ka (by omega)) ko (by omega)
        have hown7 : w6.ownsRow w.heap.size 9 1 v' (T ++ [x]).length (strs (T ++ [x])) := by
          rw [strs_append, List.length_append]; exact hown6
        clear hown6 hg6 hown5 ka ko hc5 k5 hown hcr kr
        go_wp2_with fail
        go_roundw
        case rel => exact ⟨j - 1, T ++ [x], by omega, by go_num, ⟨by have := HL.out.1; rw [List.length_append, List.length_singleton]; omega, fun s hs => by rcases List.mem_append.1 hs with h | h; exact HL.out.2 s h; rw [List.mem_singleton] at h; rw [h]; exact HX.out⟩, hown7, hc6.more (by omega), k6⟩
        case measure => simp [intOf]; omega
      · obtain rfl : j = 0 := by omega
        obtain ⟨A6, n6, c6, rfl⟩ := own_isSlice hown
        have hn6 : n6 = T.length := by
          rcases hown.2 with ⟨hh, h0⟩ | ⟨g', c', cur, hh, _⟩
          · simp at hh; omega
          · simp at hh; exact hh.2.1
        subst hn6
        have hTk : T.length = k := by have := HL.out.1; omega
        subst hTk
        by_cases hk0 : T.length = 0
        · have hz : decide ((0 : Int) < (T.length : Int)) = false := decide_eq_false (by omega)
          have HOWN := Lib.hid hown
          clear hown
          go_wp2_with fail
          go_ret
          exact ⟨_, T, rfl, Seen.of_own HOWN.out, hcr.more (by omega), kr⟩
        · have hz : decide ((0 : Int) < (T.length : Int)) = true := decide_eq_true (by omega)
          go_wp2_with fail
          refine (one_any g cv _ 30 _ hcr (by omega)).mono ?_
          rintro e w7 ⟨b7, rfl, hc7, k7⟩
          have hs7 := k7.size
          have hown7 : w7.ownsRow w.heap.size 9 1 (.slice A6 T.length c6) T.length (strs T) := owns_turn (hi := wr.heap.size) hown (fun x hx => (hown.lt x hx).2) k7 (by omega)
          cases b7
          · have HOWN := Lib.hid hown7
            clear hown7 hown
            go_wp2_with fail
            go_ret
            exact ⟨_, T, rfl, Seen.of_own HOWN.out, hc7.more (by omega), turn_trans kr k7 (by omega)⟩
          · obtain ⟨g', rfl, hbg⟩ : ∃ g', A6 = some ⟨g', 0, none⟩ ∧ w.heap.size ≤ g' := by
              rcases hown7.2 with ⟨hh, h0⟩ | ⟨g', c', cur, hh, hbg, _⟩
              · omega
              · simp at hh; exact ⟨g', hh.1, hbg⟩
            have hT0 : 0 < T.length := by omega
            have cc := hown7.cells (g := g') rfl 0 _ (strs_get T 0 hT0)
            rw [Addr.add_lit, Nat.zero_add] at cc
            have hfz := hown7.frozenAt 0
            have hts := str_size T[0]
            rw [HL.out.2 T[0] (List.getElem_mem hT0)] at hts
            generalize hx0 : T[0] = x0 at *
            have hst := fun y => (hown7.stored 0 y).1
            have ks := fun y => turn_setCell w7 g' 0 y
            have HST := Lib.hid hst
            have HKS := Lib.hid ks
            clear hst ks hown7 hown hx0
            go_wp2_with fail
            go_ret
            generalize hs : (str x0 ++ { data := #[120] } : ByteArray) = sx
            refine ⟨_, T.set 0 sx.data.toList, rfl, ?_, (hc7.keep (HKS.out _) (by omega)).more (by omega), turn_trans (turn_trans kr k7 (by omega)) (HKS.out _) (by omega)⟩
            have e1 : strs (T.set 0 sx.data.toList) = (strs T).set 0 (.string sx) := by
              simp only [strs, List.map_set, ← str_eq]
            rw [e1]
            exact Seen.of_own (HST.out _)

end Go.Proofs.YtjgmegfbfjmnfaaDoor

/- Shards in memory: a slice of structs of an int and a string that is seen, or of the call's own; what a mark writes. -/
namespace G294
open Go Go.RowKit
abbrev Sh := Int × List UInt8
/-- shards as the cells of memory -/
def shs : List Sh → List Value
  | [] => []
  | s :: l => .int .i64 s.1 :: .string (str s.2) :: shs l
@[simp] theorem shs_length (l : List Sh) : (shs l).length = l.length * 2 := by
  induction l with
  | nil => rfl
  | cons s l ih => simp [shs, ih]; omega
theorem shs_append (l m : List Sh) : shs (l ++ m) = shs l ++ shs m := by
  induction l with
  | nil => rfl
  | cons s l ih => simp [shs, ih]
theorem shs_no (l : List Sh) (i : Nat) (h : i < l.length) : (shs l)[i * 2]? = some (.int .i64 l[i].1) := by
  induction l generalizing i with
  | nil => simp at h
  | cons s l ih =>
    cases i with
    | zero => rfl
    | succ i => rw [show (i + 1) * 2 = i * 2 + 1 + 1 by omega]; simpa [shs] using ih i (by simpa using h)
theorem shs_data (l : List Sh) (i : Nat) (h : i < l.length) : (shs l)[i * 2 + 1]? = some (.string (str l[i].2)) := by
  induction l generalizing i with
  | nil => simp at h
  | cons s l ih =>
    cases i with
    | zero => rfl
    | succ i => rw [show (i + 1) * 2 + 1 = i * 2 + 1 + 1 + 1 by omega]; simpa [shs] using ih i (by simpa using h)
theorem shs_oneC (l : List Sh) : ∀ y, y ∈ shs l → y.oneCell' = true := by
  induction l with
  | nil => intro y hy; simp [shs] at hy
  | cons s l ih =>
    intro y hy
    simp only [shs, List.mem_cons] at hy
    rcases hy with rfl | rfl | hy
    · rfl
    · rfl
    · exact ih y hy
theorem shs_set (l : List Sh) (i : Nat) (x : Sh) (h : i < l.length) : ((shs l).set (i * 2) (.int .i64 x.1)).set (i * 2 + 1) (.string (str x.2)) = shs (l.set i x) := by
  induction l generalizing i with
  | nil => simp at h
  | cons s l ih =>
    cases i with
    | zero => rfl
    | succ i =>
      rw [show (i + 1) * 2 = i * 2 + 1 + 1 by omega]
      simp only [shs, List.set_cons_succ, ih i (by simpa using h)]
/-- the value v is seen in w as the shards l -/
def SeenH (w : World) (v : Value) (l : List Sh) : Prop :=
  ∃ A c, v = .slice A l.length c ∧ l.length ≤ c ∧ c ≤ maxLen ∧ (0 < l.length → ∃ b off, A = some ⟨b, off, none⟩ ∧ b < w.heap.size ∧ ∀ i s, l[i]? = some s → w.cell? ⟨b, off + i * 2, none⟩ = some (.int .i64 s.1) ∧ w.cell? ⟨b, off + i * 2 + 1, none⟩ = some (.string (str s.2)))
theorem at_lt {α : Type} {l : List α} {n k : Nat} (hn : l.length = n) (h : k < n) : ∃ s, l[k]? = some s := ⟨_, List.getElem?_eq_getElem (by omega)⟩
/-- a row of shards of the call's own, its block from lo to hi -/
def OwnSh (E : TypeId) (w : World) (lo hi : Nat) (v : Value) (l : List Sh) : Prop := w.ownsRow lo E 2 v l.length (shs l) ∧ hi ≤ w.heap.size ∧ ∀ g, v.ownBlock = some g → g < hi
section
variable {w w' : World} {lo hi a b : Nat} {v : Value} {l : List Sh} {E : TypeId}
theorem SeenH.below (h : SeenH w v l) (hb : Below w.heap.size w w') : SeenH w' v l := by
  obtain ⟨A, c, rfl, h1, h2, h3⟩ := h
  refine ⟨A, c, rfl, h1, h2, fun hn => ?_⟩
  obtain ⟨b, off, rfl, hb', hc⟩ := h3 hn
  exact ⟨b, off, rfl, Nat.lt_of_lt_of_le hb' hb.size, fun i s hi => ⟨(hb.cell (p := ⟨b, off + i * 2, none⟩) hb').trans (hc i s hi).1, (hb.cell (p := ⟨b, off + i * 2 + 1, none⟩) hb').trans (hc i s hi).2⟩⟩
theorem SeenH.len (h : SeenH w v l) : ∃ A c, v = .slice A l.length c := by
  obtain ⟨A, c, h, _⟩ := h
  exact ⟨A, c, h⟩
theorem SeenH.nil (w : World) : SeenH w (.slice none 0 0) [] := ⟨none, 0, rfl, Nat.le_refl _, Nat.zero_le _, fun h => by simp at h⟩
theorem owns_turn2 {size n : Nat} {xs : List Value} (h : w.ownsRow lo E size v n xs) (h2 : ∀ g, v.ownBlock = some g → g < hi) (t : TurnIn a b w w') (d : hi ≤ a ∨ b ≤ lo) : w'.ownsRow lo E size v n xs := by
  refine ⟨h.1, ?_⟩
  rcases h.2 with hn | ⟨g, cap, cur, rfl, hbg, hg, rest⟩
  · exact .inl hn
  · refine .inr ⟨g, cap, cur, rfl, hbg, ?_, rest⟩
    have := h2 g rfl
    rw [t.block g (Array.getElem?_eq_some_iff.1 hg).1 (by omega)]
    exact hg
theorem OwnSh.keep (h : OwnSh E w lo hi v l) (t : TurnIn a b w w') (d : hi ≤ a ∨ b ≤ lo) : OwnSh E w' lo hi v l :=
  ⟨owns_turn2 h.1 h.2.2 t d, Nat.le_trans h.2.1 t.size, h.2.2⟩
theorem OwnSh.seen (h : OwnSh E w lo hi v l) : SeenH w v l := by
  obtain ⟨h1, h2, h3⟩ := h
  rcases h1.2 with ⟨rfl, hn⟩ | ⟨g, cap, cur, rfl, hb, hg, hnc, hcm, hcs, ht⟩
  · have : l = [] := List.eq_nil_of_length_eq_zero hn
    subst this
    exact SeenH.nil w
  · refine ⟨_, cap, rfl, hnc, hcm, fun hn => ⟨g, 0, rfl, (Array.getElem?_eq_some_iff.1 hg).1, fun i s hs => ?_⟩⟩
    obtain ⟨hi, rfl⟩ := List.getElem?_eq_some_iff.1 hs
    have e1 := h1.cells (g := g) rfl (i * 2) _ (shs_no l i hi)
    have e2 := h1.cells (g := g) rfl (i * 2 + 1) _ (shs_data l i hi)
    rw [Addr.add_lit, Nat.zero_add] at e1 e2
    exact ⟨by rw [Nat.zero_add]; exact e1, by rw [Nat.zero_add]; exact e2⟩
theorem OwnSh.nil (E : TypeId) (w : World) (lo : Nat) : OwnSh E w lo w.heap.size (.slice none 0 0) [] := ⟨World.ownsRow_nil _ _ _ _, Nat.le_refl _, fun g h => by simp [Value.ownBlock] at h⟩
theorem OwnSh.of_made (h : w'.ownsRow w.heap.size E 2 v l.length (shs l)) : OwnSh E w' w.heap.size w'.heap.size v l := ⟨h, Nat.le_refl _, fun g hg => (h.lt g hg).2⟩
end
def RetShs (E : TypeId) (w : World) (l : List Sh) (e : Ending) (w' : World) : Prop := ∃ v, e = .returned v ∧ OwnSh E w' w.heap.size w'.heap.size v l ∧ TurnIn 0 0 w w'
def RetShsOk (E : TypeId) (w : World) (l : List Sh) (ok : Bool) (e : Ending) (w' : World) : Prop := ∃ v, e = .returned (.tuple #[v, .bool ok]) ∧ OwnSh E w' w.heap.size w'.heap.size v l ∧ TurnIn 0 0 w w'
/-- the shards that marks write -/
def marksH (k n : Nat) : List Sh := (List.range n).map fun i => (((k + i * 2 : Nat) : Int), mtext (k + i * 2 + 1))
@[simp] theorem marksH_length (k n : Nat) : (marksH k n).length = n := by simp [marksH]
theorem marksH_get (k n i : Nat) (h : i < (marksH k n).length) : (marksH k n)[i] = (((k + i * 2 : Nat) : Int), mtext (k + i * 2 + 1)) := by simp [marksH]
def RetMarkH (E : TypeId) (w : World) (lo hi : Nat) (v : Value) (k n : Nat) (e : Ending) (w' : World) : Prop :=
  e = .returned (.int .i64 ((k + n * 2 : Nat) : Int)) ∧ OwnSh E w' lo hi v (marksH k n) ∧ TurnIn lo hi w w'
end G294

/- Struct variables of a law: blocks of one cell, kept; sizes of results. -/
namespace G294
open Go Go.RowKit
theorem box_keep {w w' : World} {B a b : Nat} {x : Value} (h : w.cell? ⟨B, 0, none⟩ = some x) (hl : B < w.heap.size) (t : TurnIn a b w w') (d : B < a ∨ b ≤ B) : w'.cell? ⟨B, 0, none⟩ = some x :=
  (World.cell?_of_block (t.block B hl d)).trans h
theorem alloc_cell (w : World) (v : Value) (T : TypeId) : (w.alloc (.cells #[v] T)).cell? ⟨w.heap.size, 0, none⟩ = some v := by simp
theorem alloc_lt (w : World) (o : Obj) : w.heap.size < (w.alloc o).heap.size := by rw [World.size_alloc]; omega
theorem undrew {w w' : World} {a b : Nat} (t : TurnIn a b w.drew w') : TurnIn a b w w' := ⟨t.os, t.tape, t.output, t.size, t.block⟩
theorem transR_siz (m : Mat) : sizM (transR m) ≤ 256 := by
  unfold transR; split
  · rename_i h; have := (goodM_iff m).1 h; exact Nat.le_trans (Nat.le_trans (sizM_le_mul _ m.length (fun i hi => by rw [mkM_getD _ _ _ _ (by simpa using hi)]; simp)) (by rw [mkM_length]; exact Nat.mul_le_mul (show wid m ≤ 16 by omega) (show m.length ≤ 16 by omega))) (by omega)
  · simp [sizM]
theorem sizM_mkM (r c : Nat) (F : Ents) : sizM (mkM r c F) ≤ r * c := by
  have := sizM_le_mul (mkM r c F) c (fun i hi => by rw [mkM_getD _ _ _ _ (by simpa using hi)]; simp)
  simpa using this
theorem sizM_side {r c : Nat} (F : Ents) (hr : r ≤ 16) (hc : c ≤ 16) : sizM (mkM r c F) ≤ 256 := Nat.le_trans (sizM_mkM r c F) (Nat.mul_le_mul hr hc)
theorem idR_siz (n : Int) : sizM (idR n) ≤ 256 := by
  unfold idR; split
  · rename_i h; simp [goodI] at h; exact sizM_side _ (by omega) (by omega)
  · simp [sizM]
theorem sides_b {r c : Int} (h : sidesOk r c = true) : r.toNat ≤ 16 ∧ c.toNat ≤ 16 := by
  simp [sidesOk, goodI] at h; omega
theorem vandR_siz (r c : Int) : sizM (vandR r c) ≤ 256 := by
  unfold vandR; split
  · rename_i h; exact sizM_side _ (sides_b h).1 (sides_b h).2
  · simp [sizM]
theorem cauR_siz (r c : Int) : sizM (cauR r c) ≤ 256 := by
  unfold cauR; split
  · rename_i h; exact sizM_side _ (sides_b h).1 (sides_b h).2
  · simp [sizM]
theorem LieM.isSlice {w : World} {lo hi : Nat} {v : Value} {L : Mat} (h : LieM w lo hi v L) : ∃ A n c, v = .slice A n c := by
  obtain ⟨A, c, e, _⟩ := h.seen.len
  exact ⟨A, _, c, e⟩
end G294

/- Contracts of the laws' helpers on []Shard: equality, marks, marks held. -/
namespace Go.Proofs.YtjgmegfbfjmnfaaDoor
open Go.RowKit G294

theorem infoShard : (Tryd.prog.info? 130).map (fun i => (i.zero, i.size, i.bytes)) = some (some (.agg #[.int .i64 0, .string ⟨#[]⟩]), 2, 24) := by kernel_rfl

end Go.Proofs.YtjgmegfbfjmnfaaDoor

/- Contracts of the laws' helpers on []int: a copy, equality, marks, marks held. -/
namespace Go.Proofs.YtjgmegfbfjmnfaaDoor
open Go.RowKit G294

theorem infoInt : (Tryd.prog.info? 3).map (fun i => (i.zero, i.size, i.bytes)) = some (some (.int .i64 0), 1, 8) := by kernel_rfl

theorem eq_atI {l m : List Int} {k : Nat} (hl : k < l.length) (hm : k < m.length) (h : l[k] ≠ m[k]) : (l == m) = false := by
  rw [beq_eq_false_iff_ne]
  intro e; subst e; exact h rfl

theorem eq_allI {l m : List Int} (hl : l.length = m.length) (h : ∀ i (h1 : i < l.length) (h2 : i < m.length), l[i] = m[i]) : (l == m) = true := by
  rw [beq_iff_eq]; exact List.ext_getElem hl h

end Go.Proofs.YtjgmegfbfjmnfaaDoor

/- What someOf takes. -/
namespace G294
def risesB (is : List Nat) (n : Nat) : Prop := (∀ i ∈ is, i < n) ∧ is.Pairwise (· < ·)
/-- what someOf answers: the numbers taken so far -/
def takes (n least : Nat) (b : Nat → Bool) : Nat → List Nat
  | 0 => []
  | t + 1 => if n - t ≤ least - (takes n least b t).length ∨ b t = true then takes n least b t ++ [t] else takes n least b t
theorem takes_inv {n least : Nat} (hl : least ≤ n) (b : Nat → Bool) : ∀ t, t ≤ n → risesB (takes n least b t) t ∧ least ≤ (takes n least b t).length + (n - t) ∧ (takes n least b t).length ≤ t
  | 0, _ => ⟨⟨by simp [takes], by simp [takes]⟩, by simp [takes]; omega, by simp [takes]⟩
  | t + 1, ht => by
    obtain ⟨⟨h1, h2⟩, h3, h4⟩ := takes_inv hl b t (by omega)
    unfold takes
    split
    · refine ⟨⟨fun i hi => ?_, ?_⟩, by simp; omega, by simp; omega⟩
      · rcases List.mem_append.1 hi with h | h
        · have := h1 i h; omega
        · simp at h; omega
      · rw [List.pairwise_append]
        exact ⟨h2, by simp, fun a ha c hc => by simp at hc; have := h1 a ha; omega⟩
    · rename_i hc
      exact ⟨⟨fun i hi => by have := h1 i hi; omega, h2⟩, by omega, by omega⟩
end G294

/- Elimination's mathematics: a full rank leaves the identity, the inverse on the left, kernels; Cauchy's matrix has no kernel. -/
namespace G294
theorem g_cancel {a b : UInt8} (ha : a ≠ 0) (h : gmul a b = 0) : b = 0 := by
  have := congrArg (gmul (ginv a)) h
  rwa [← gmul_assoc, ginv_gmul ha, one_gmul, gmul_zero] at this
theorem g_ne {a b : UInt8} (ha : a ≠ 0) (hb : b ≠ 0) : gmul a b ≠ 0 := fun h => hb (g_cancel ha h)
theorem ginv_ne {a : UInt8} (ha : a ≠ 0) : ginv a ≠ 0 := fun h => by
  have := gmul_ginv ha
  rw [h, gmul_zero] at this
  exact absurd this (by decide)
theorem x_self (a : UInt8) : a ^^^ a = 0 := by simp
theorem x_eq {a b : UInt8} (h : a ^^^ b = 0) : a = b := by
  have := congrArg (· ^^^ b) h
  simpa [UInt8.xor_assoc] using this
theorem x_ne {a b : UInt8} (h : a ≠ b) : a ^^^ b ≠ 0 := fun e => h (x_eq e)
/-- full rank at column k: the first k columns are those of the identity -/
theorem est_unit {F : Ents} {r : Nat} : ∀ k, (est F r k).2 = k → ∀ j, j < k → ∀ i, i < r → (est F r k).1 i j = idF i j := by
  intro k
  induction k with
  | zero => intro _ j hj; omega
  | succ k ih =>
    intro hk j hj i hi
    have hle := est_le F r k
    rcases piv_cases (est F r k).1 r (est F r k).2 k with ⟨e, _⟩ | ⟨p, e, h1, h2, h3, _⟩
    · rw [est_none e] at hk; omega
    · rw [est_some e] at hk ⊢
      simp only at hk ⊢
      have hk' : (est F r k).2 = k := by omega
      have ih := ih hk'
      rw [hk'] at h1 ⊢
      have hkr : k < r := by omega
      unfold opF opAt clF scF swF
      simp only
      have s1 : sw k p k = p := by simp [sw]
      by_cases hjk : j = k
      · subst hjk
        by_cases hij : i = j
        · subst hij
          simp only [if_true, s1, idF, ginv_gmul h3]
        · simp only [hij, if_false, if_true, s1, idF, ginv_gmul h3, gmul_one, x_self]
      · have hj' : j < k := by omega
        have z1 : (est F r k).1 p j = 0 := by rw [ih j hj' p (by omega)]; simp [idF, show ¬ p = j by omega]
        by_cases hik : i = k
        · subst hik
          simp only [if_true, s1, z1, gmul_zero, idF, show ¬ i = j by omega, if_false]
        · simp only [hik, if_false, if_true, s1, z1, gmul_zero, UInt8.xor_zero]
          have hsw : sw k p i < r := sw_lt hkr h2 hi
          rw [ih j hj' _ hsw]
          unfold idF sw
          rw [if_neg hik]
          by_cases hip : i = p
          · subst hip; simp [show ¬ k = j by omega, show ¬ i = j by omega]
          · simp [hip]
/-- the inverse on the left -/
theorem inv_left {F : Ents} {k : Nat} (h : (est F k k).2 = k) {i j : Nat} (hi : i < k) (hj : j < k) : sumK k (fun l => gmul (bst F idF k k i l) (F l j)) = idF i j := by
  rw [← bst_lin F F k k i j hi, bst_self]
  exact est_unit k h j hj i hi
/-- an operation takes no kernel away and adds none -/
def kerAt (F : Ents) (r c : Nat) (v : Nat → UInt8) : Prop := ∀ i, i < r → sumK c (fun j => gmul (F i j) (v j)) = 0
theorem op_ker {o : Op} {F : Ents} {r c : Nat} {v : Nat → UInt8} (ha : o.a < r) (hp : o.p < r) (hs : o.s ≠ 0) (h : kerAt (opF o F) r c v) : kerAt F r c v := by
  have row : ∀ i, i < r → sumK c (fun j => gmul (F (sw o.a o.p i) j) (v j)) = 0 := by
    have ra : sumK c (fun j => gmul (F (sw o.a o.p o.a) j) (v j)) = 0 := by
      have := h o.a ha
      have e : (fun j => gmul (opF o F o.a j) (v j)) = fun j => gmul o.s (gmul (F (sw o.a o.p o.a) j) (v j)) := by
        funext j; simp [opF, clF, scF, swF, gmul_assoc]
      rw [e, sumK_mul] at this
      exact g_cancel hs this
    intro i hi
    by_cases hia : i = o.a
    · rw [hia]; exact ra
    · have := h i hi
      have e : (fun j => gmul (opF o F i j) (v j)) = fun j => gmul (F (sw o.a o.p i) j) (v j) ^^^ gmul (gmul (o.fs i) o.s) (gmul (F (sw o.a o.p o.a) j) (v j)) := by
        funext j; simp [opF, clF, scF, swF, hia, gmul_assoc, xor_gmul]
      rw [e, sumK_xor, sumK_mul, ra, gmul_zero, UInt8.xor_zero] at this
      exact this
  intro i hi
  have e : sw o.a o.p (sw o.a o.p i) = i := by
    unfold sw
    by_cases h1 : i = o.a
    · by_cases h2 : o.p = o.a <;> simp [h1, h2]
    · by_cases h2 : i = o.p
      · simp [h2]
      · simp [h1, h2]
  have := row (sw o.a o.p i) (sw_lt ha hp hi)
  rwa [e] at this
theorem est_ker {F : Ents} {r c : Nat} {v : Nat → UInt8} : ∀ k, kerAt (est F r k).1 r c v → kerAt F r c v := by
  intro k
  induction k with
  | zero => exact id
  | succ k ih =>
    intro h
    rcases piv_cases (est F r k).1 r (est F r k).2 k with ⟨e, _⟩ | ⟨p, e, h1, h2, h3, _⟩
    · rw [est_none e] at h; exact ih h
    · rw [est_some e] at h
      exact ih (op_ker (o := opAt (est F r k).1 (est F r k).2 k p) (by show (est F r k).2 < r; omega) h2 (ginv_ne h3) h)
/-- the rank falls short somewhere: the first column without a pivot -/
theorem est_short {F : Ents} {r : Nat} : ∀ k, (est F r k).2 ≠ k → ∃ c, c < k ∧ (est F r c).2 = c ∧ piv (est F r c).1 r c c = none := by
  intro k
  induction k with
  | zero => intro h; exact absurd rfl h
  | succ k ih =>
    intro h
    by_cases hk : (est F r k).2 = k
    · rcases piv_cases (est F r k).1 r (est F r k).2 k with ⟨e, _⟩ | ⟨p, e, _⟩
      · exact ⟨k, by omega, hk, by rw [hk] at e; exact e⟩
      · rw [est_some e] at h; simp only at h; omega
    · obtain ⟨c, h1, h2⟩ := ih hk
      exact ⟨c, by omega, h2⟩
theorem piv_none_at {F : Ents} {r a j : Nat} (h : piv F r a j = none) : ∀ i, a ≤ i → i < r → F i j = 0 := by
  rcases piv_cases F r a j with ⟨_, h'⟩ | ⟨p, e, _⟩
  · exact h'
  · rw [h] at e; cases e
theorem sumK_split {n c : Nat} (f : Nat → UInt8) (hc : c < n) (h : ∀ l, c < l → l < n → f l = 0) : sumK n f = sumK c f ^^^ f c := by
  induction n with
  | zero => omega
  | succ n ih =>
    show sumK n f ^^^ f n = _
    by_cases e : n = c
    · subst e; rfl
    · rw [ih (by omega) (fun l h1 h2 => h l h1 (by omega)), h n (by omega) (by omega), UInt8.xor_zero]
/-- no kernel: full rank -/
theorem rank_full {F : Ents} {r n : Nat} (hn : n ≤ r) (h : ∀ v, kerAt F r n v → ∀ j, j < n → v j = 0) : (est F r n).2 = n := by
  by_cases hk : (est F r n).2 = n
  · exact hk
  · exfalso
    obtain ⟨c, hc, hcc, hp⟩ := est_short n hk
    have hz := piv_none_at hp
    have hu := est_unit c hcc
    have hv := h (fun j => if j < c then (est F r c).1 j c else if j = c then 1 else 0) (est_ker c fun i hi => by
      rw [sumK_split _ hc (fun l h1 h2 => by simp [show ¬ l < c by omega, show ¬ l = c by omega, gmul_zero])]
      simp only [Nat.lt_irrefl, if_false, if_true, gmul_one]
      have e : sumK c (fun j => gmul ((est F r c).1 i j) (if j < c then (est F r c).1 j c else if j = c then 1 else 0)) = sumK c (fun j => gmul (idF i j) ((est F r c).1 j c)) := sumK_congr fun l hl => by
        rw [if_pos hl, hu l hl i hi]
      rw [e]
      by_cases hic : i < c
      · rw [sumK_one _ hic (fun l _ hne => by simp [idF, show ¬ i = l from fun e => hne e.symm, zero_gmul])]
        simp [idF, one_gmul]
      · rw [sumK_congr (g := fun _ => 0) (fun l hl => by simp [idF, show ¬ i = l by omega, zero_gmul]), sumK_zero, hz i (by omega) hi]
        rfl) c hc
    simp at hv
end G294
