/- Shards as arguments: the laws' copies and sizes, and the program's textsOf. -/
import Derived.Test.YtipmfebnjmobfaaDoorShardWalks
import Derived.Test.YtipmfebnjmobfaaDoorMatI
set_option linter.unusedSimpArgs false
set_option linter.unusedVariables false
namespace G294
open Go Go.RowKit
def sizH (l : List Sh) : Nat := sizM (l.map (·.2))
theorem sizH_take_succ (l : List Sh) (k : Nat) (h : k < l.length) : sizH (l.take (k + 1)) = sizH (l.take k) + l[k].2.length := by
  unfold sizH
  rw [List.map_take, List.map_take, sizM_take_succ _ k (by simpa using h)]
  simp [List.getD, h]
theorem sizH_take_le (l : List Sh) (k : Nat) : sizH (l.take k) ≤ sizH l := by
  unfold sizH
  rw [List.map_take]; exact sizM_take_le _ _
theorem toList_madeCells_shs (n : Nat) : (madeCells #[.int .i64 0, .string ⟨#[]⟩] (n * 2)).toList = shs (List.replicate n ((0 : Int), ([] : List UInt8))) := by
  apply List.ext_getElem?
  intro j
  by_cases hj : j < n * 2
  · rcases Nat.mod_two_eq_zero_or_one j with h | h
    · have e : j = (j / 2) * 2 := by omega
      rw [e, shs_no _ (j / 2) (by simp; omega)]
      simp [madeCells, show j / 2 * 2 < n * 2 by omega]
    · have e : j = (j / 2) * 2 + 1 := by omega
      have h2 : (j / 2 * 2 + 1) % 2 = 1 := by omega
      rw [e, shs_data _ (j / 2) (by simp; omega)]
      simp [madeCells, show j / 2 * 2 + 1 < n * 2 by omega, h2]
      rfl
  · rw [List.getElem?_eq_none (by simp [madeCells]; omega), List.getElem?_eq_none (by simp; omega)]
end G294
namespace Go.Proofs.YtipmfebnjmobfaaDoor
open Go.RowKit G294

set_option maxRecDepth 100000 in
set_option maxHeartbeats 1000000 in
theorem toShard_own (n : Int) (s : List UInt8) (w : World) : Calls Tryd.prog 63 #[.agg #[.int .i64 n, .string (str s)]] w fun e w' => e = .returned (.agg #[.int .i64 n, .string (str s)]) ∧ TurnIn 0 0 w w' := by
  have kk : TurnIn 0 0 w (((w.alloc (.cells #[.int .i64 n, .string (str s)] 82)).alloc (.cells #[.int .i64 n, .string (str s)] 35)).alloc (.cells #[.int .i64 n, .string (str s)] 35)) := turn_trans (turn_trans (turn_alloc _ _) (turn_alloc _ _) (by omega)) (turn_alloc _ _) (by omega)
  go_enter Tryd.func63, Tryd.ntmps63
  go_wp2_with fail
  refine bodyPost_ret (v := .agg #[.int .i64 n, .string (str s)]) (by simp [results, Tryd.results63, go_sem]) rfl ?_
  exact ⟨rfl, kk⟩

set_option maxRecDepth 100000 in
set_option maxHeartbeats 1000000 in
theorem textsOf_own (v : Value) (l : List Sh) (w : World) (hv : SeenH w v l) (hn : l.length ≤ 1048576) : Calls Tryd.prog 115 #[v] w (RetStrs 9 w (l.map (·.2))) := by
  obtain ⟨i0, hi0, hz0, hz1, hz2⟩ := info_parts infoStr
  obtain ⟨A, c, rfl, hlc, hcm, hx⟩ := hv
  unfold maxLen at hcm
  have hlm : (l.map (·.2)).length = l.length := by simp
  generalize hT : l.map (·.2) = T at *
  have HTT := Lib.hid hT
  clear hT
  generalize hnn : l.length = n at *
  have HN := Lib.hid hnn
  have HLM := Lib.hid hlm
  clear hnn hlm
  go_enter Tryd.func115, Tryd.ntmps115
  go_wp2_with (at_make; refine wpList_make_full _ rfl _ _ _ rfl w.heap.size _ i0 _ 1 Tryd.underlying24 hi0 hz0 hz1 _ _ _ _ n rfl rfl rfl rfl ?b2 ?b3 ?b4 ?_)
  case b2 => rw [hz2]; omega
  case b3 => unfold maxLen; omega
  case b4 => exact Nat.le_refl _
  intro w1 hown1 hg1
  have hb1 : Below w.heap.size w w1 := below_of_grown hg1 (Nat.le_refl _) (by simp)
  rw [toList_madeCells_one] at hown1
  have hs1 := (hown1.lt w.heap.size rfl).2
  clear hg1
  go_wp2_with fail
  go_loopw [11] (fun i wr => ∃ k : Nat, k ≤ n ∧ i = .int .i64 k ∧ wr.ownsRow w.heap.size 9 1 (.slice (some ⟨w.heap.size, 0, none⟩) n n) n ((strs T).take k ++ List.replicate (n - k) (.string ⟨#[]⟩)) ∧ Below w.heap.size w wr)
    (fun i _ => n - (intOf i).toNat)
  case atStart => exact ⟨0, Nat.zero_le _, rfl, by simpa using hown1, hb1⟩
  case round =>
    obtain ⟨k, hk, rfl, hown, hb⟩ := hrel
    clear hown1 hb1
    by_cases hlt : k < n
    · obtain ⟨b, off, rfl, hbl, hcell⟩ := hx (by omega)
      obtain ⟨⟨no, s⟩, hks⟩ := at_lt HN.out hlt
      have hc1 := (hb.cell (p := ⟨b, off + k * 2, none⟩) hbl).trans (hcell k _ hks).1
      have hc2 := (hb.cell (p := ⟨b, off + k * 2 + 1, none⟩) hbl).trans (hcell k _ hks).2
      simp only at hc1 hc2
      have hki : (k : Int) < (n : Int) := by omega
      have hTk : (strs T)[k]? = some (.string (str s)) := by
        rw [← HTT.out]; simp [strs, hks]
      have HTK := Lib.hid hTk
      have hwr := (hown.lt w.heap.size rfl).2
      have hown2 := hown.alloc (.cells #[.int .i64 no, .string (str s)] 35)
      have hco : (wr.alloc (.cells #[.int .i64 no, .string (str s)] 35)).cell? ⟨w.heap.size, k, none⟩ = some (.string ⟨#[]⟩) := by
        have ht : ((strs T).take k).length = k := by simp [HLM.out]; omega
        rw [hown2.cellAt k (by omega), List.getElem?_append_right (by omega), ht, Nat.sub_self, List.getElem?_replicate, if_pos (by omega)]
      have hfr := hown2.frozenAt k
      have hst := hown.stored k (.string (str s))
      rw [take_set_next (strs T) _ k _ hTk (by simp [HLM.out]; omega)] at hst
      have hst1 := hst.1.alloc (.cells #[.int .i64 no, .string (str s)] 35)
      have hb2 := (hb.setCell (p := ⟨w.heap.size, k, none⟩) (Nat.le_refl _) (.string (str s))).alloc (by have := hb.size; simp; omega) (.cells #[.int .i64 no, .string (str s)] 35)
      clear hcell hx hown2 hTk
      go_wp2_with fail
      go_roundw
      case rel => exact ⟨k + 1, by omega, by go_num, by simpa [Nat.sub_sub] using hst1, hb2⟩
      case measure => simp [intOf]; omega
    · obtain rfl : k = n := by omega
      have hki : ¬ (k : Int) < (k : Int) := by omega
      go_wp2_with fail
      go_ret
      refine ⟨_, rfl, OwnStrs.of_made ?_, TurnIn.of_below hb⟩
      rw [List.take_of_length_le (by simp [HLM.out]), Nat.sub_self] at hown
      rw [HLM.out]
      simpa using hown

set_option maxRecDepth 100000 in
set_option maxHeartbeats 2000000 in
theorem toShardS_own (v : Value) (l : List Sh) (w : World) (hv : SeenH w v l) (hn : l.length ≤ 1048576) : Calls Tryd.prog 14 #[v] w (RetShs 35 w l) := by
  obtain ⟨i0, hi0, hz0, hz1, hz2⟩ := info_parts infoShard
  obtain ⟨A, c, rfl, hlc, hcm, hx⟩ := hv
  unfold maxLen at hcm
  generalize hnn : l.length = n at *
  have HN := Lib.hid hnn
  clear hnn
  go_enter Tryd.func14, Tryd.ntmps14
  go_wp2_with (at_make; refine wpList_make_full _ rfl _ _ _ rfl w.heap.size _ i0 _ 2 Tryd.underlying27 hi0 hz0 hz1 _ _ _ _ n rfl rfl rfl rfl ?b2 ?b3 ?b4 ?_)
  case b2 => rw [hz2]; omega
  case b3 => unfold maxLen; omega
  case b4 => exact Nat.le_refl _
  intro w1 hown1 hg1
  have hb1 : Below w.heap.size w w1 := below_of_grown hg1 (Nat.le_refl _) (by simp)
  rw [toList_madeCells_shs] at hown1
  clear hg1
  go_wp2_with fail
  go_loopw [4] (fun i wr => ∃ k : Nat, k ≤ n ∧ i = .int .i64 k ∧ wr.ownsRow w.heap.size 35 2 (.slice (some ⟨w.heap.size, 0, none⟩) n n) n (shs (l.take k ++ List.replicate (n - k) ((0 : Int), ([] : List UInt8)))) ∧ Below w.heap.size w wr)
    (fun i _ => n - (intOf i).toNat)
  case atStart => exact ⟨0, Nat.zero_le _, rfl, by simpa using hown1, hb1⟩
  case round =>
    obtain ⟨k, hk, rfl, hown, hb⟩ := hrel
    clear hown1 hb1
    by_cases hlt : k < n
    · obtain ⟨b, off, rfl, hbl, hcell⟩ := hx (by omega)
      obtain ⟨⟨no, s⟩, hks⟩ := at_lt HN.out hlt
      have hc1 := (hb.cell (p := ⟨b, off + k * 2, none⟩) hbl).trans (hcell k _ hks).1
      have hc2 := (hb.cell (p := ⟨b, off + k * 2 + 1, none⟩) hbl).trans (hcell k _ hks).2
      simp only at hc1 hc2
      have hki : (k : Int) < (n : Int) := by omega
      have hbs := hb.size
      have HKS := Lib.hid hks
      clear hcell hx hks
      go_wp2_with fail
      refine (toShard_own no s _).mono ?_
      rintro e w' ⟨rfl, ht⟩
      have hown' := owns_turn0 hown ht
      have hsz := ht.size
      have hlen : (l.take k ++ List.replicate (n - k) ((0 : Int), ([] : List UInt8))).length = n := by simp [HN.out]; omega
      have hkl : k < (l.take k ++ List.replicate (n - k) ((0 : Int), ([] : List UInt8))).length := by omega
      have hd1 : w'.cell? ⟨w.heap.size, k * 2, none⟩ = some (.int .i64 (l.take k ++ List.replicate (n - k) ((0 : Int), ([] : List UInt8)))[k].1) := by rw [hown'.cellAt (k * 2) (by omega), shs_no _ k hkl]
      have hd2 : w'.cell? ⟨w.heap.size, k * 2 + 1, none⟩ = some (.string (str (l.take k ++ List.replicate (n - k) ((0 : Int), ([] : List UInt8)))[k].2)) := by rw [hown'.cellAt (k * 2 + 1) (by omega), shs_data _ k hkl]
      have hf1 := hown'.frozenAt (k * 2)
      have hf2 := hown'.frozenAt (k * 2 + 1)
      have hst := hown'.stored (k * 2) (.int .i64 no)
      have hst2 := hst.1.stored (k * 2 + 1) (.string (str s))
      rw [shs_set _ k (no, s) hkl, take_set_next l _ k (no, s) HKS.out (by simp [HN.out]; omega)] at hst2
      have hb2 := ((ht.base hb (by omega) (by omega)).setCell (p := ⟨w.heap.size, k * 2, none⟩) (Nat.le_refl _) (.int .i64 no)).setCell (p := ⟨w.heap.size, k * 2 + 1, none⟩) (Nat.le_refl _) (.string (str s))
      generalize (l.take k ++ List.replicate (n - k) ((0 : Int), ([] : List UInt8)))[k] = old at hd1 hd2
      clear hown' hlen hkl hst hown
      go_wp2_with fail
      go_roundw
      case rel => exact ⟨k + 1, by omega, by go_num, by simpa [Nat.sub_sub] using hst2.1, hb2⟩
      case measure => simp [intOf]; omega
    · obtain rfl : k = n := by omega
      have hki : ¬ (k : Int) < (k : Int) := by omega
      go_wp2_with fail
      go_ret
      refine ⟨_, rfl, OwnSh.of_made ?_, TurnIn.of_below hb⟩
      rw [List.take_of_length_le (by rw [HN.out]; exact Nat.le_refl _), Nat.sub_self] at hown
      rw [HN.out]
      simpa using hown

set_option maxRecDepth 100000 in
set_option maxHeartbeats 1000000 in
theorem szShard_any (n : Int) (s : List UInt8) (left : Nat) (w : World) (hl : left ≤ 1048576) (hm : s.length ≤ maxLen) : Calls Tryd.prog 59 #[.agg #[.int .i64 n, .string (str s)], .int .i64 left] w (RetInt w (szV left s.length)) := by
  have kk : TurnIn 0 0 w (w.alloc (.cells #[.int .i64 n, .string (str s)] 82)) := turn_alloc _ _
  have hsz := str_size s
  generalize s.length = z at *
  unfold maxLen at hm
  by_cases h : z ≤ left
  · have HF := Lib.hid (szV_yes h)
    have hneg : ¬ ((left : Int) - (z : Int)) < 0 := by omega
    go_enter Tryd.func59, Tryd.ntmps59
    go_wp2_with fail
    go_ret
    exact ⟨by rw [HF.out]; exact congrArg (fun z => Ending.returned (.int .i64 z)) (by omega), kk⟩
  · have HF := Lib.hid (szV_no (show left < z by omega))
    have hneg : ((left : Int) - (z : Int)) < 0 := by omega
    go_enter Tryd.func59, Tryd.ntmps59
    go_wp2_with fail
    go_ret
    exact ⟨by rw [HF.out]; rfl, kk⟩

set_option maxRecDepth 100000 in
set_option maxHeartbeats 2000000 in
theorem szShardS_any (v : Value) (L : List Sh) (left : Nat) (w : World) (hv : SeenH w v L) (hmx : ∀ s ∈ L, s.2.length ≤ maxLen) (hl : left ≤ 1048576) :
    Calls Tryd.prog 12 #[v, .int .i64 left] w (RetInt w (szV left (L.length + sizH L))) := by
  obtain ⟨A, c, rfl, hlc, hcm, hx⟩ := hv
  unfold maxLen at hcm
  generalize hnn : L.length = n at *
  have HN := Lib.hid hnn
  clear hnn
  by_cases h0 : n ≤ left
  · go_enter Tryd.func12, Tryd.ntmps12
    go_wp2_with fail
    go_loopw [1, 5] (fun q i wr => ∃ k m : Nat, k ≤ n ∧ i = .int .i64 k ∧ q = .int .i64 m ∧ m ≤ left ∧ Hid (m + sizH (L.take k) + n = left) ∧ Below w.heap.size w wr) (fun _ i _ => n - (intOf i).toNat)
    case atStart => exact ⟨0, left - n, Nat.zero_le _, rfl, by go_num, by omega, by show left - n + sizH (L.take 0) + n = left; simp [sizH, sizM]; omega, Below.refl _ _⟩
    case round =>
      obtain ⟨k, m, hk, rfl, rfl, hmd, HM, hb⟩ := hrel
      by_cases hlt : k < n
      · have hki : (k : Int) < (n : Int) := by omega
        obtain ⟨b, off, rfl, hbl, hcell⟩ := hx (by omega)
        obtain ⟨⟨no, s⟩, hks⟩ := at_lt HN.out hlt
        obtain ⟨hkl, hke⟩ := List.getElem?_eq_some_iff.1 hks
        have hc1 := (hb.cell (p := ⟨b, off + k * 2, none⟩) hbl).trans (hcell k _ hks).1
        have hc2 := (hb.cell (p := ⟨b, off + k * 2 + 1, none⟩) hbl).trans (hcell k _ hks).2
        simp only at hc1 hc2
        have hmk : s.length ≤ maxLen := by have := hmx L[k] (List.getElem_mem hkl); rw [hke] at this; exact this
        have HT := Lib.hid (sizH_take_succ L k hkl)
        rw [hke] at HT
        have HTL := Lib.hid (sizH_take_le L (k + 1))
        have HMK := Lib.hid hmk
        have hbs := hb.size
        clear hcell hx hks hke hkl hmk
        go_wp2_with fail
        refine (szShard_any no s m _ (by omega) HMK.out).mono ?_
        rintro e w' ⟨rfl, ht⟩
        have hb2 := ht.base hb (by omega) (by omega)
        by_cases hle : s.length ≤ m
        · have HM2 : Hid (m - s.length + sizH (L.take (k + 1)) + n = left) := by
            show _ = left
            have h7 : sizH (L.take (k + 1)) = sizH (L.take k) + s.length := HT.out; have := HM.out; omega
          rw [szV_yes hle]
          generalize s.length = z at *
          have hneg : ¬ ((m - z : Nat) : Int) < 0 := by omega
          go_wp2_with fail
          go_roundw
          case rel => exact ⟨k + 1, m - z, by omega, by go_num, rfl, by omega, HM2, hb2⟩
          case measure => simp [intOf]; omega
        · have HF : Hid (szV left (n + sizH L) = -1) := by
            show _ = _
            apply szV_no
            have h7 : sizH (L.take (k + 1)) = sizH (L.take k) + s.length := HT.out; have := HTL.out; have := HM.out; omega
          rw [szV_no (show m < s.length by omega)]
          go_wp2_with fail
          go_ret
          exact ⟨by rw [HF.out]; rfl, TurnIn.of_below hb2⟩
      · obtain rfl : k = n := by omega
        have hki : ¬ (k : Int) < (k : Int) := by omega
        have HF : Hid (szV left (k + sizH L) = (m : Int)) := by
          have e := HM.out
          rw [List.take_of_length_le (by rw [HN.out]; exact Nat.le_refl _)] at e
          show _ = _
          rw [szV_yes (by omega)]; omega
        go_wp2_with fail
        go_ret
        exact ⟨by rw [HF.out]; rfl, TurnIn.of_below hb⟩
  · have HF : Hid (szV left (n + sizH L) = -1) := by show _ = _; exact szV_no (by omega)
    go_enter Tryd.func12, Tryd.ntmps12
    go_wp2_with fail
    go_ret
    exact ⟨by rw [HF.out]; rfl, TurnIn.refl w⟩

theorem szShardS_yes (v : Value) (L : List Sh) (left : Nat) (w : World) (hv : SeenH w v L) (hmx : ∀ s ∈ L, s.2.length ≤ maxLen) (h : L.length + sizH L ≤ left) (hl : left ≤ 1048576) :
    Calls Tryd.prog 12 #[v, .int .i64 left] w (RetInt w ((left - (L.length + sizH L) : Nat) : Int)) :=
  (szShardS_any v L left w hv hmx hl).mono fun e w' he => ⟨by rw [he.1, szV_yes h], he.2⟩

theorem szShardS_no (v : Value) (L : List Sh) (left : Nat) (w : World) (hv : SeenH w v L) (hmx : ∀ s ∈ L, s.2.length ≤ maxLen) (h : left < L.length + sizH L) (hl : left ≤ 1048576) :
    Calls Tryd.prog 12 #[v, .int .i64 left] w (RetInt w (-1)) :=
  (szShardS_any v L left w hv hmx hl).mono fun e w' he => ⟨by rw [he.1, szV_no h], he.2⟩

end Go.Proofs.YtipmfebnjmobfaaDoor
