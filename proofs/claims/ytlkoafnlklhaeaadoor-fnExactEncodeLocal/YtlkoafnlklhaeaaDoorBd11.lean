/- Joined texts: ShardArgs, Numbers, PartMath, Fill2, SpecPart, PartWalks, SplitMath. -/
import Derived.Test.YtlkoafnlklhaeaaDoorBd10
import Derived.Test.YtlkoafnlklhaeaaDoorBd03
import Derived.Test.YtlkoafnlklhaeaaDoorBd04
import Derived.Test.YtlkoafnlklhaeaaDoorBd02
import Derived.Test.YtlkoafnlklhaeaaDoorBd01
set_option linter.unusedSimpArgs false
set_option linter.unusedVariables false
/- Shards as arguments: the laws' copies and sizes, and the program's textsOf. -/
namespace G294
open Go Go.RowKit
def sizH (l : List Sh) : Nat := sizM (l.map (·.2))
theorem sizH_take_succ (l : List Sh) (k : Nat) (h : k < l.length) : sizH (l.take (k + 1)) = sizH (l.take k) + l[k].2.length := by
  unfold sizH
  rw [List.map_take, List.map_take, sizM_take_succ _ k (by simpa using h)]
  simp [List.getD, h]
theorem sizH_take_le (l : List Sh) (k : Nat) : sizH (l.take k) ≤ sizH l := by
  unfold sizH
  rw [List.map_take]; exact sizM_take_le _ _
theorem toList_madeCells_shs (n : Nat) : (madeCells #[.int .i64 0, .string ⟨#[]⟩] (n * 2)).toList = shs (List.replicate n ((0 : Int), ([] : List UInt8))) := by
  apply List.ext_getElem?
  intro j
  by_cases hj : j < n * 2
  · rcases Nat.mod_two_eq_zero_or_one j with h | h
    · have e : j = (j / 2) * 2 := by omega
      rw [e, shs_no _ (j / 2) (by simp; omega)]
      simp [madeCells, show j / 2 * 2 < n * 2 by omega]
    · have e : j = (j / 2) * 2 + 1 := by omega
      have h2 : (j / 2 * 2 + 1) % 2 = 1 := by omega
      rw [e, shs_data _ (j / 2) (by simp; omega)]
      simp [madeCells, show j / 2 * 2 + 1 < n * 2 by omega, h2]
      rfl
  · rw [List.getElem?_eq_none (by simp [madeCells]; omega), List.getElem?_eq_none (by simp; omega)]
end G294
namespace Go.Proofs.YtlkoafnlklhaeaaDoor
open Go.RowKit G294

set_option maxRecDepth 100000 in
set_option maxHeartbeats 1000000 in
theorem toShard_own (n : Int) (s : List UInt8) (w : World) : Calls Tryd.prog 124 #[.agg #[.int .i64 n, .string (str s)]] w fun e w' => e = .returned (.agg #[.int .i64 n, .string (str s)]) ∧ TurnIn 0 0 w w' := by
  have kk : TurnIn 0 0 w (((w.alloc (.cells #[.int .i64 n, .string (str s)] 156)).alloc (.cells #[.int .i64 n, .string (str s)] 91)).alloc (.cells #[.int .i64 n, .string (str s)] 91)) := turn_trans (turn_trans (turn_alloc _ _) (turn_alloc _ _) (by omega)) (turn_alloc _ _) (by omega)
  go_enter Tryd.func124, Tryd.ntmps124
  go_wp2_with fail
  refine bodyPost_ret (v := .agg #[.int .i64 n, .string (str s)]) (by simp [results, Tryd.results124, go_sem]) rfl ?_
  exact ⟨rfl, kk⟩

set_option maxRecDepth 100000 in
set_option maxHeartbeats 1000000 in
theorem textsOf_own (v : Value) (l : List Sh) (w : World) (hv : SeenH w v l) (hn : l.length ≤ 1048576) : Calls Tryd.prog 173 #[v] w (RetStrs 9 w (l.map (·.2))) := by
  obtain ⟨i0, hi0, hz0, hz1, hz2⟩ := info_parts infoStr
  obtain ⟨A, c, rfl, hlc, hcm, hx⟩ := hv
  unfold maxLen at hcm
  have hlm : (l.map (·.2)).length = l.length := by simp
  generalize hT : l.map (·.2) = T at *
  have HTT := Lib.hid hT
  clear hT
  generalize hnn : l.length = n at *
  have HN := Lib.hid hnn
  have HLM := Lib.hid hlm
  clear hnn hlm
  go_enter Tryd.func173, Tryd.ntmps173
  go_wp2_with (at_make; refine wpList_make_full _ rfl _ _ _ rfl w.heap.size _ i0 _ 1 Tryd.underlying78 hi0 hz0 hz1 _ _ _ _ n rfl rfl rfl rfl ?b2 ?b3 ?b4 ?_)
  case b2 => rw [hz2]; omega
  case b3 => unfold maxLen; omega
  case b4 => exact Nat.le_refl _
  intro w1 hown1 hg1
  have hb1 : Below w.heap.size w w1 := below_of_grown hg1 (Nat.le_refl _) (by simp)
  rw [toList_madeCells_one] at hown1
  have hs1 := (hown1.lt w.heap.size rfl).2
  clear hg1
  go_wp2_with fail
  go_loopw [11] (fun i wr => ∃ k : Nat, k ≤ n ∧ i = .int .i64 k ∧ wr.ownsRow w.heap.size 9 1 (.slice (some ⟨w.heap.size, 0, none⟩) n n) n ((strs T).take k ++ List.replicate (n - k) (.string ⟨#[]⟩)) ∧ Below w.heap.size w wr)
    (fun i _ => n - (intOf i).toNat)
  case atStart => exact ⟨0, Nat.zero_le _, rfl, by simpa using hown1, hb1⟩
  case round =>
    obtain ⟨k, hk, rfl, hown, hb⟩ := hrel
    clear hown1 hb1
    by_cases hlt : k < n
    · obtain ⟨b, off, rfl, hbl, hcell⟩ := hx (by omega)
      obtain ⟨⟨no, s⟩, hks⟩ := at_lt HN.out hlt
      have hc1 := (hb.cell (p := ⟨b, off + k * 2, none⟩) hbl).trans (hcell k _ hks).1
      have hc2 := (hb.cell (p := ⟨b, off + k * 2 + 1, none⟩) hbl).trans (hcell k _ hks).2
      simp only at hc1 hc2
      have hki : (k : Int) < (n : Int) := by omega
      have hTk : (strs T)[k]? = some (.string (str s)) := by
        rw [← HTT.out]; simp [strs, hks]
      have HTK := Lib.hid hTk
      have hwr := (hown.lt w.heap.size rfl).2
      have hown2 := hown.alloc (.cells #[.int .i64 no, .string (str s)] 91)
      have hco : (wr.alloc (.cells #[.int .i64 no, .string (str s)] 91)).cell? ⟨w.heap.size, k, none⟩ = some (.string ⟨#[]⟩) := by
        have ht : ((strs T).take k).length = k := by simp [HLM.out]; omega
        rw [hown2.cellAt k (by omega), List.getElem?_append_right (by omega), ht, Nat.sub_self, List.getElem?_replicate, if_pos (by omega)]
      have hfr := hown2.frozenAt k
      have hst := hown.stored k (.string (str s))
      rw [take_set_next (strs T) _ k _ hTk (by simp [HLM.out]; omega)] at hst
      have hst1 := hst.1.alloc (.cells #[.int .i64 no, .string (str s)] 91)
      have hb2 := (hb.setCell (p := ⟨w.heap.size, k, none⟩) (Nat.le_refl _) (.string (str s))).alloc (by have := hb.size; simp; omega) (.cells #[.int .i64 no, .string (str s)] 91)
      clear hcell hx hown2 hTk
      go_wp2_with fail
      go_roundw
      case rel => exact ⟨k + 1, by omega, by go_num, by simpa [Nat.sub_sub] using hst1, hb2⟩
      case measure => simp [intOf]; omega
    · obtain rfl : k = n := by omega
      have hki : ¬ (k : Int) < (k : Int) := by omega
      go_wp2_with fail
      go_ret
      refine ⟨_, rfl, OwnStrs.of_made ?_, TurnIn.of_below hb⟩
      rw [List.take_of_length_le (by simp [HLM.out]), Nat.sub_self] at hown
      rw [HLM.out]
      simpa using hown

set_option maxRecDepth 100000 in
set_option maxHeartbeats 2000000 in
theorem toShardS_own (v : Value) (l : List Sh) (w : World) (hv : SeenH w v l) (hn : l.length ≤ 1048576) : Calls Tryd.prog 59 #[v] w (RetShs 91 w l) := by
  obtain ⟨i0, hi0, hz0, hz1, hz2⟩ := info_parts infoShard
  obtain ⟨A, c, rfl, hlc, hcm, hx⟩ := hv
  unfold maxLen at hcm
  generalize hnn : l.length = n at *
  have HN := Lib.hid hnn
  clear hnn
  go_enter Tryd.func59, Tryd.ntmps59
  go_wp2_with (at_make; refine wpList_make_full _ rfl _ _ _ rfl w.heap.size _ i0 _ 2 Tryd.underlying80 hi0 hz0 hz1 _ _ _ _ n rfl rfl rfl rfl ?b2 ?b3 ?b4 ?_)
  case b2 => rw [hz2]; omega
  case b3 => unfold maxLen; omega
  case b4 => exact Nat.le_refl _
  intro w1 hown1 hg1
  have hb1 : Below w.heap.size w w1 := below_of_grown hg1 (Nat.le_refl _) (by simp)
  rw [toList_madeCells_shs] at hown1
  clear hg1
  go_wp2_with fail
  go_loopw [4] (fun i wr => ∃ k : Nat, k ≤ n ∧ i = .int .i64 k ∧ wr.ownsRow w.heap.size 91 2 (.slice (some ⟨w.heap.size, 0, none⟩) n n) n (shs (l.take k ++ List.replicate (n - k) ((0 : Int), ([] : List UInt8)))) ∧ Below w.heap.size w wr)
    (fun i _ => n - (intOf i).toNat)
  case atStart => exact ⟨0, Nat.zero_le _, rfl, by simpa using hown1, hb1⟩
  case round =>
    obtain ⟨k, hk, rfl, hown, hb⟩ := hrel
    clear hown1 hb1
    by_cases hlt : k < n
    · obtain ⟨b, off, rfl, hbl, hcell⟩ := hx (by omega)
      obtain ⟨⟨no, s⟩, hks⟩ := at_lt HN.out hlt
      have hc1 := (hb.cell (p := ⟨b, off + k * 2, none⟩) hbl).trans (hcell k _ hks).1
      have hc2 := (hb.cell (p := ⟨b, off + k * 2 + 1, none⟩) hbl).trans (hcell k _ hks).2
      simp only at hc1 hc2
      have hki : (k : Int) < (n : Int) := by omega
      have hbs := hb.size
      have HKS := Lib.hid hks
      clear hcell hx hks
      go_wp2_with fail
      refine (toShard_own no s _).mono ?_
      rintro e w' ⟨rfl, ht⟩
      have hown' := owns_turn0 hown ht
      have hsz := ht.size
      have hlen : (l.take k ++ List.replicate (n - k) ((0 : Int), ([] : List UInt8))).length = n := by simp [HN.out]; omega
      have hkl : k < (l.take k ++ List.replicate (n - k) ((0 : Int), ([] : List UInt8))).length := by omega
      have hd1 : w'.cell? ⟨w.heap.size, k * 2, none⟩ = some (.int .i64 (l.take k ++ List.replicate (n - k) ((0 : Int), ([] : List UInt8)))[k].1) := by rw [hown'.cellAt (k * 2) (by omega), shs_no _ k hkl]
      have hd2 : w'.cell? ⟨w.heap.size, k * 2 + 1, none⟩ = some (.string (str (l.take k ++ List.replicate (n - k) ((0 : Int), ([] : List UInt8)))[k].2)) := by rw [hown'.cellAt (k * 2 + 1) (by omega), shs_data _ k hkl]
      have hf1 := hown'.frozenAt (k * 2)
      have hf2 := hown'.frozenAt (k * 2 + 1)
      have hst := hown'.stored (k * 2) (.int .i64 no)
      have hst2 := hst.1.stored (k * 2 + 1) (.string (str s))
      rw [shs_set _ k (no, s) hkl, take_set_next l _ k (no, s) HKS.out (by simp [HN.out]; omega)] at hst2
      have hb2 := ((ht.base hb (by omega) (by omega)).setCell (p := ⟨w.heap.size, k * 2, none⟩) (Nat.le_refl _) (.int .i64 no)).setCell (p := ⟨w.heap.size, k * 2 + 1, none⟩) (Nat.le_refl _) (.string (str s))
      generalize (l.take k ++ List.replicate (n - k) ((0 : Int), ([] : List UInt8)))[k] = old at hd1 hd2
      clear hown' hlen hkl hst hown
      go_wp2_with fail
      go_roundw
      case rel => exact ⟨k + 1, by omega, by go_num, by simpa [Nat.sub_sub] using hst2.1, hb2⟩
      case measure => simp [intOf]; omega
    · obtain rfl : k = n := by omega
      have hki : ¬ (k : Int) < (k : Int) := by omega
      go_wp2_with fail
      go_ret
      refine ⟨_, rfl, OwnSh.of_made ?_, TurnIn.of_below hb⟩
      rw [List.take_of_length_le (by rw [HN.out]; exact Nat.le_refl _), Nat.sub_self] at hown
      rw [HN.out]
      simpa using hown

set_option maxRecDepth 100000 in
set_option maxHeartbeats 1000000 in
theorem szShard_any (n : Int) (s : List UInt8) (left : Nat) (w : World) (hl : left ≤ 1048576) (hm : s.length ≤ maxLen) : Calls Tryd.prog 120 #[.agg #[.int .i64 n, .string (str s)], .int .i64 left] w (RetInt w (szV left s.length)) := by
  have kk : TurnIn 0 0 w (w.alloc (.cells #[.int .i64 n, .string (str s)] 156)) := turn_alloc _ _
  have hsz := str_size s
  generalize s.length = z at *
  unfold maxLen at hm
  by_cases h : z ≤ left
  · have HF := Lib.hid (szV_yes h)
    have hneg : ¬ ((left : Int) - (z : Int)) < 0 := by omega
    go_enter Tryd.func120, Tryd.ntmps120
    go_wp2_with fail
    go_ret
    exact ⟨by rw [HF.out]; exact congrArg (fun z => Ending.returned (.int .i64 z)) (by omega), kk⟩
  · have HF := Lib.hid (szV_no (show left < z by omega))
    have hneg : ((left : Int) - (z : Int)) < 0 := by omega
    go_enter Tryd.func120, Tryd.ntmps120
    go_wp2_with fail
    go_ret
    exact ⟨by rw [HF.out]; rfl, kk⟩

set_option maxRecDepth 100000 in
set_option maxHeartbeats 2000000 in
theorem szShardS_any (v : Value) (L : List Sh) (left : Nat) (w : World) (hv : SeenH w v L) (hmx : ∀ s ∈ L, s.2.length ≤ maxLen) (hl : left ≤ 1048576) :
    Calls Tryd.prog 57 #[v, .int .i64 left] w (RetInt w (szV left (L.length + sizH L))) := by
  obtain ⟨A, c, rfl, hlc, hcm, hx⟩ := hv
  unfold maxLen at hcm
  generalize hnn : L.length = n at *
  have HN := Lib.hid hnn
  clear hnn
  by_cases h0 : n ≤ left
  · go_enter Tryd.func57, Tryd.ntmps57
    go_wp2_with fail
    go_loopw [1, 5] (fun q i wr => ∃ k m : Nat, k ≤ n ∧ i = .int .i64 k ∧ q = .int .i64 m ∧ m ≤ left ∧ Hid (m + sizH (L.take k) + n = left) ∧ Below w.heap.size w wr) (fun _ i _ => n - (intOf i).toNat)
    case atStart => exact ⟨0, left - n, Nat.zero_le _, rfl, by go_num, by omega, by show left - n + sizH (L.take 0) + n = left; simp [sizH, sizM]; omega, Below.refl _ _⟩
    case round =>
      obtain ⟨k, m, hk, rfl, rfl, hmd, HM, hb⟩ := hrel
      by_cases hlt : k < n
      · have hki : (k : Int) < (n : Int) := by omega
        obtain ⟨b, off, rfl, hbl, hcell⟩ := hx (by omega)
        obtain ⟨⟨no, s⟩, hks⟩ := at_lt HN.out hlt
        obtain ⟨hkl, hke⟩ := List.getElem?_eq_some_iff.1 hks
        have hc1 := (hb.cell (p := ⟨b, off + k * 2, none⟩) hbl).trans (hcell k _ hks).1
        have hc2 := (hb.cell (p := ⟨b, off + k * 2 + 1, none⟩) hbl).trans (hcell k _ hks).2
        simp only at hc1 hc2
        have hmk : s.length ≤ maxLen := by have := hmx L[k] (List.getElem_mem hkl); rw [hke] at this; exact this
        have HT := Lib.hid (sizH_take_succ L k hkl)
        rw [hke] at HT
        have HTL := Lib.hid (sizH_take_le L (k + 1))
        have HMK := Lib.hid hmk
        have hbs := hb.size
        clear hcell hx hks hke hkl hmk
        go_wp2_with fail
        refine (szShard_any no s m _ (by omega) HMK.out).mono ?_
        rintro e w' ⟨rfl, ht⟩
        have hb2 := ht.base hb (by omega) (by omega)
        by_cases hle : s.length ≤ m
        · have HM2 : Hid (m - s.length + sizH (L.take (k + 1)) + n = left) := by
            show _ = left
            have h7 : sizH (L.take (k + 1)) = sizH (L.take k) + s.length := HT.out; have := HM.out; omega
          rw [szV_yes hle]
          generalize s.length = z at *
          have hneg : ¬ ((m - z : Nat) : Int) < 0 := by omega
          go_wp2_with fail
          go_roundw
          case rel => exact ⟨k + 1, m - z, by omega, by go_num, rfl, by omega, HM2, hb2⟩
          case measure => simp [intOf]; omega
        · have HF : Hid (szV left (n + sizH L) = -1) := by
            show _ = _
            apply szV_no
            have h7 : sizH (L.take (k + 1)) = sizH (L.take k) + s.length := HT.out; have := HTL.out; have := HM.out; omega
          rw [szV_no (show m < s.length by omega)]
          go_wp2_with fail
          go_ret
          exact ⟨by rw [HF.out]; rfl, TurnIn.of_below hb2⟩
      · obtain rfl : k = n := by omega
        have hki : ¬ (k : Int) < (k : Int) := by omega
        have HF : Hid (szV left (k + sizH L) = (m : Int)) := by
          have e := HM.out
          rw [List.take_of_length_le (by rw [HN.out]; exact Nat.le_refl _)] at e
          show _ = _
          rw [szV_yes (by omega)]; omega
        go_wp2_with fail
        go_ret
        exact ⟨by rw [HF.out]; rfl, TurnIn.of_below hb⟩
  · have HF : Hid (szV left (n + sizH L) = -1) := by show _ = _; exact szV_no (by omega)
    go_enter Tryd.func57, Tryd.ntmps57
    go_wp2_with fail
    go_ret
    exact ⟨by rw [HF.out]; rfl, TurnIn.refl w⟩

theorem szShardS_yes (v : Value) (L : List Sh) (left : Nat) (w : World) (hv : SeenH w v L) (hmx : ∀ s ∈ L, s.2.length ≤ maxLen) (h : L.length + sizH L ≤ left) (hl : left ≤ 1048576) :
    Calls Tryd.prog 57 #[v, .int .i64 left] w (RetInt w ((left - (L.length + sizH L) : Nat) : Int)) :=
  (szShardS_any v L left w hv hmx hl).mono fun e w' he => ⟨by rw [he.1, szV_yes h], he.2⟩

theorem szShardS_no (v : Value) (L : List Sh) (left : Nat) (w : World) (hv : SeenH w v L) (hmx : ∀ s ∈ L, s.2.length ≤ maxLen) (h : left < L.length + sizH L) (hl : left ≤ 1048576) :
    Calls Tryd.prog 57 #[v, .int .i64 left] w (RetInt w (-1)) :=
  (szShardS_any v L left w hv hmx hl).mono fun e w' he => ⟨by rw [he.1, szV_no h], he.2⟩

end Go.Proofs.YtlkoafnlklhaeaaDoor

/- numbersOf and rowsAt, the program's. -/
namespace G294
open Go Go.RowKit
/-- the rows that numbers name -/
def pickM (L : Mat) (nos : List Int) : Mat := nos.map fun n => L.getD n.toNat []
/-- those rows as values -/
def pickV (vs : List Value) (nos : List Int) : List Value := nos.map fun n => vs.getD n.toNat undef
@[simp] theorem pickM_length (L : Mat) (nos : List Int) : (pickM L nos).length = nos.length := by simp [pickM]
@[simp] theorem pickV_length (vs : List Value) (nos : List Int) : (pickV vs nos).length = nos.length := by simp [pickV]
theorem pickM_mk {r c : Nat} {F : Ents} {nos : List Int} (h : ∀ i, i < nos.length → 0 ≤ nos.getD i 0 ∧ nos.getD i 0 < (r : Int)) : pickM (mkM r c F) nos = mkM nos.length c (fun i j => F (nos.getD i 0).toNat j) := by
  apply List.ext_getElem
  · simp
  · intro i h1 h2
    have hi : i < nos.length := by simpa using h1
    have hh := h i hi
    have e : nos.getD i 0 = nos[i] := by simp [List.getD, hi]
    rw [e] at hh
    have e2 : (mkM r c F).getD nos[i].toNat [] = mkRow c (F nos[i].toNat) := mkM_getD _ _ _ _ (by omega)
    simp only [pickM, List.getElem_map, e2]
    have e3 : nos[i]?.getD 0 = nos[i] := by simpa [List.getD] using e
    simp [mkM, e3]
theorem pick_seen {w w' : World} {u : Value} {L : Mat} {vs : List Value} {nos : List Int} (hl : vs.length = L.length) (hs : ∀ (i : Nat) (u : Value), vs[i]? = some u → Seen w u (bys (L.getD i [])))
    (hno : ∀ i, i < nos.length → 0 ≤ nos.getD i 0 ∧ nos.getD i 0 < (L.length : Int)) (hb : Below w.heap.size w w') (hu : Seen w' u (pickV vs nos)) : SeenM w' u (pickM L nos) := by
  refine ⟨pickV vs nos, by simp, hu, fun i x hx => ?_⟩
  have hi : i < nos.length := by have := (List.getElem?_eq_some_iff.1 hx).1; simpa using this
  have hh := hno i hi
  have e : nos.getD i 0 = nos[i] := by simp [List.getD, hi]
  rw [e] at hh
  have hlt : nos[i].toNat < vs.length := by omega
  have ex : x = vs[nos[i].toNat] := by
    have : (pickV vs nos)[i]? = some (vs.getD nos[i].toNat undef) := by simp [pickV, hi]
    rw [this] at hx
    have := Option.some.inj hx
    rw [← this]; simp [List.getD, hlt]
  have em : (pickM L nos).getD i [] = L.getD nos[i].toNat [] := by simp [pickM, List.getD, hi]
  rw [em, ex]
  exact (hs _ _ (List.getElem?_eq_getElem hlt)).below hb
/-- rows are seen, handed back -/
def RetSeenM (w : World) (L : Mat) (e : Ending) (w' : World) : Prop := ∃ A n c, e = .returned (.agg #[.slice A n c]) ∧ SeenM w' (.slice A n c) L ∧ TurnIn 0 0 w w'
end G294
namespace Go.Proofs.YtlkoafnlklhaeaaDoor
open Go.RowKit G294

set_option maxRecDepth 100000 in
set_option maxHeartbeats 2000000 in
theorem rowsAt_seen (v : Value) (L : Mat) (u : Value) (nos : List Int) (w : World) (hm : SeenM w v L) (hu : Seen w u (ints nos)) (hn : nos.length ≤ 1048576) (hno : ∀ i, i < nos.length → 0 ≤ nos.getD i 0 ∧ nos.getD i 0 < (L.length : Int)) :
    Calls Tryd.prog 137 #[.agg #[v], u] w (RetSeenM w (pickM L nos)) := by
  obtain ⟨i0, hi0, hz0, hz1, hz2⟩ := info_parts infoRowB
  obtain ⟨vs, hvl, hsv, hrows⟩ := hm
  have HSL : Hid (∀ (x : Value) (m : Nat), vs[m]? = some x → ∃ A' n' c', x = .slice A' n' c') := fun x m hx => by
    obtain ⟨A', c', e, _⟩ := hrows m x hx
    exact ⟨A', _, c', e⟩
  have HPS : Hid (∀ (w' : World) (x : Value), Below w.heap.size w w' → Seen w' x (pickV vs nos) → SeenM w' x (pickM L nos)) := fun w' x hb hx => pick_seen hvl hrows hno hb hx
  obtain ⟨A, cA, rfl, hlA, hcA, hxA⟩ := hsv
  obtain ⟨B, cB, rfl, hlB, hcB, hxB⟩ := hu
  have hlp := pickV_length vs nos
  rw [ints_length] at hlB hxB
  simp only [ints_length]
  unfold maxLen at hcA hcB
  rw [hvl] at hlA hxA ⊢
  generalize hLL : L.length = r at *
  generalize hnn : nos.length = n at *
  have HN := Lib.hid hnn
  have HVL := Lib.hid hvl
  have HNO := Lib.hid hno
  have HXA := Lib.hid hxA
  have HXB := Lib.hid hxB
  have HLP := Lib.hid hlp
  clear hnn hLL hvl hno hrows hxA hxB hlp
  have kB : TurnIn 0 0 w ((w.alloc (.cells #[.slice A r cA] 70)).alloc (.cells #[.slice none 0 0] 70)) := turn_trans (turn_alloc _ _) (turn_alloc _ _) (by omega)
  have zB : ((w.alloc (.cells #[.slice A r cA] 70)).alloc (.cells #[.slice none 0 0] 70)).heap.size = w.heap.size + 2 := by simp
  have q0 : ((w.alloc (.cells #[.slice A r cA] 70)).alloc (.cells #[.slice none 0 0] 70)).cell? ⟨w.heap.size, 0, none⟩ = some (.slice A r cA) := by simp
  have q1 : ((w.alloc (.cells #[.slice A r cA] 70)).alloc (.cells #[.slice none 0 0] 70)).cell? ⟨w.heap.size + 1, 0, none⟩ = some (.slice none 0 0) := by simp
  have q1f : ((w.alloc (.cells #[.slice A r cA] 70)).alloc (.cells #[.slice none 0 0] 70)).frozen? ⟨w.heap.size + 1, 0, none⟩ = false := by simp
  go_enter Tryd.func137, Tryd.ntmps137
  go_wp2_with (at_make; refine wpList_make_full _ rfl _ _ _ rfl (w.heap.size + 2) _ i0 _ 1 Tryd.underlying68 hi0 hz0 hz1 _ _ _ _ n rfl rfl rfl rfl ?b2 ?b3 ?b4 ?_)
  case b2 => rw [hz2]; omega
  case b3 => unfold maxLen; omega
  case b4 => rw [zB]; exact Nat.le_refl _
  intro w1 hown1 hg1
  generalize ((w.alloc (.cells #[.slice A r cA] 70)).alloc (.cells #[.slice none 0 0] 70)) = w2 at *
  have hb1 : Below w2.heap.size w2 w1 := below_of_grown hg1 (Nat.le_refl _) (by simp)
  rw [toList_madeCells_one] at hown1
  have hs1 := (hown1.lt (w.heap.size + 2) rfl).2
  have KB := Lib.hid kB
  have hzB : w.heap.size + 2 = w2.heap.size := zB.symm
  have HZB := Lib.hid hzB
  have hzle : w.heap.size + 2 ≤ w2.heap.size := by omega
  have hzge : w2.heap.size ≤ w.heap.size + 2 := by omega
  clear hg1 kB zB hzB
  go_wp2_with fail
  go_loopw [13] (fun i wr => ∃ k : Nat, k ≤ n ∧ i = .int .i64 k ∧ wr.ownsRow (w.heap.size + 2) 24 1 (.slice (some ⟨w.heap.size + 2, 0, none⟩) n n) n ((pickV vs nos).take k ++ List.replicate (n - k) (.slice none 0 0)) ∧ Below w2.heap.size w2 wr)
    (fun i _ => n - (intOf i).toNat)
  case atStart => exact ⟨0, Nat.zero_le _, rfl, by simpa using hown1, hb1⟩
  case round =>
    obtain ⟨k, hk, rfl, hown, hb⟩ := hrel
    have hbz := hb.size
    have HBW : Hid (Below w.heap.size w wr) := KB.out.to_below.trans (hb.mono (by omega))
    clear hown1 hb1
    by_cases hlt : k < n
    · have hki : (k : Int) < (n : Int) := by omega
      have hkl : k < nos.length := by rw [HN.out]; exact hlt
      obtain ⟨b, off, rfl, hbl, hcell⟩ := HXB.out (by omega)
      have hcx := (HBW.out.cell (p := ⟨b, off + k, none⟩) hbl).trans (hcell k _ (ints_get nos k hkl))
      have hh := HNO.out k hlt
      have eN : nos.getD k 0 = nos[k] := by simp [List.getD, hkl]
      rw [eN] at hh
      obtain ⟨m, hm⟩ := Int.eq_ofNat_of_zero_le hh.1
      rw [hm] at hcx hh
      have hmr : m < r := by omega
      obtain ⟨b', off', rfl, hbl', hcell'⟩ := HXA.out (by omega)
      have hvm : vs[m]? = some (vs[m]'(by rw [HVL.out]; exact hmr)) := List.getElem?_eq_getElem _
      obtain ⟨x, hx⟩ : ∃ x, x = vs[m]'(by rw [HVL.out]; exact hmr) := ⟨_, rfl⟩
      rw [← hx] at hvm
      have hcy := (HBW.out.cell (p := ⟨b', off' + m, none⟩) hbl').trans (hcell' m _ hvm)
      have hTk : (pickV vs nos)[k]? = some x := by
        have : (pickV vs nos)[k]? = some (vs.getD nos[k].toNat undef) := by simp [pickV, hkl]
        rw [this, hm]
        simp [List.getD, hvm]
      have HX1 : Hid (∃ A' n' c', x = .slice A' n' c') := HSL.out x m hvm
      obtain ⟨A', n', c', rfl⟩ := HX1.out
      have c0 := (hb.cell (p := ⟨w.heap.size, 0, none⟩) (show w.heap.size < w2.heap.size by omega)).trans q0
      have hwr := (hown.lt (w.heap.size + 2) rfl).2
      have hco : wr.cell? ⟨w.heap.size + 2, k, none⟩ = some (.slice none 0 0) := by
        have ht : ((pickV vs nos).take k).length = k := by simp [HN.out]; omega
        rw [hown.cellAt k (by omega), List.getElem?_append_right (by omega), ht, Nat.sub_self, List.getElem?_replicate, if_pos (by omega)]
      have hfr := hown.frozenAt k
      have hst := hown.stored k (.slice A' n' c')
      rw [take_set_next (pickV vs nos) _ k _ hTk (by simp [HN.out]; omega)] at hst
      have hst1 := hst.1
      have hb2 := hb.setCell (p := ⟨w.heap.size + 2, k, none⟩) (by show w2.heap.size ≤ w.heap.size + 2; omega) (.slice A' n' c')
      have hm0 : (0 : Int) ≤ (m : Int) := by omega
      have hmi : (m : Int) < (r : Int) := by omega
      clear hcell hcell' hst hTk hx hvm hm eN
      go_wp2_with fail
      go_roundw
      case rel => exact ⟨k + 1, by omega, by go_num, by simpa [Nat.sub_sub] using hst1, hb2⟩
      case measure => simp [intOf]; omega
    · obtain rfl : k = n := by omega
      have hki : ¬ (k : Int) < (k : Int) := by omega
      have r1 := (hb.cell (p := ⟨w.heap.size + 1, 0, none⟩) (show w.heap.size + 1 < w2.heap.size by omega)).trans q1
      have r1f := (hb.frozen (p := ⟨w.heap.size + 1, 0, none⟩) (show w.heap.size + 1 < w2.heap.size by omega)).trans q1f
      rw [List.take_of_length_le (by rw [HLP.out]; exact Nat.le_refl _), Nat.sub_self, List.replicate_zero, List.append_nil] at hown
      have HOWN := Lib.hid hown
      clear hown
      go_wp2_with fail
      refine bodyPost_ret (v := .agg #[.slice (some ⟨w.heap.size + 2, 0, none⟩) k k]) (by simp [results, Tryd.results137, go_sem, r1]) rfl ?_
      have hbf := HBW.out.setCell (p := ⟨w.heap.size + 1, 0, none⟩) (Nat.le_succ _) (.slice (some ⟨w.heap.size + 2, 0, none⟩) k k)
      refine ⟨_, _, _, rfl, HPS.out _ _ hbf ?_, TurnIn.of_below hbf⟩
      exact Seen.of_own (own_other HOWN.out (grown_set (w.heap.size + 1) 0 (.slice (some ⟨w.heap.size + 2, 0, none⟩) k k)) (fun g e e2 => by simp [Value.ownBlock] at e e2; omega))

end Go.Proofs.YtlkoafnlklhaeaaDoor

/- Increasing lists of indexes, and parts of matrices: plain functions. -/
namespace G294
def okAt (l : List Int) (size : Nat) (i : Nat) : Prop := 0 ≤ l.getD i 0 ∧ l.getD i 0 < size ∧ (0 < i → l.getD (i - 1) 0 < l.getD i 0)
instance (l : List Int) (size i : Nat) : Decidable (okAt l size i) := by unfold okAt; infer_instance
def someOk (l : List Int) (size : Nat) : Bool := decide (∀ i, i < l.length → okAt l size i)
def chosen (l : List Int) (size : Nat) : Bool := someOk l size && decide (0 < l.length)
theorem someOk_iff (l : List Int) (size : Nat) : someOk l size = true ↔ ∀ i, i < l.length → okAt l size i := by simp only [someOk, decide_eq_true_eq]
theorem someOk_no {l : List Int} {size k : Nat} (hk : k < l.length) (h : ¬ okAt l size k) : someOk l size = false := by
  rw [Bool.eq_false_iff]; intro e; exact h ((someOk_iff l size).1 e k hk)
def ptOk (m : Mat) (l c : List Int) : Bool := goodM m && chosen l m.length && chosen c (wid m)
def ptF (m : Mat) (l c : List Int) : Ents := fun i j => ent m (l.getD i 0).toNat (c.getD j 0).toNat
def ptR (m : Mat) (l c : List Int) : Mat := if ptOk m l c = true then mkM l.length c.length (ptF m l c) else []
/-- an increasing list of indexes below size is no longer than size -/
theorem okAt_lo (l : List Int) (size : Nat) (h : ∀ i, i < l.length → okAt l size i) : ∀ i, i < l.length → (i : Int) ≤ l.getD i 0 := by
  intro i
  induction i with
  | zero => intro hi; exact (h 0 hi).1
  | succ i ih =>
    intro hi
    have h1 := ih (by omega)
    have h2 := (h (i + 1) hi).2.2 (by omega)
    simp only [Nat.add_sub_cancel] at h2
    omega
theorem some_len {l : List Int} {size : Nat} (h : someOk l size = true) : l.length ≤ size := by
  have h' := (someOk_iff l size).1 h
  rcases Nat.eq_zero_or_pos l.length with h0 | h0
  · omega
  · have h1 := okAt_lo l size h' (l.length - 1) (by omega)
    have h2 := (h' (l.length - 1) (by omega)).2.1
    omega
end G294

/- What a function that fills a matrix keeps, wherever its variable lies. -/
namespace G294
open Go Go.RowKit
theorem RetMat.base {E EE : TypeId} {w w1 w' : World} {L : Mat} {e : Ending} (h : RetMat E EE w1 L e w') (hb : Below w.heap.size w w1) : RetMat E EE w L e w' := by
  obtain ⟨v, vs, he, h1, h2⟩ := h
  exact ⟨v, vs, he, h1.wider hb.size (Nat.le_refl _) (Nat.le_refl _), turn_of_below hb h2⟩
/-- rows, the variable (block B) that holds them, the variable of the result (block R), old memory -/
structure Fill2 (E EE : TypeId) (w wr : World) (R B : Nat) (v : Value) (L : Mat) (vs : List Value) : Prop where
  own : ∃ lo hi, OwnM E EE wr lo hi v L vs ∧ w.heap.size ≤ lo ∧ (R < lo ∨ hi ≤ R) ∧ (B < lo ∨ hi ≤ B)
  var : wr.cell? ⟨B, 0, none⟩ = some v
  res : wr.cell? ⟨R, 0, none⟩ = some (.slice none 0 0)
  resf : wr.frozen? ⟨R, 0, none⟩ = false
  old : Below w.heap.size w wr
  size : B < wr.heap.size ∧ R < wr.heap.size
  lo : w.heap.size ≤ B ∧ w.heap.size ≤ R
section
variable {E EE : TypeId} {w wr : World} {R B : Nat} {v : Value} {L L' : Mat} {vs : List Value}
theorem Fill2.drewN (h : Fill2 E EE w wr R B v L vs) (q : Nat) : Fill2 E EE w (wr.drewN q) R B v L vs := by
  obtain ⟨lo, hi, h1, h2⟩ := h.own
  exact ⟨⟨lo, hi, h1.drewN q, h2⟩, h.var, h.res, h.resf, below_drewN h.old q, h.size, h.lo⟩
theorem Fill2.congr (h : Fill2 E EE w wr R B v L vs) (e : L = L') : Fill2 E EE w wr R B v L' vs := e ▸ h
theorem Fill2.storeF {r c k j bb m cap' : Nat} {F : Ents} {x : UInt8} (h : Fill2 E EE w wr R B v (mkM r c F) vs) (hk : k < r) (hu : vs[k]? = some (.slice (some ⟨bb, 0, none⟩) m cap')) :
    Fill2 E EE w (wr.setCell ⟨bb, j, none⟩ (.int .u8 (x.toNat : Int))) R B v (mkM r c fun i jj => if i = k ∧ jj = j then x else F i jj) vs := by
  obtain ⟨lo, hi, h1, h2, h3, h4⟩ := h.own
  have ho := h1.rows k _ hu
  have e1 := (ho.1.lt bb rfl).1
  have e2 := ho.2.2 bb rfl
  exact ⟨⟨lo, hi, h1.storeF hk hu, h2, h3, h4⟩, (cell_set_other wr _ _ _ (by omega)).trans h.var, (cell_set_other wr _ _ _ (by omega)).trans h.res, (frozen_set_other wr _ _ _ (by omega)).trans h.resf, h.old.setCell (show w.heap.size ≤ bb by omega) _, by simpa using h.size, h.lo⟩
theorem Fill2.rowF {r c : Nat} {F : Ents} (h : Fill2 E EE w wr R B v (mkM r c F) vs) (k : Nat) (hk : k < r) (hc : 0 < c) : ∃ bb cp, vs[k]? = some (.slice (some ⟨bb, 0, none⟩) c cp) ∧ w.heap.size ≤ bb ∧ bb < wr.heap.size ∧ bb ≠ R ∧ bb ≠ B ∧ v.ownBlock ≠ some bb ∧ c ≤ cp ∧ cp ≤ maxLen ∧
    (∀ j, wr.frozen? ⟨bb, j, none⟩ = false) ∧ ∀ j, j < c → wr.cell? ⟨bb, j, none⟩ = some (.int .u8 ((F k j).toNat : Int)) := by
  obtain ⟨lo, hi, h1, h2, h3, h4⟩ := h.own
  obtain ⟨bb, cp, a1, a2, a3, a4, a5, a6, a7, a8⟩ := h1.rowF k hk hc
  have := h1.top
  exact ⟨bb, cp, a1, by omega, by omega, by omega, by omega, a4, a5, a6, a7, a8⟩
theorem Fill2.cellAt {g n cap k : Nat} {u : Value} (h : Fill2 E EE w wr R B (.slice (some ⟨g, 0, none⟩) n cap) L vs) (hk : vs[k]? = some u) : wr.cell? ⟨g, k, none⟩ = some u := by
  obtain ⟨lo, hi, h1, _⟩ := h.own
  exact h1.cellAt hk
theorem Fill2.vblock {g n cap : Nat} (h : Fill2 E EE w wr R B (.slice (some ⟨g, 0, none⟩) n cap) L vs) : w.heap.size ≤ g ∧ g ≠ R ∧ g ≠ B := by
  obtain ⟨lo, hi, h1, h2, h3, h4⟩ := h.own
  have e1 := (h1.row.lt g rfl).1
  have e2 := h1.out g rfl
  exact ⟨by omega, by omega, by omega⟩
/-- the variable is made behind the rows -/
theorem Fill2.late {w1 w2 : World} {t : TypeId} {lo : Nat} (hw2 : w2 = w1.alloc (.cells #[v] t)) (hM : OwnM E EE w1 lo w1.heap.size v L vs) (hlo : w.heap.size ≤ lo) (hR : R < lo ∧ w.heap.size ≤ R) (hc : w1.cell? ⟨R, 0, none⟩ = some (.slice none 0 0)) (hf : w1.frozen? ⟨R, 0, none⟩ = false)
    (hb : Below w.heap.size w w1) (hs : R < w1.heap.size) : Fill2 E EE w w2 R w1.heap.size v L vs := by
  subst hw2
  have kA : TurnIn 0 0 w1 (w1.alloc (.cells #[v] t)) := TurnIn.of_below ((Below.refl _ _).alloc (Nat.le_refl _) _)
  have hbs := hb.size
  exact ⟨⟨lo, w1.heap.size, hM.keep kA (by omega), hlo, by omega, by omega⟩, by simp, cell_turn kA hc hs, frozen_turn kA hf hs, hb.alloc (by omega) _, ⟨by simp, by simp; omega⟩, ⟨hbs, hR.2⟩⟩
/-- the variable was made ahead of the rows -/
theorem Fill2.early {w1 : World} {lo : Nat} (hM : OwnM E EE w1 lo w1.heap.size v L vs) (hlo : w.heap.size ≤ lo) (hR : R < lo ∧ w.heap.size ≤ R) (hB : B < lo ∧ w.heap.size ≤ B) (hne : B ≠ R) (hv : w1.cell? ⟨B, 0, none⟩ = some (.slice none 0 0)) (hc : w1.cell? ⟨R, 0, none⟩ = some (.slice none 0 0)) (hf : w1.frozen? ⟨R, 0, none⟩ = false)
    (hb : Below w.heap.size w w1) (hs : R < w1.heap.size ∧ B < w1.heap.size) : Fill2 E EE w (w1.setCell ⟨B, 0, none⟩ v) R B v L vs := by
  have kA := turn_setCell w1 B 0 v
  exact ⟨⟨lo, w1.heap.size, hM.keep kA (by omega), hlo, by omega, by omega⟩, World.cell?_setCell_same _ _ _ hv, (cell_set_other w1 _ _ _ hne).trans hc, (frozen_set_other w1 _ _ _ hne).trans hf, hb.setCell hB.2 _, ⟨by simpa using hs.2, by simpa using hs.1⟩, ⟨hB.2, hR.2⟩⟩
/-- the rows are stored into the result -/
theorem Fill2.finish (h : Fill2 E EE w wr R B v L vs) : RetMat E EE w L (.returned (.agg #[v])) (wr.setCell ⟨R, 0, none⟩ v) := by
  obtain ⟨lo, hi, h1, h2, h3, _⟩ := h.own
  have kk := turn_setCell wr R 0 v
  exact ⟨v, vs, rfl, (h1.keep kk (by omega)).wider h2 (by have := h1.top; simp; omega) (by simp), TurnIn.of_below (h.old.setCell h.lo.2 _)⟩
end
end G294

/- The model's PartOf. -/
namespace Go.Proofs.YtlkoafnlklhaeaaDoor
open Go.RowKit G294

set_option maxRecDepth 100000 in
set_option maxHeartbeats 1000000 in
theorem l1Some_any (v : Value) (l : List Int) (size : Nat) (w : World) (hv : Seen w v (ints l)) (hsz : size ≤ 1000) (hs1 : 1 ≤ size) :
    Calls Tryd.prog 131 #[v, .int .i64 size] w fun e w' => e = .returned (.bool (someOk l size)) ∧ w = w' := by
  obtain ⟨A, c, rfl, hlc, hcm, hx⟩ := hv
  rw [ints_length] at hlc hx
  simp only [ints_length]
  unfold maxLen at hcm
  generalize hnn : l.length = n at *
  have HN := Lib.hid hnn
  have HX := Lib.hid hx
  clear hnn hx
  go_enter Tryd.func131, Tryd.ntmps131
  go_wp2_with fail
  go_loop [9] (fun i => ∃ k : Nat, k ≤ n ∧ i = .int .i64 k ∧ Hid (∀ i, i < k → okAt l size i)) (fun i => n - (intOf i).toNat)
  case atStart => exact ⟨0, Nat.zero_le _, rfl, fun i h => by omega⟩
  case round =>
    obtain ⟨k, hk, rfl, HK⟩ := hrel
    by_cases hlt : k < n
    · have hki : (k : Int) < (n : Int) := by omega
      have hkl : k < l.length := by rw [HN.out]; exact hlt
      obtain ⟨b, off, rfl, hbl, hcell⟩ := HX.out (by omega)
      have hcx := hcell k _ (ints_get l k hkl)
      obtain ⟨x, hxx⟩ : ∃ x, x = l[k] := ⟨_, rfl⟩
      rw [← hxx] at hcx
      have HXX : Hid (l.getD k 0 = x) := by show l.getD k 0 = x; rw [hxx]; simp [List.getD, hkl]
      clear hxx
      by_cases h1 : inB x 0 ((size : Int) - 1) = true
      · have H1 := Lib.hid h1
        have hin : 0 ≤ x ∧ x ≤ (size : Int) - 1 := by unfold inB at h1; simpa using h1
        clear h1
        by_cases hk0 : k = 0
        · have hkz : ¬ (0 : Int) < (k : Int) := by omega
          have hkd : decide ((0 : Int) < (k : Int)) = false := by simp; omega
          have HK2 : Hid (∀ i, i < k + 1 → okAt l size i) := fun i hi => by
            obtain rfl : i = k := by omega
            have e := HXX.out
            exact ⟨by omega, by omega, fun h => by omega⟩
          clear hcell hk0
          go_wp2_with fail
          refine (l1In_any _ _ _ _).mono ?_
          rintro e w' ⟨rfl, rfl⟩
          rw [H1.out]
          go_wp2_with fail
          go_round
          case rel => exact ⟨k + 1, by omega, by go_num, HK2⟩
          case measure => simp [intOf]; omega
        · have hkz : (0 : Int) < (k : Int) := by omega
          have hkd : decide ((0 : Int) < (k : Int)) = true := by simp; omega
          have hcy := hcell (k - 1) _ (ints_get l (k - 1) (by omega))
          obtain ⟨y, hyy⟩ : ∃ y, y = l[k - 1] := ⟨_, rfl⟩
          rw [← hyy] at hcy
          have HYY : Hid (l.getD (k - 1) 0 = y) := by
            show l.getD (k - 1) 0 = y
            rw [hyy]; simp [List.getD, show k - 1 < l.length by omega]
          have hk1 : (0 : Int) ≤ (k : Int) - 1 := by omega
          have hk1' : (1 : Int) ≤ (k : Int) := by omega
          have hk2 : (k : Int) - 1 < (n : Int) := by omega
          have hk3 : ((k : Int) - 1).toNat = k - 1 := by omega
          clear hyy hcell hk0
          by_cases h2 : x ≤ y
          · have hd : decide (x ≤ y) = true := by simpa using h2
            have HF := Lib.hid (someOk_no (l := l) (size := size) hkl (fun ho => by
              have e1 := HXX.out
              have e2 := HYY.out
              have := ho.2.2 (by omega)
              omega))
            go_wp2_with fail
            refine (l1In_any _ _ _ _).mono ?_
            rintro e w' ⟨rfl, rfl⟩
            rw [H1.out]
            go_wp2_with fail
            go_ret
            exact ⟨by rw [HF.out]; rfl, rfl⟩
          · have hd : decide (x ≤ y) = false := by simpa using h2
            have HK2 : Hid (∀ i, i < k + 1 → okAt l size i) := fun i hi => by
              by_cases e : i = k
              · subst e
                have e1 := HXX.out
                have e2 := HYY.out
                exact ⟨by omega, by omega, fun h => by omega⟩
              · exact HK.out i (by omega)
            go_wp2_with fail
            refine (l1In_any _ _ _ _).mono ?_
            rintro e w' ⟨rfl, rfl⟩
            rw [H1.out]
            go_wp2_with fail
            go_round
            case rel => exact ⟨k + 1, by omega, by go_num, HK2⟩
            case measure => simp [intOf]; omega
      · have H1 : Hid (inB x 0 ((size : Int) - 1) = false) := by show inB x 0 ((size : Int) - 1) = false; simpa using h1
        have hin : ¬ (0 ≤ x ∧ x ≤ (size : Int) - 1) := by unfold inB at h1; simpa using h1
        have HF := Lib.hid (someOk_no (l := l) (size := size) hkl (fun ho => by
          have e1 := HXX.out
          obtain ⟨o1, o2, _⟩ := ho
          omega))
        clear h1 hcell hin
        go_wp2_with fail
        refine (l1In_any _ _ _ _).mono ?_
        rintro e w' ⟨rfl, rfl⟩
        rw [H1.out]
        go_wp2_with fail
        go_ret
        exact ⟨by rw [HF.out]; rfl, rfl⟩
    · obtain rfl : k = n := by omega
      have hki : ¬ (k : Int) < (k : Int) := by omega
      have HF := Lib.hid ((someOk_iff l size).2 (fun i hi => HK.out i (by rw [← HN.out]; exact hi)))
      go_wp2_with fail
      go_ret
      exact ⟨by rw [HF.out]; rfl, rfl⟩

set_option maxRecDepth 100000 in
set_option maxHeartbeats 4000000 in
theorem l2Part_own (r c : Nat) (F : Ents) (l m : List Int) (v u x : Value) (w : World) (hs : SeenM w v (mkM r c F)) (hl : Seen w u (ints l)) (hm : Seen w x (ints m))
    (hlo : ∀ i, i < l.length → 0 ≤ l.getD i 0 ∧ l.getD i 0 < r) (hmo : ∀ i, i < m.length → 0 ≤ m.getD i 0 ∧ m.getD i 0 < c) (hn : l.length ≤ 1000) (hn2 : m.length ≤ 1000) :
    Calls Tryd.prog 133 #[.agg #[v], u, x] w (RetMat 5 24 w (mkM l.length m.length fun i j => F (l.getD i 0).toNat (m.getD j 0).toNat)) := by
  have k1 : TurnIn 0 0 w (w.alloc (.cells #[v] 70)) := turn_alloc _ _
  have k3 : TurnIn 0 0 w (((w.alloc (.cells #[v] 70)).alloc (.cells #[.slice none 0 0] 70)).alloc (.cells #[.slice none 0 0] 70)) := turn_trans (turn_trans k1 (turn_alloc _ _) (by omega)) (turn_alloc _ _) (by omega)
  have z3 : (((w.alloc (.cells #[v] 70)).alloc (.cells #[.slice none 0 0] 70)).alloc (.cells #[.slice none 0 0] 70)).heap.size = w.heap.size + 3 := by simp
  have q0 : (((w.alloc (.cells #[v] 70)).alloc (.cells #[.slice none 0 0] 70)).alloc (.cells #[.slice none 0 0] 70)).cell? ⟨w.heap.size, 0, none⟩ = some v := cell_turn (turn_trans (turn_alloc _ _) (turn_alloc _ _) (by omega)) (show (w.alloc (.cells #[v] 70)).cell? ⟨w.heap.size, 0, none⟩ = some v by simp) (by simp)
  have q1 : (((w.alloc (.cells #[v] 70)).alloc (.cells #[.slice none 0 0] 70)).alloc (.cells #[.slice none 0 0] 70)).cell? ⟨w.heap.size + 1, 0, none⟩ = some (.slice none 0 0) := alloc_mid_cell _ _ _ _ _
  have q1f : (((w.alloc (.cells #[v] 70)).alloc (.cells #[.slice none 0 0] 70)).alloc (.cells #[.slice none 0 0] 70)).frozen? ⟨w.heap.size + 1, 0, none⟩ = false := alloc_mid_frozen _ _ _ _ _
  have q2 : (((w.alloc (.cells #[v] 70)).alloc (.cells #[.slice none 0 0] 70)).alloc (.cells #[.slice none 0 0] 70)).cell? ⟨w.heap.size + 1 + 1, 0, none⟩ = some (.slice none 0 0) := alloc_last_cell _ _ _ _ _
  have q2f : (((w.alloc (.cells #[v] 70)).alloc (.cells #[.slice none 0 0] 70)).alloc (.cells #[.slice none 0 0] 70)).frozen? ⟨w.heap.size + 1 + 1, 0, none⟩ = false := alloc_last_frozen _ _ _ _ _
  have hM0 : OwnM 5 24 (((w.alloc (.cells #[v] 70)).alloc (.cells #[.slice none 0 0] 70)).alloc (.cells #[.slice none 0 0] 70)) (w.heap.size + 3) (((w.alloc (.cells #[v] 70)).alloc (.cells #[.slice none 0 0] 70)).alloc (.cells #[.slice none 0 0] 70)).heap.size (.slice none 0 0) (mkM 0 m.length fun i j => F (l.getD i 0).toNat (m.getD j 0).toNat) [] := OwnM.nil _ _ _ _
  obtain ⟨A, cp, hvv, _, _⟩ := hs.len
  obtain ⟨A1, c1, hu⟩ := hl.len
  obtain ⟨A2, c2, hx⟩ := hm.len
  rw [ints_length] at hu hx
  rw [mkM_length] at hvv
  subst hu hx hvv
  have HS := Lib.hid hs
  have HL := Lib.hid hl
  have HM := Lib.hid hm
  have HLO := Lib.hid hlo
  have HMO := Lib.hid hmo
  have K3 := Lib.hid k3
  have HM0 := Lib.hid hM0
  clear hs hl hm hlo hmo k1 k3 hM0
  obtain ⟨n, hnn⟩ : ∃ n, n = l.length := ⟨_, rfl⟩
  obtain ⟨n2, hnn2⟩ : ∃ n, n = m.length := ⟨_, rfl⟩
  have HN := Lib.hid hnn
  have HN2 := Lib.hid hnn2
  rw [← hnn] at hn HL ⊢
  rw [← hnn2] at hn2 HM HM0 ⊢
  clear hnn hnn2
  go_enter Tryd.func133, Tryd.ntmps133
  go_wp2_with fail
  generalize (((w.alloc (.cells #[.slice A r cp] 70)).alloc (.cells #[.slice none 0 0] 70)).alloc (.cells #[.slice none 0 0] 70)) = w3 at *
  go_loopw [16] (fun i wr => ∃ (k : Nat) (o : Value) (vs : List Value), k ≤ n ∧ i = .int .i64 k ∧ Hid (OwnM 5 24 wr (w.heap.size + 3) wr.heap.size o (mkM k n2 fun i j => F (l.getD i 0).toNat (m.getD j 0).toNat) vs) ∧
      wr.cell? ⟨w.heap.size + 1 + 1, 0, none⟩ = some o ∧ wr.frozen? ⟨w.heap.size + 1 + 1, 0, none⟩ = false ∧ wr.cell? ⟨w.heap.size + 1, 0, none⟩ = some (.slice none 0 0) ∧ wr.frozen? ⟨w.heap.size + 1, 0, none⟩ = false ∧ wr.cell? ⟨w.heap.size, 0, none⟩ = some (.slice A r cp) ∧ Hid (Below w.heap.size w wr) ∧ w.heap.size + 3 ≤ wr.heap.size)
    (fun i _ => n - (intOf i).toNat)
  case atStart => exact ⟨0, .slice none 0 0, [], Nat.zero_le _, rfl, HM0, q2, q2f, q1, q1f, q0, Lib.hid K3.out.to_below, by omega⟩
  case round =>
    obtain ⟨k, o, vs, hk, rfl, HO, hc2, hf2, hc1, hf1, hc0, HB, hsz⟩ := hrel
    clear q0 q1 q1f q2 q2f z3
    by_cases hlt : k < n
    · have hki : (k : Int) < (n : Int) := by omega
      have hkl : k < l.length := by rw [← HN.out]; exact hlt
      obtain ⟨p, hp⟩ := Int.eq_ofNat_of_zero_le (HLO.out k hkl).1
      have hpr : p < r := by have := (HLO.out k hkl).2; omega
      have HP := Lib.hid hp
      obtain ⟨A3, c3, e3, hlc3, hcm3, hx3⟩ := HL.out.below HB.out
      rw [ints_length, ← HN.out] at e3 hlc3 hx3
      simp only [Value.slice.injEq] at e3
      obtain ⟨rfl, z9, rfl⟩ := e3
      clear z9
      obtain ⟨b3, o3, rfl, hb3, hc3⟩ := hx3 (by omega)
      have g3 := hc3 k _ (ints_get l k hkl)
      have e4 : l[k] = (p : Int) := by simp [List.getD, hkl] at hp; exact hp
      rw [e4] at g3
      unfold maxLen at hcm3
      clear hc3 hx3 e4 hp
      obtain ⟨B0, hB0⟩ : ∃ B0, B0 = wr.heap.size := ⟨_, rfl⟩
      have hB1 : B0 ≤ wr.heap.size := by omega
      have hB2 : wr.heap.size ≤ B0 := by omega
      clear hB0
      go_wp2_with fail
      go_loopw [10, 22] (fun y i wq => ∃ mm : Nat, mm ≤ n2 ∧ i = .int .i64 mm ∧ Hid (wq.ownsRow B0 5 1 y mm (bys (mkRow mm fun j => F p (m.getD j 0).toNat))) ∧ Hid (TurnIn 0 0 wr wq))
        (fun _ i _ => n2 - (intOf i).toNat)
      case atStart => exact ⟨0, Nat.zero_le _, rfl, Lib.hid (World.ownsRow_nil _ _ _ _), Lib.hid (TurnIn.refl _)⟩
      case round =>
        obtain ⟨mm, hmm, rfl, HOWN, HT⟩ := hrel
        have hst := HT.out.size
        have hBB := HT.out.base HB.out (by omega) (by omega)
        have HBB := Lib.hid hBB
        have hc0' := cell_turn HT.out hc0 (by omega)
        clear hBB
        by_cases hlm : mm < n2
        · have hmi : (mm : Int) < (n2 : Int) := by omega
          have hml : mm < m.length := by rw [← HN2.out]; exact hlm
          obtain ⟨q, hq⟩ := Int.eq_ofNat_of_zero_le (HMO.out mm hml).1
          have hqr : q < c := by have := (HMO.out mm hml).2; omega
          have HQ := Lib.hid hq
          obtain ⟨A4, c4, e5, hlc4, hcm4, hx4⟩ := HM.out.below HBB.out
          rw [ints_length, ← HN2.out] at e5 hlc4 hx4
          simp only [Value.slice.injEq] at e5
          obtain ⟨rfl, z9, rfl⟩ := e5
          clear z9
          obtain ⟨b4, o4, rfl, hb4, hc4⟩ := hx4 (by omega)
          have g4 := hc4 mm _ (ints_get m mm hml)
          have e4 : m[mm] = (q : Int) := by simp [List.getD, hml] at hq; exact hq
          rw [e4] at g4
          unfold maxLen at hcm4
          obtain ⟨bb, off, cp5, b', off', c', e6, hl5, h5, h6, h7, hl6, h8⟩ := (HS.out.below HBB.out).cellF p q hpr hqr
          simp only [Value.slice.injEq] at e6
          obtain ⟨rfl, z9, rfl⟩ := e6
          clear z9
          unfold maxLen at hl5 hl6
          have hown := HOWN.out
          have HF : Hid (F p (m.getD mm 0).toNat = F p q) := by show F p _ = F p q; rw [HQ.out]; rfl
          have hpi : (p : Int) < (r : Int) := by omega
          have hqi : (q : Int) < (c : Int) := by omega
          clear hc4 hx4 e4 hq
          go_wp2_with (at_builtin; refine wpList_append1 rfl _ _ _ rfl _ 5 _ _ Tryd.underlying24 infoByte rfl _ mm _ rfl (hown.alloc _) wr.heap.size (.int .u8 ((F p q).toNat : Int)) rfl ?c1 rfl ?c2 ?c3 ?c4 ?_)
          case c1 => simp
          case c2 => omega
          case c3 => omega
          case c4 => simp; omega
          intro v' w' hown' hg' _
          have hT2 := turn_trans (turn_trans HT.out (turn_alloc wr (.cells #[.int .u8 ((F p q).toNat : Int)] 5)) (by omega)) (TurnIn.of_grown hg' (fun g e => (hown.alloc (.cells #[.int .u8 ((F p q).toNat : Int)] 5)).lt g e)) (by omega)
          have hown2 : w'.ownsRow B0 5 1 v' (mm + 1) (bys (mkRow (mm + 1) fun j => F p (m.getD j 0).toNat)) := by
            have e : (mkRow (mm + 1) fun j => F p (m.getD j 0).toNat) = (mkRow mm fun j => F p (m.getD j 0).toNat) ++ [F p q] := by
              rw [← HF.out]; simp [mkRow, List.range_succ]
            rw [e, bys_append]; exact hown'
          have HT2 := Lib.hid hT2
          have HOWN2 := Lib.hid hown2
          clear hown' hg' hown2 hT2 hown
          go_wp2_with fail
          go_roundw
          case rel => exact ⟨mm + 1, by omega, by go_num, HOWN2, HT2⟩
          case measure => simp [intOf]; omega
        · obtain rfl : mm = n2 := by omega
          have hmi : ¬ (mm : Int) < (mm : Int) := by omega
          obtain ⟨A5, n5, c5, rfl⟩ := own_isSlice HOWN.out
          obtain ⟨A6, n6, c6, rfl⟩ := HO.out.isSlice
          have hrow : wr.ownsRow (w.heap.size + 3) 24 1 (.slice A6 n6 c6) k vs := by simpa using (HO.out.keep HT.out (by omega)).row
          have hob : ∀ g, (Value.slice A6 n6 c6).ownBlock = some g → w.heap.size + 3 ≤ g := fun g e => (hrow.lt g e).1
          have hne2 : (Value.slice A6 n6 c6).ownBlock ≠ some (w.heap.size + 1 + 1) := fun e => by have := hob _ e; omega
          have hne1 : (Value.slice A6 n6 c6).ownBlock ≠ some (w.heap.size + 1) := fun e => by have := hob _ e; omega
          have hne0 : (Value.slice A6 n6 c6).ownBlock ≠ some w.heap.size := fun e => by have := hob _ e; omega
          have kW := turn_trans HT.out (turn_alloc wr (.cells #[.slice A5 n5 c5] 24)) (by omega)
          have hR : OwnBytes 5 (wr.alloc (.cells #[.slice A5 n5 c5] 24)) B0 wr.heap.size (.slice A5 n5 c5) (mkRow mm fun j => F p (m.getD j 0).toNat) := ⟨by simpa using HOWN.out.alloc _, by simp, fun g e => (HOWN.out.lt g e).2⟩
          have hc2' := cell_turn HT.out hc2 (by omega)
          go_wp2_with (at_builtin; refine wpList_append1 rfl _ _ _ rfl (w.heap.size + 3) 24 _ _ Tryd.underlying68 infoRowB rfl _ k vs rfl (hrow.alloc _) wr.heap.size (.slice A5 n5 c5) rfl ?d1 rfl ?d2 ?d3 ?d4 ?_)
          case d2 => omega
          case d4 => omega
          intro v' w' hown' hg' hv'
          obtain ⟨A7, n7, c7, rfl⟩ := own_isSlice hown'
          have g2 := (cell_past kW hg' hne2 (by omega) 0).trans hc2
          have g2f := (frozen_past kW hg' hne2 (by omega) 0).trans hf2
          have g1 := (cell_past kW hg' hne1 (by omega) 0).trans hc1
          have g1f := (frozen_past kW hg' hne1 (by omega) 0).trans hf1
          have g0 := (cell_past kW hg' hne0 (by omega) 0).trans hc0
          have hM5 := (((HO.out.push kW hR hB2 (by omega) (by simpa using hown') hg' (by rw [World.size_alloc]; exact hv')).keep (turn_setCell w' (w.heap.size + 1 + 1) 0 (.slice A7 n7 c7)) (by omega)).congr (L' := mkM (k + 1) mm fun i j => F (l.getD i 0).toNat (m.getD j 0).toNat) (by rw [mkM_succ, HP.out]; rfl))
          have HM5 := Lib.hid hM5
          have hsw : wr.heap.size ≤ w'.heap.size := by have := hg'.size; have e : (wr.alloc (.cells #[.slice A5 n5 c5] 24)).heap.size = wr.heap.size + 1 := by simp
                                                       omega
          have hb5 : Below w.heap.size w (w'.setCell ⟨w.heap.size + 1 + 1, 0, none⟩ (.slice A7 n7 c7)) := Below.setCell (TurnIn.base (TurnIn.of_grown hg' (fun g e => (hrow.alloc (.cells #[.slice A5 n5 c5] 24)).lt g e)) (kW.base HB.out (by omega) (by omega)) (by have := kW.size; omega) (by omega)) (show w.heap.size ≤ w.heap.size + 1 + 1 by omega) _
          have HB5 := Lib.hid hb5
          clear hM5 hb5 hown' hg' hv' hR kW hrow hob hc0 hc1 hf1 hc2 hf2
          go_wp2_with fail
          go_roundw
          case rel => exact ⟨k + 1, .slice A7 n7 c7, _, by omega, by go_num, Lib.hid (HM5.out.wider (Nat.le_refl _) (by simp) (Nat.le_refl _)), World.cell?_setCell_same _ _ _ g2, by simp [g2f], (cell_set_other w' _ _ _ (by omega)).trans g1, (frozen_set_other w' _ _ _ (by omega)).trans g1f, (cell_set_other w' _ _ _ (by omega)).trans g0, HB5, by simp; omega⟩
          case measure => simp [intOf]; omega
    · obtain rfl : k = n := by omega
      have hki : ¬ (k : Int) < (k : Int) := by omega
      obtain ⟨A9, n9, c9, rfl⟩ := HO.out.isSlice
      go_wp2_with fail
      refine bodyPost_ret (v := .agg #[.slice A9 n9 c9]) (by simp [results, Tryd.results133, go_sem, hc1]) rfl ?_
      have kk := turn_setCell wr (w.heap.size + 1) 0 (.slice A9 n9 c9)
      exact ⟨_, vs, rfl, (HO.out.keep kk (by omega)).wider (by omega) (by simp) (by simp), TurnIn.of_below (HB.out.setCell (Nat.le_succ _) _)⟩

end Go.Proofs.YtlkoafnlklhaeaaDoor

/- PartOf, the program's. -/
namespace Go.Proofs.YtlkoafnlklhaeaaDoor
open Go.RowKit G294

set_option maxRecDepth 100000 in
set_option maxHeartbeats 1000000 in
theorem goodChoice_any (v : Value) (l : List Int) (size : Nat) (w : World) (hv : Seen w v (ints l)) (hsz : size ≤ 1000) :
    Calls Tryd.prog 135 #[v, .int .i64 size] w fun e w' => e = .returned (.bool (chosen l size)) ∧ w = w' := by
  obtain ⟨A, c, rfl, hlc, hcm, hx⟩ := hv
  rw [ints_length] at hlc hx
  simp only [ints_length]
  unfold maxLen at hcm
  generalize hnn : l.length = n at *
  have HN := Lib.hid hnn
  have HX := Lib.hid hx
  clear hnn hx
  go_enter Tryd.func135, Tryd.ntmps135
  go_wp2_with fail
  go_loop [5, 10] (fun q i => ∃ (k : Nat) (z : Int), k ≤ n ∧ i = .int .i64 k ∧ q = .int .i64 z ∧ Hid (z = if k = 0 then -1 else l.getD (k - 1) 0) ∧ Hid (∀ i, i < k → okAt l size i)) (fun _ i => n - (intOf i).toNat)
  case atStart => exact ⟨0, -1, Nat.zero_le _, rfl, rfl, rfl, fun i h => by omega⟩
  case round =>
    obtain ⟨k, z, hk, rfl, rfl, HZ, HK⟩ := hrel
    by_cases hlt : k < n
    · have hki : (k : Int) < (n : Int) := by omega
      have hkl : k < l.length := by rw [HN.out]; exact hlt
      obtain ⟨b, off, rfl, hbl, hcell⟩ := HX.out (by omega)
      have hcx := hcell k _ (ints_get l k hkl)
      obtain ⟨x, hxx⟩ : ∃ x, x = l[k] := ⟨_, rfl⟩
      rw [← hxx] at hcx
      have HXX : Hid (l.getD k 0 = x) := by show l.getD k 0 = x; rw [hxx]; simp [List.getD, hkl]
      clear hcell hxx
      by_cases h1 : x ≤ z
      · have hd : decide (x ≤ z) = true := by simpa using h1
        have HF : Hid (chosen l size = false) := by
          show chosen l size = false
          unfold chosen
          rw [someOk_no hkl (fun ho => by
            have hz := HZ.out
            have e := HXX.out
            obtain ⟨o1, o2, o3⟩ := ho
            by_cases hk0 : k = 0
            · rw [if_pos hk0] at hz; omega
            · rw [if_neg hk0] at hz
              have := o3 (by omega)
              omega)]
          rfl
        go_wp2_with fail
        go_ret
        exact ⟨by rw [HF.out]; rfl, rfl⟩
      · have hd : decide (x ≤ z) = false := by simpa using h1
        by_cases h2 : (size : Int) ≤ x
        · have hd2 : decide ((size : Int) ≤ x) = true := by simpa using h2
          have HF : Hid (chosen l size = false) := by
            show chosen l size = false
            unfold chosen
            rw [someOk_no hkl (fun ho => by
              have e := HXX.out
              obtain ⟨o1, o2, o3⟩ := ho
              omega)]
            rfl
          go_wp2_with fail
          go_ret
          exact ⟨by rw [HF.out]; rfl, rfl⟩
        · have hd2 : decide ((size : Int) ≤ x) = false := by simpa using h2
          have HZ2 : Hid (x = if k + 1 = 0 then -1 else l.getD (k + 1 - 1) 0) := by
            show x = _
            rw [if_neg (by omega), Nat.add_sub_cancel, HXX.out]
          have HK2 : Hid (∀ i, i < k + 1 → okAt l size i) := fun i hi => by
            by_cases e : i = k
            · subst e
              have hz := HZ.out
              have e := HXX.out
              refine ⟨?_, by omega, fun hp => ?_⟩
              · by_cases hk0 : i = 0
                · rw [if_pos hk0] at hz; omega
                · rw [if_neg hk0] at hz
                  have := (HK.out (i - 1) (by omega)).1
                  omega
              · rw [if_neg (by omega)] at hz; omega
            · exact HK.out i (by omega)
          go_wp2_with fail
          go_round
          case rel => exact ⟨k + 1, x, by omega, by go_num, rfl, HZ2, HK2⟩
          case measure => simp [intOf]; omega
    · obtain rfl : k = n := by omega
      have hki : ¬ (k : Int) < (k : Int) := by omega
      have HF : Hid (chosen l size = decide (0 < k)) := by
        show chosen l size = _
        unfold chosen
        rw [(someOk_iff l size).2 (fun i hi => HK.out i (by rw [← HN.out]; exact hi)), HN.out]; rfl
      go_wp2_with fail
      go_ret
      exact ⟨by rw [HF.out]; simp, rfl⟩

end Go.Proofs.YtlkoafnlklhaeaaDoor

/- The mathematics of SplitText and JoinShards. -/
namespace G294
open Go Go.RowKit
/-- the length of a part -/
def partSize (n k : Nat) : Nat := (n + k - 1) / k
def padded (s : List UInt8) (k : Nat) : List UInt8 := s ++ List.replicate (k * partSize s.length k - s.length) 0
def splitP (s : List UInt8) (k : Nat) (i : Nat) : List UInt8 := ((padded s k).drop (i * partSize s.length k)).take (partSize s.length k)
def splitL (s : List UInt8) (k : Nat) : List (List UInt8) := (List.range k).map (splitP s k)
def splitOk (s : List UInt8) (k : Int) : Bool := dataOk k && decide ((s.length : Int) ≤ k * 40)
def splitR (s : List UInt8) (k : Int) : List (List UInt8) := if splitOk s k then splitL s k.toNat else []
theorem partSize_mul (n k : Nat) (hk : 1 ≤ k) : n ≤ k * partSize n k := by
  unfold partSize
  have h := Nat.div_add_mod (n + k - 1) k
  have h2 := Nat.mod_lt (n + k - 1) (show 0 < k by omega)
  omega
theorem partSize_le (n k : Nat) (hk : 1 ≤ k) (h : n ≤ k * 40) : partSize n k ≤ 40 := by
  unfold partSize
  have h1 : n + k - 1 < 41 * k := by omega
  have := (Nat.div_lt_iff_lt_mul (show 0 < k by omega)).2 h1
  omega
theorem padded_length (s : List UInt8) (k : Nat) (hk : 1 ≤ k) : (padded s k).length = k * partSize s.length k := by
  have := partSize_mul s.length k hk
  simp [padded]; omega
theorem splitP_length (s : List UInt8) (k i : Nat) (hk : 1 ≤ k) (hi : i < k) : (splitP s k i).length = partSize s.length k := by
  unfold splitP
  rw [List.length_take, List.length_drop, padded_length s k hk]
  have : (i + 1) * partSize s.length k ≤ k * partSize s.length k := Nat.mul_le_mul_right _ hi
  rw [Nat.add_mul] at this
  omega
@[simp] theorem splitL_length (s : List UInt8) (k : Nat) : (splitL s k).length = k := by simp [splitL]
theorem splitL_succ (s : List UInt8) (k i : Nat) : (List.range (i + 1)).map (splitP s k) = (List.range i).map (splitP s k) ++ [splitP s k i] := by simp [List.range_succ]
theorem extract_str (l : List UInt8) (a b : Nat) : (str l).extract a b = str ((l.drop a).take (b - a)) := by
  apply ByteArray.ext
  rw [ByteArray.data_extract]
  apply Array.ext'
  simp [str]
end G294
