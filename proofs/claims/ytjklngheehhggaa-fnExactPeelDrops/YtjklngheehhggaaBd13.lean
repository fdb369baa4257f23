/- Joined texts: Join, DrpOk, DrpOkS, Concat, Strp1, Strp2, Meth. -/
import Derived.Test.YtjklngheehhggaaBd09
import Derived.Test.YtjklngheehhggaaBd12
import Derived.Lib.AppendStr
import Derived.Test.YtjklngheehhggaaBd10
import Derived.Test.YtjklngheehhggaaBd11
import Derived.BigQuiet
import Derived.Test.YtjklngheehhggaaBd06
import Derived.Test.YtjklngheehhggaaBd02
import Derived.Lib.AppendZeros
import Derived.Deep.QuietTactic
import Derived.Deep.RegionHeld3
import Derived.Test.YtjklngheehhggaaBd08
set_option linter.unusedSimpArgs false
set_option linter.unusedVariables false
/- equallyLong, l3Texts; JoinShards: the model's and the program's. -/
namespace Go.Proofs.Ytjklngheehhggaa
open Go.RowKit G294

set_option maxRecDepth 100000 in
set_option maxHeartbeats 2000000 in
theorem equallyLong_any (v : Value) (L : List (List UInt8)) (w : World) (hv : Seen w v (strs L)) : Calls Try.prog 60 #[v] w fun e w' => e = .returned (.bool (textsOk L)) ∧ w = w' := by
  obtain ⟨A, c, rfl, hlc, hcm, hx⟩ := hv
  rw [strs_length] at hlc hx
  simp only [strs_length]
  unfold maxLen at hcm
  generalize hnn : L.length = n at *
  have HN := Lib.hid hnn
  clear hnn
  go_enter Try.func60, Try.ntmps60
  go_wp2_with fail
  go_loop [7] (fun i => ∃ k : Nat, k ≤ n ∧ i = .int .i64 k ∧ Hid (∀ i (h : i < L.length), i < k → L[i].length = (L.getD 0 []).length ∧ L[i].length ≤ 40)) (fun i => n - (intOf i).toNat)
  case atStart => exact ⟨0, Nat.zero_le _, rfl, fun i h h' => by omega⟩
  case round =>
    obtain ⟨k, hk, rfl, HE⟩ := hrel
    by_cases hlt : k < n
    · have hki : (k : Int) < (n : Int) := by omega
      have hkl : k < L.length := by rw [HN.out]; exact hlt
      obtain ⟨b, off, rfl, hbl, hcell⟩ := hx (by omega)
      have hcx := hcell k _ (strs_get L k hkl)
      have hc0 := hcell 0 _ (strs_get L 0 (by omega))
      rw [Nat.add_zero] at hc0
      have hsk := str_size L[k]
      have hs0 := str_size (L[0]'(by omega))
      have HG : Hid (L.getD 0 [] = L[0]'(by omega)) := by show _ = _; simp [List.getD, show 0 < L.length by omega]
      clear hcell hx
      by_cases h40 : L[k].length ≤ 40
      · by_cases heq : L[k].length = (L[0]'(by omega)).length
        · have HK : Hid (∀ i (h : i < L.length), i < k + 1 → L[i].length = (L.getD 0 []).length ∧ L[i].length ≤ 40) := fun i h h' => by
            rcases Nat.lt_or_ge i k with h2 | h2
            · exact HE.out i h h2
            · obtain rfl : i = k := by omega
              rw [HG.out]; exact ⟨heq, h40⟩
          generalize hnk : L[k].length = nk at *
          generalize hn0 : (L[0]'(by omega)).length = n0 at *
          subst heq
          have t1 : decide ((40 : Int) < (nk : Int)) = false := by simp; omega
          have t2 : ((nk : Int) != (nk : Int)) = false := by simp
          go_wp2_with fail
          go_round
          case rel => exact ⟨k + 1, by omega, by go_num, HK⟩
          case measure => simp [intOf]; omega
        · have HF : Hid (textsOk L = false) := textsOk_false hkl (by rw [HG.out]; omega)
          generalize hnk : L[k].length = nk at *
          generalize hn0 : (L[0]'(by omega)).length = n0 at *
          have t1 : decide ((40 : Int) < (nk : Int)) = false := by simp; omega
          have t2 : ((nk : Int) != (n0 : Int)) = true := by simp; omega
          go_wp2_with fail
          go_ret
          exact ⟨by rw [HF.out]; rfl, rfl⟩
      · have HF : Hid (textsOk L = false) := textsOk_false hkl (by omega)
        generalize hnk : L[k].length = nk at *
        have t1 : decide ((40 : Int) < (nk : Int)) = true := by simp; omega
        go_wp2_with fail
        go_ret
        exact ⟨by rw [HF.out]; rfl, rfl⟩
    · obtain rfl : k = n := by omega
      have hki : ¬ (k : Int) < (k : Int) := by omega
      have HF : Hid (textsOk L = true) := (textsOk_iff L).2 fun i h => HE.out i h (by rw [HN.out] at h; exact h)
      go_wp2_with fail
      go_ret
      exact ⟨by rw [HF.out]; rfl, rfl⟩

end Go.Proofs.Ytjklngheehhggaa

/- Chapter 9: valid drops: the program's and the model's; drops as shards. -/
namespace G294
open Go Go.RowKit
/-- drops as shards -/
def dshL (l : List Sh) : List Sh := (List.range l.length).map fun (i : Nat) => ((i : Int), (l.getD i (0, [])).2)
@[simp] theorem dshL_length (l : List Sh) : (dshL l).length = l.length := by simp [dshL]
theorem dshL_get (l : List Sh) (k : Nat) (h : k < l.length) : (dshL l)[k]? = some ((k : Int), (l.getD k (0, [])).2) := by simp [dshL, h]
theorem dshL_texts (l : List Sh) : (dshL l).map (·.2) = l.map (·.2) := by
  apply List.ext_getElem?
  intro i
  by_cases hi : i < l.length
  · simp [dshL, hi, List.getD]
  · rw [List.getElem?_eq_none (by simp; omega), List.getElem?_eq_none (by simp; omega)]
/-- one drop is valid beside the first -/
def drpAt (l : List Sh) (d : Sh) : Prop := seedOk d.1 = true ∧ d.2.length = (l.getD 0 (0, [])).2.length ∧ d.2.length ≤ 40
theorem map_head (l : List Sh) : ((l.map (·.2)).getD 0 []).length = (l.getD 0 (0, [])).2.length := by
  cases l with
  | nil => rfl
  | cons s l => rfl
theorem dropsOk_iff (l : List Sh) : dropsOk l = true ↔ l.length ≤ 40 ∧ ∀ (i : Nat) (d : Sh), l[i]? = some d → drpAt l d := by
  constructor
  · intro h
    simp only [dropsOk, Bool.and_eq_true, decide_eq_true_eq, List.all_eq_true] at h
    refine ⟨h.1, fun i d hd => ?_⟩
    have hm : d ∈ l := List.mem_of_getElem? hd
    have ht := textsOk_all.1 h.2.2 d.2 (List.mem_map_of_mem hm)
    rw [map_head] at ht
    exact ⟨h.2.1 d hm, ht.1, ht.2⟩
  · intro ⟨h1, h2⟩
    simp only [dropsOk, Bool.and_eq_true, decide_eq_true_eq, List.all_eq_true]
    refine ⟨h1, fun d hd => ?_, textsOk_all.2 fun t ht => ?_⟩
    · obtain ⟨i, hi, e⟩ := List.mem_iff_getElem.1 hd
      exact (h2 i d (by rw [List.getElem?_eq_getElem hi, e])).1
    · obtain ⟨d, hd, rfl⟩ := List.mem_map.1 ht
      obtain ⟨i, hi, e⟩ := List.mem_iff_getElem.1 hd
      have := h2 i d (by rw [List.getElem?_eq_getElem hi, e])
      rw [map_head]
      exact ⟨this.2.1, this.2.2⟩
theorem dropsOk_bad {l : List Sh} {i : Nat} {d : Sh} (hd : l[i]? = some d) (h : ¬ drpAt l d) : dropsOk l = false := by
  cases e : dropsOk l
  · rfl
  · exact absurd (((dropsOk_iff l).1 e).2 i d hd) h
theorem dropsOk_many {l : List Sh} (h : 40 < l.length) : dropsOk l = false := by
  cases e : dropsOk l
  · rfl
  · have := ((dropsOk_iff l).1 e).1; omega
end G294
namespace Go.Proofs.Ytjklngheehhggaa
open Go.RowKit G294

set_option maxRecDepth 100000 in
set_option maxHeartbeats 2000000 in
theorem dropShards_own (v : Value) (l : List Sh) (w : World) (hv : SeenH w v l) (hn : l.length ≤ 1000) : Calls Try.prog 62 #[v] w (RetShs 92 w (dshL l)) := by
  obtain ⟨i0, hi0, hz0, hz1, hz2⟩ := info_parts infoShard
  obtain ⟨A, c, rfl, hlc, hcm, hx⟩ := hv
  unfold maxLen at hcm
  have HG := Lib.hid (dshL_get l)
  have HDL := Lib.hid (dshL_length l)
  generalize hnn : l.length = n at *
  have HN := Lib.hid hnn
  clear hnn
  go_enter Try.func62, Try.ntmps62
  go_wp2_with (at_make; refine wpList_make_full _ rfl _ _ _ rfl w.heap.size _ i0 _ 2 Try.underlying72 hi0 hz0 hz1 _ _ _ _ n rfl rfl rfl rfl ?b2 ?b3 ?b4 ?_)
  case b2 => rw [hz2]; omega
  case b3 => unfold maxLen; omega
  case b4 => exact Nat.le_refl _
  intro w1 hown1 hg1
  have hb1 : Below w.heap.size w w1 := below_of_grown hg1 (Nat.le_refl _) (by simp)
  rw [toList_madeCells_shs] at hown1
  clear hg1
  go_wp2_with fail
  go_loopw [11] (fun i wr => ∃ k : Nat, k ≤ n ∧ i = .int .i64 k ∧ wr.ownsRow w.heap.size 92 2 (.slice (some ⟨w.heap.size, 0, none⟩) n n) n (shs ((dshL l).take k ++ List.replicate (n - k) ((0 : Int), ([] : List UInt8)))) ∧ Below w.heap.size w wr)
    (fun i _ => n - (intOf i).toNat)
  case atStart => exact ⟨0, Nat.zero_le _, rfl, by simpa using hown1, hb1⟩
  case round =>
    obtain ⟨k, hk, rfl, hown, hb⟩ := hrel
    clear hown1 hb1
    by_cases hlt : k < n
    · obtain ⟨b, off, rfl, hbl, hcell⟩ := hx (by omega)
      obtain ⟨⟨no, s⟩, hks⟩ := at_lt HN.out hlt
      have hc1 := (hb.cell (p := ⟨b, off + k * 2, none⟩) hbl).trans (hcell k _ hks).1
      have hc2 := (hb.cell (p := ⟨b, off + k * 2 + 1, none⟩) hbl).trans (hcell k _ hks).2
      simp only at hc1 hc2
      have hki : (k : Int) < (n : Int) := by omega
      have HKS : Hid ((dshL l)[k]? = some ((k : Int), s)) := by
        show _ = _
        rw [HG.out k hlt]; simp [List.getD, hks]
      have hbs := hb.size
      have ka := turn_alloc wr (.cells #[.int .i64 no, .string (str s)] 59)
      have za := World.size_alloc wr (.cells #[.int .i64 no, .string (str s)] 59)
      have d1 := alloc_duo1 wr (.int .i64 no) (.string (str s)) 59
      have hown' := owns_turn0 hown ka
      have hb' := ka.base hb (by omega) (by omega)
      have hlen : ((dshL l).take k ++ List.replicate (n - k) ((0 : Int), ([] : List UInt8))).length = n := by simp [HN.out]; omega
      have hkl : k < ((dshL l).take k ++ List.replicate (n - k) ((0 : Int), ([] : List UInt8))).length := by omega
      have hd1 : (wr.alloc (.cells #[.int .i64 no, .string (str s)] 59)).cell? ⟨w.heap.size, k * 2, none⟩ = some (.int .i64 ((dshL l).take k ++ List.replicate (n - k) ((0 : Int), ([] : List UInt8)))[k].1) := by rw [hown'.cellAt (k * 2) (by omega), shs_no _ k hkl]
      have hd2 : (wr.alloc (.cells #[.int .i64 no, .string (str s)] 59)).cell? ⟨w.heap.size, k * 2 + 1, none⟩ = some (.string (str ((dshL l).take k ++ List.replicate (n - k) ((0 : Int), ([] : List UInt8)))[k].2)) := by rw [hown'.cellAt (k * 2 + 1) (by omega), shs_data _ k hkl]
      have hf1 := hown'.frozenAt (k * 2)
      have hf2 := hown'.frozenAt (k * 2 + 1)
      have hst := hown'.stored (k * 2) (.int .i64 (k : Int))
      have hst2 := hst.1.stored (k * 2 + 1) (.string (str s))
      rw [shs_set _ k ((k : Int), s) hkl, take_set_next (dshL l) _ k ((k : Int), s) HKS.out (by simp [HN.out]; omega)] at hst2
      have hb2 := (hb'.setCell (p := ⟨w.heap.size, k * 2, none⟩) (Nat.le_refl _) (.int .i64 (k : Int))).setCell (p := ⟨w.heap.size, k * 2 + 1, none⟩) (Nat.le_refl _) (.string (str s))
      generalize ((dshL l).take k ++ List.replicate (n - k) ((0 : Int), ([] : List UInt8)))[k] = old at hd1 hd2
      have HS2 := Lib.hid hst2.1
      have HB2 := Lib.hid hb2
      clear hown' hlen hkl hst hst2 hown hb2 hcell hx hks
      go_wp2_with fail
      go_roundw
      case rel => exact ⟨k + 1, by omega, by go_num, by simpa [Nat.sub_sub] using HS2.out, HB2.out⟩
      case measure => simp [intOf]; omega
    · obtain rfl : k = n := by omega
      have hki : ¬ (k : Int) < (k : Int) := by omega
      go_wp2_with fail
      go_ret
      refine ⟨_, rfl, OwnSh.of_made ?_, TurnIn.of_below hb⟩
      rw [List.take_of_length_le (by rw [HDL.out]; exact Nat.le_refl _), Nat.sub_self] at hown
      rw [HDL.out]
      simpa using hown

set_option maxRecDepth 100000 in
set_option maxHeartbeats 2000000 in
theorem goodDrops_any (v : Value) (l : List Sh) (w : World) (hv : SeenH w v l) : Calls Try.prog 37 #[v] w (RetBool w (dropsOk l)) := by
  have HV := Lib.hid hv
  obtain ⟨A, c, rfl, hlc, hcm, hx⟩ := hv
  unfold maxLen at hcm
  have HM := Lib.hid (@dropsOk_many l)
  have HB := Lib.hid (fun i d => @dropsOk_bad l i d)
  have HTX := Lib.hid (dshL_texts l)
  have HOK : Hid (l.length ≤ 40 → (∀ (i : Nat) (d : Sh), i < l.length → l[i]? = some d → seedOk d.1 = true) → dropsOk l = textsOk (l.map (·.2))) := Lib.hid (fun h hs => by
    unfold dropsOk
    have e : (l.all fun d => seedOk d.1) = true := by
      rw [List.all_eq_true]
      intro d hd
      obtain ⟨i, hi, e⟩ := List.mem_iff_getElem.1 hd
      exact hs i d hi (by rw [List.getElem?_eq_getElem hi, e])
    rw [e]; simp [h])
  generalize hnn : l.length = n at *
  have HN := Lib.hid hnn
  clear hnn
  by_cases h40 : n ≤ 40
  · have hd : ¬ (40 : Int) < (n : Int) := by omega
    go_enter Try.func37, Try.ntmps37
    go_wp2_with fail
    go_loopw [10] (fun i wr => ∃ k : Nat, k ≤ n ∧ i = .int .i64 k ∧ Hid (∀ (i : Nat) (d : Sh), i < k → l[i]? = some d → seedOk d.1 = true) ∧ Below w.heap.size w wr)
      (fun i _ => n - (intOf i).toNat)
    case atStart => exact ⟨0, Nat.zero_le _, rfl, (fun _ _ h => by omega), Below.refl _ _⟩
    case round =>
      obtain ⟨k, hk, rfl, HE, hb⟩ := hrel
      by_cases hlt : k < n
      · obtain ⟨b, off, rfl, hbl, hcell⟩ := hx (by omega)
        obtain ⟨⟨no, s⟩, hks⟩ := at_lt HN.out hlt
        have hc1 := (hb.cell (p := ⟨b, off + k * 2, none⟩) hbl).trans (hcell k _ hks).1
        have hc2 := (hb.cell (p := ⟨b, off + k * 2 + 1, none⟩) hbl).trans (hcell k _ hks).2
        simp only at hc1 hc2
        have hki : (k : Int) < (n : Int) := by omega
        have hbs := hb.size
        have ka := turn_alloc wr (.cells #[.int .i64 no, .string (str s)] 59)
        have hb2 := ka.base hb (by omega) (by omega)
        have HKS := Lib.hid hks
        clear hcell hx hks
        cases hso : seedOk no
        · have HS := Lib.hid hso
          have HF : Hid (dropsOk l = false) := HB.out k (no, s) HKS.out (fun h => by have h1 : seedOk no = true := h.1; rw [hso] at h1; cases h1)
          clear hso
          go_wp2_with fail
          refine (goodSeed_any _ _).mono ?_
          rintro e w' ⟨rfl, rfl⟩
          rw [HS.out]
          go_wp2_with fail
          go_ret
          exact ⟨by rw [HF.out]; rfl, TurnIn.of_below hb2⟩
        · have HS := Lib.hid hso
          have HE2 : Hid (∀ (i : Nat) (d : Sh), i < k + 1 → l[i]? = some d → seedOk d.1 = true) := fun i d hi hd => by
            rcases Nat.lt_or_ge i k with h | h
            · exact HE.out i d h hd
            · obtain rfl : i = k := by omega
              rw [HKS.out] at hd
              obtain rfl := Option.some.inj hd
              exact hso
          clear hso
          go_wp2_with fail
          refine (goodSeed_any _ _).mono ?_
          rintro e w' ⟨rfl, rfl⟩
          rw [HS.out]
          go_wp2_with fail
          go_roundw
          case rel => exact ⟨k + 1, by omega, by go_num, HE2, hb2⟩
          case measure => simp [intOf]; omega
      · obtain rfl : k = n := by omega
        have hki : ¬ (k : Int) < (k : Int) := by omega
        have HF := Lib.hid (HOK.out h40 HE.out)
        have hbs := hb.size
        go_wp2_with fail
        refine (dropShards_own _ l _ (HV.out.below hb) (by rw [HN.out]; omega)).mono ?_
        rintro e w1 ⟨v1, rfl, o1, k1⟩
        have s1 := k1.size
        have HO1 := Lib.hid o1
        clear o1
        go_wp2_with fail
        refine (textsOf_own _ (dshL l) _ HO1.out.seen (by simp; rw [HN.out]; omega)).mono ?_
        rintro e w2 ⟨v2, rfl, o2, k2⟩
        have s2 := k2.size
        rw [HTX.out] at o2
        have HO2 := Lib.hid o2
        clear o2
        go_wp2_with fail
        refine (equallyLong_any _ _ _ HO2.out.seen).mono ?_
        rintro e w' ⟨rfl, rfl⟩
        go_wp2_with fail
        go_ret
        exact ⟨by rw [HF.out]; rfl, turn_trans (turn_trans (TurnIn.of_below hb) k1 (by omega)) k2 (by omega)⟩
  · have hd : (40 : Int) < (n : Int) := by omega
    have HF := Lib.hid (HM.out (by omega))
    go_enter Try.func37, Try.ntmps37
    go_wp2_with fail
    go_ret
    exact ⟨by rw [HF.out]; rfl, TurnIn.refl _⟩

end Go.Proofs.Ytjklngheehhggaa

/- Chapter 9: valid drops: the model's. -/
namespace Go.Proofs.Ytjklngheehhggaa
open Go.RowKit G294

set_option maxRecDepth 100000 in
set_option maxHeartbeats 4000000 in
theorem l9Drops_any (v : Value) (l : List Sh) (w : World) (hv : SeenH w v l) : Calls Try.prog 34 #[v] w (RetBool w (dropsOk l)) := by
  obtain ⟨A, c, rfl, hlc, hcm, hx⟩ := hv
  unfold maxLen at hcm
  have HM := Lib.hid (@dropsOk_many l)
  have HB := Lib.hid (fun i d => @dropsOk_bad l i d)
  have HOK : Hid (l.length ≤ 40 → (∀ (i : Nat) (d : Sh), i < l.length → l[i]? = some d → drpAt l d) → dropsOk l = true) := Lib.hid (fun h hs => (dropsOk_iff l).2 ⟨h, fun i d hd => hs i d (List.getElem?_eq_some_iff.1 hd).1 hd⟩)
  generalize hnn : l.length = n at *
  have HN := Lib.hid hnn
  clear hnn
  go_enter Try.func34, Try.ntmps34
  go_wp2_with fail
  go_loopw [7] (fun i wr => ∃ k : Nat, k ≤ n ∧ i = .int .i64 k ∧ Hid (∀ (j : Nat) (s : Sh), j < k → l[j]? = some s → drpAt l s) ∧ Below w.heap.size w wr)
    (fun i _ => n - (intOf i).toNat)
  case atStart => exact ⟨0, Nat.zero_le _, rfl, (fun j s h hj => by omega), Below.refl _ _⟩
  case round =>
    obtain ⟨k, hk, rfl, HE, hb⟩ := hrel
    by_cases hlt : k < n
    · obtain ⟨b, off, rfl, hbl, hcell⟩ := hx (by omega)
      obtain ⟨⟨no, s⟩, hks⟩ := at_lt HN.out hlt
      obtain ⟨⟨no0, s0⟩, hk0⟩ := at_lt (k := 0) HN.out (by omega)
      have hc1 := (hb.cell (p := ⟨b, off + k * 2, none⟩) hbl).trans (hcell k _ hks).1
      have hc2 := (hb.cell (p := ⟨b, off + k * 2 + 1, none⟩) hbl).trans (hcell k _ hks).2
      have hc0 := (hb.cell (p := ⟨b, off + 0 * 2 + 1, none⟩) hbl).trans (hcell 0 _ hk0).2
      simp only [Nat.zero_mul, Nat.add_zero] at hc1 hc2 hc0
      have hki : (k : Int) < (n : Int) := by omega
      have hni : (0 : Int) < (n : Int) := by omega
      have hbs := hb.size
      have k1 := turn_alloc wr (.cells #[.int .i64 no, .string (str s)] 59)
      have hb2 := hb.alloc hb.size (.cells #[.int .i64 no, .string (str s)] 59)
      have d0 := cell_turn k1 hc0 (by omega)
      have x1 : (wr.alloc (.cells #[.int .i64 no, .string (str s)] 59)).cell? ⟨wr.heap.size, 0, none⟩ = some (.int .i64 no) := by simp
      have x2 : (wr.alloc (.cells #[.int .i64 no, .string (str s)] 59)).cell? ⟨wr.heap.size, 1, none⟩ = some (.string (str s)) := by simp
      have hz := str_size s
      have hz0 := str_size s0
      have HG0 : Hid ((l.getD 0 (0, [])).2.length = s0.length) := by show _ = _; simp [List.getD, hk0]
      have HKS := Lib.hid hks
      clear hcell hx hks hk0 hc0 k1
      by_cases hA : seedOk no = true
      · have HC := Lib.hid (fun W : World => hA ▸ l9Seed_any no W)
        by_cases hC : s.length = s0.length
        · by_cases hD : s.length ≤ 40
          · have HK : Hid (∀ (jj : Nat) (s : Sh), jj < k + 1 → l[jj]? = some s → drpAt l s) := fun jj s' h hj => by
              rcases Nat.lt_or_ge jj k with h' | h'
              · exact HE.out jj s' h' hj
              · obtain rfl : jj = k := by omega
                obtain rfl : (no, s) = s' := Option.some.inj (HKS.out.symm.trans hj)
                exact ⟨hA, by rw [HG0.out]; exact hC, hD⟩
            clear hA
            generalize s.length = z at *
            generalize s0.length = z0 at *
            subst hC
            have tC : ((z : Int) != (z : Int)) = false := by simp
            have tD : decide ((40 : Int) < (z : Int)) = false := by simp; omega
            have tD' : decide (40 < z) = false := by simp; omega
            go_wp2_with fail
            go_quiet ((go_at_call 27; exact quietly (HC.out _)))
            go_wp2_with fail
            go_roundw
            case rel => exact ⟨k + 1, by omega, by go_num, HK, below_drewN hb2 _⟩
            case measure => simp [intOf]; omega
          · have HF : Hid (dropsOk l = false) := HB.out k _ HKS.out (fun h => hD h.2.2)
            clear hA
            generalize s.length = z at *
            generalize s0.length = z0 at *
            subst hC
            have tC : ((z : Int) != (z : Int)) = false := by simp
            have tD : decide ((40 : Int) < (z : Int)) = true := by simp; omega
            have tD' : decide (40 < z) = true := by simp; omega
            go_wp2_with fail
            go_quiet ((go_at_call 27; exact quietly (HC.out _)))
            go_wp2_with fail
            go_ret
            exact ⟨by rw [HF.out]; rfl, TurnIn.of_below (below_drewN hb2 _)⟩
        · have HF : Hid (dropsOk l = false) := HB.out k _ HKS.out (fun h => hC (by rw [← HG0.out]; exact h.2.1))
          clear hA
          generalize s.length = z at *
          generalize s0.length = z0 at *
          have tC : ((z : Int) != (z0 : Int)) = true := by rw [bne_iff_ne]; omega
          clear hC
          go_wp2_with fail
          go_quiet ((go_at_call 27; exact quietly (HC.out _)))
          go_wp2_with fail
          go_ret
          exact ⟨by rw [HF.out]; rfl, TurnIn.of_below (below_drewN hb2 _)⟩
      · have hA : seedOk no = false := by simpa using hA
        have HC := Lib.hid (fun W : World => hA ▸ l9Seed_any no W)
        have HF : Hid (dropsOk l = false) := HB.out k _ HKS.out (fun h => by have h1 : seedOk no = true := h.1; rw [hA] at h1; cases h1)
        clear hA
        go_wp2_with fail
        go_quiet ((go_at_call 27; exact quietly (HC.out _)))
        go_wp2_with fail
        go_ret
        exact ⟨by rw [HF.out]; rfl, TurnIn.of_below (below_drewN hb2 _)⟩
    · obtain rfl : k = n := by omega
      have hki : ¬ (k : Int) < (k : Int) := by omega
      by_cases h40 : k ≤ 40
      · have HF : Hid (dropsOk l = true) := HOK.out h40 HE.out
        have hd : decide ((k : Int) ≤ 40) = true := by simp; omega
        go_wp2_with fail
        go_ret
        exact ⟨by rw [HF.out]; rfl, TurnIn.of_below hb⟩
      · have HF : Hid (dropsOk l = false) := HM.out (by omega)
        have hd : decide ((k : Int) ≤ 40) = false := by simp; omega
        go_wp2_with fail
        go_ret
        exact ⟨by rw [HF.out]; rfl, TurnIn.of_below hb⟩

end Go.Proofs.Ytjklngheehhggaa

/- slices.Concat of two lists of texts. -/
namespace Go.Proofs.Ytjklngheehhggaa
open Go.RowKit G294

end Go.Proofs.Ytjklngheehhggaa

/- GoodStripe: the program's. -/
namespace Go.Proofs.Ytjklngheehhggaa
open Go.RowKit G294

end Go.Proofs.Ytjklngheehhggaa

/- GoodStripe: the model's. -/
namespace G294
open Go Go.RowKit
/-- append(s, x...) of a row of one-cell elements, onto a row of the call's own, as one step of a region, guarded or not -/
theorem step_appendG {P : Program} {w : World} {ops : Array Oper} {o : Oper} {a : Act} {K : Act → World → Prop} {Q : Exit → Act → World → Prop} {E : Prop} (hw : Region.wanted o (yielded ops a.tmps) = true) (s x : Operand) (t : TypeId)
    (ho : o.op = .call { callee := .builtin .append, args := #[s, x], argTypes := #[t, t] })
    (base : Nat) (e : TypeId) (z : Value) (bytes : Nat) (ht : P.underlying t = some (.slice e)) (hinfo : (P.info? e).map (fun i => (i.zero, i.size, i.bytes)) = some (some z, 1, bytes)) (hzs : z.cells.size = 1)
    (v : Value) (n : Nat) (xs : List Value) (hs : a.eval s = v) (hown : w.ownsRow base e 1 v n xs)
    (A : Addr) (m c : Nat) (ys : List Value) (hx : a.eval x = .slice (some A) m c) (hl : ys.length = m) (hc : ∀ j y, ys[j]? = some y → w.cell? (A.add j) = some y) (h1 : ∀ y, y ∈ ys → y.oneCell' = true)
    (hn : n + m ≤ 1000000000) (hby : bytes ≤ 1000) (hbase : base ≤ w.heap.size)
    (h : ∀ v' w', w'.ownsRow base e 1 v' (n + m) (xs ++ ys) → w.grownBy w' v.ownBlock → (v'.ownBlock = v.ownBlock ∨ v'.ownBlock = some w.heap.size) → K (a.put o.dst v') w') :
    if Region.wanted o (yielded ops a.tmps) = true then Oper.wp P o a w K Q else E := by
  rw [if_pos hw]
  obtain ⟨i, hi, hz, hsz, hbs⟩ := info_parts hinfo
  obtain ⟨v', w', hrun, r1, r2, _, r4⟩ := run_append_own_at (P := P) w base t o.type e i z 1 bytes ht hi hz hsz hbs hzs (by omega) v n xs hown A m c ys (by omega) hc h1 (by unfold maxLen; omega) (by
    have : (n + m) * bytes ≤ 1000000000 * 1000 := Nat.mul_le_mul (by omega) hby
    omega) hbase
  unfold Oper.wp execOp
  simp only [ho, resolve, invoke, builtin, Sem.run_bind, Sem.run_pure, Result.andThen_ok, List.map_toArray, List.map_cons, List.map_nil, hs, hx, hrun]
  exact h v' w' r1 r2 r4
/-- the two cells of a box stand above -/
def DuoAt (w1 : World) (B : Nat) (x y : Value) (W : World) : Prop := Below w1.heap.size w1 W ∧ W.cell? ⟨B, 0, none⟩ = some x ∧ W.cell? ⟨B, 1, none⟩ = some y
theorem duo_below {w1 W : World} {B : Nat} {x y : Value} (c0 : w1.cell? ⟨B, 0, none⟩ = some x) (c1 : w1.cell? ⟨B, 1, none⟩ = some y) (hB : B < w1.heap.size) (hb : Below w1.heap.size w1 W) : DuoAt w1 B x y W :=
  ⟨hb, (hb.cell (p := ⟨B, 0, none⟩) hB).trans c0, (hb.cell (p := ⟨B, 1, none⟩) hB).trans c1⟩
theorem seen_cells {w W : World} {v : Value} {L : List (List UInt8)} (h : Seen w v (strs L)) (h1 : 1 ≤ L.length) : ∃ b off c, v = .slice (some ⟨b, off, none⟩) L.length c ∧ b < w.heap.size ∧ L.length ≤ 9223372036854775807 ∧ ∀ W, Below w.heap.size w W → ∀ j y, (strs L)[j]? = some y → W.cell? ((⟨b, off, none⟩ : Addr).add j) = some y := by
  obtain ⟨A, c, rfl, hlc, hcm, hx⟩ := h
  rw [strs_length] at hlc hx
  obtain ⟨b, off, rfl, hbl, hcell⟩ := hx (by omega)
  unfold maxLen at hcm
  refine ⟨b, off, c, by rw [strs_length], hbl, by omega, fun W hb j y hj => ?_⟩
  rw [Addr.add_lit]
  exact (hb.cell (p := ⟨b, off + j, none⟩) hbl).trans (hcell j y hj)
end G294
namespace Go.Proofs.Ytjklngheehhggaa
open Go.RowKit G294

end Go.Proofs.Ytjklngheehhggaa

/- The methods that make the texts of a product, a sum, a merge and a change. -/
namespace G294
open Go Go.RowKit
theorem grew_str {P : Program} {f : FuncId} {args : Array Value} {w : World} {p : Grew w} {s : List UInt8} (h : Calls P f args p.at_ (RetStr p.at_ s)) :
    Calls P f args p.at_ fun e w'' => e = .returned (.string (str s)) ∧ ∃ q : Grew w, w'' = q.at_ :=
  h.mono fun _ w'' ⟨he, ht⟩ => ⟨he, ⟨w'', ht.base p.old p.old.size (by omega)⟩, rfl⟩
theorem grew_same {P : Program} {f : FuncId} {args : Array Value} {w : World} {p : Grew w} {v : Value} (h : Calls P f args p.at_ fun e w'' => e = .returned v ∧ p.at_ = w'') :
    Calls P f args p.at_ fun e w'' => e = .returned v ∧ ∃ q : Grew w, w'' = q.at_ :=
  h.mono fun _ w'' ⟨he, ht⟩ => ⟨he, p, ht.symm⟩
theorem seen_at {w : World} {v : Value} {L : List (List UInt8)} (h : Seen w v (strs L)) {i : Nat} (hi : i < L.length) : ∃ b off c, v = .slice (some ⟨b, off, none⟩) L.length c ∧ b < w.heap.size ∧ L.length ≤ 9223372036854775807 ∧ w.cell? ⟨b, off + i, none⟩ = some (.string (str (L.getD i []))) := by
  obtain ⟨A, c, rfl, hlc, hcm, hx⟩ := h
  rw [strs_length] at hlc hx
  obtain ⟨b, off, rfl, hbl, hcell⟩ := hx (by omega)
  unfold maxLen at hcm
  refine ⟨b, off, c, by rw [strs_length], hbl, by omega, ?_⟩
  rw [hcell i _ (strs_get L i hi)]
  simp [List.getD, hi]
theorem alloc4 (w : World) (a b c d : Value) (T : TypeId) : (w.alloc (.cells #[a, b, c, d] T)).cell? ⟨w.heap.size, 0, none⟩ = some a ∧ (w.alloc (.cells #[a, b, c, d] T)).cell? ⟨w.heap.size, 1, none⟩ = some b ∧ (w.alloc (.cells #[a, b, c, d] T)).cell? ⟨w.heap.size, 2, none⟩ = some c ∧ (w.alloc (.cells #[a, b, c, d] T)).cell? ⟨w.heap.size, 3, none⟩ = some d := by simp
end G294
namespace Go.Proofs.Ytjklngheehhggaa
open Go.RowKit G294

end Go.Proofs.Ytjklngheehhggaa
