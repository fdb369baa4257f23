/- Joined texts: DrpOk, DrpOkS, IsDrp. -/
import Derived.Test.YtjklngheehhggaaDoorBd10
import Derived.Test.YtjklngheehhggaaDoorBd18
import Derived.Test.YtjklngheehhggaaDoorBd12
import Derived.BigQuiet
import Derived.Test.YtjklngheehhggaaDoorBd17
import Derived.Laws.StructEq
import Derived.WalkMore
import Derived.Shelf.SlicesE.Kit
set_option linter.unusedSimpArgs false
set_option linter.unusedVariables false
/- Chapter 9: valid drops: the program's and the model's; drops as shards. -/
namespace G294
open Go Go.RowKit
/-- drops as shards -/
def dshL (l : List Sh) : List Sh := (List.range l.length).map fun (i : Nat) => ((i : Int), (l.getD i (0, [])).2)
@[simp] theorem dshL_length (l : List Sh) : (dshL l).length = l.length := by simp [dshL]
theorem dshL_get (l : List Sh) (k : Nat) (h : k < l.length) : (dshL l)[k]? = some ((k : Int), (l.getD k (0, [])).2) := by simp [dshL, h]
theorem dshL_texts (l : List Sh) : (dshL l).map (·.2) = l.map (·.2) := by
  apply List.ext_getElem?
  intro i
  by_cases hi : i < l.length
  · simp [dshL, hi, List.getD]
  · rw [List.getElem?_eq_none (by simp; omega), List.getElem?_eq_none (by simp; omega)]
/-- one drop is valid beside the first -/
def drpAt (l : List Sh) (d : Sh) : Prop := seedOk d.1 = true ∧ d.2.length = (l.getD 0 (0, [])).2.length ∧ d.2.length ≤ 40
theorem map_head (l : List Sh) : ((l.map (·.2)).getD 0 []).length = (l.getD 0 (0, [])).2.length := by
  cases l with
  | nil => rfl
  | cons s l => rfl
theorem dropsOk_iff (l : List Sh) : dropsOk l = true ↔ l.length ≤ 40 ∧ ∀ (i : Nat) (d : Sh), l[i]? = some d → drpAt l d := by
  constructor
  · intro h
    simp only [dropsOk, Bool.and_eq_true, decide_eq_true_eq, List.all_eq_true] at h
    refine ⟨h.1, fun i d hd => ?_⟩
    have hm : d ∈ l := List.mem_of_getElem? hd
    have ht := textsOk_all.1 h.2.2 d.2 (List.mem_map_of_mem hm)
    rw [map_head] at ht
    exact ⟨h.2.1 d hm, ht.1, ht.2⟩
  · intro ⟨h1, h2⟩
    simp only [dropsOk, Bool.and_eq_true, decide_eq_true_eq, List.all_eq_true]
    refine ⟨h1, fun d hd => ?_, textsOk_all.2 fun t ht => ?_⟩
    · obtain ⟨i, hi, e⟩ := List.mem_iff_getElem.1 hd
      exact (h2 i d (by rw [List.getElem?_eq_getElem hi, e])).1
    · obtain ⟨d, hd, rfl⟩ := List.mem_map.1 ht
      obtain ⟨i, hi, e⟩ := List.mem_iff_getElem.1 hd
      have := h2 i d (by rw [List.getElem?_eq_getElem hi, e])
      rw [map_head]
      exact ⟨this.2.1, this.2.2⟩
theorem dropsOk_bad {l : List Sh} {i : Nat} {d : Sh} (hd : l[i]? = some d) (h : ¬ drpAt l d) : dropsOk l = false := by
  cases e : dropsOk l
  · rfl
  · exact absurd (((dropsOk_iff l).1 e).2 i d hd) h
theorem dropsOk_many {l : List Sh} (h : 40 < l.length) : dropsOk l = false := by
  cases e : dropsOk l
  · rfl
  · have := ((dropsOk_iff l).1 e).1; omega
end G294
namespace Go.Proofs.YtjklngheehhggaaDoor
open Go.RowKit G294

set_option maxRecDepth 100000 in
set_option maxHeartbeats 2000000 in
theorem dropShards_own (v : Value) (l : List Sh) (w : World) (hv : SeenH w v l) (hn : l.length ≤ 1000) : Calls Tryd.prog 144 #[v] w (RetShs 87 w (dshL l)) := by
  obtain ⟨i0, hi0, hz0, hz1, hz2⟩ := info_parts infoShard
  obtain ⟨A, c, rfl, hlc, hcm, hx⟩ := hv
  unfold maxLen at hcm
  have HG := Lib.hid (dshL_get l)
  have HDL := Lib.hid (dshL_length l)
  generalize hnn : l.length = n at *
  have HN := Lib.hid hnn
  clear hnn
  go_enter Tryd.func144, Tryd.ntmps144
  go_wp2_with (at_make; refine wpList_make_full _ rfl _ _ _ rfl w.heap.size _ i0 _ 2 Tryd.underlying83 hi0 hz0 hz1 _ _ _ _ n rfl rfl rfl rfl ?b2 ?b3 ?b4 ?_)
  case b2 => rw [hz2]; omega
  case b3 => unfold maxLen; omega
  case b4 => exact Nat.le_refl _
  intro w1 hown1 hg1
  have hb1 : Below w.heap.size w w1 := below_of_grown hg1 (Nat.le_refl _) (by simp)
  rw [toList_madeCells_shs] at hown1
  clear hg1
  go_wp2_with fail
  go_loopw [11] (fun i wr => ∃ k : Nat, k ≤ n ∧ i = .int .i64 k ∧ wr.ownsRow w.heap.size 87 2 (.slice (some ⟨w.heap.size, 0, none⟩) n n) n (shs ((dshL l).take k ++ List.replicate (n - k) ((0 : Int), ([] : List UInt8)))) ∧ Below w.heap.size w wr)
    (fun i _ => n - (intOf i).toNat)
  case atStart => exact ⟨0, Nat.zero_le _, rfl, by simpa using hown1, hb1⟩
  case round =>
    obtain ⟨k, hk, rfl, hown, hb⟩ := hrel
    clear hown1 hb1
    by_cases hlt : k < n
    · obtain ⟨b, off, rfl, hbl, hcell⟩ := hx (by omega)
      obtain ⟨⟨no, s⟩, hks⟩ := at_lt HN.out hlt
      have hc1 := (hb.cell (p := ⟨b, off + k * 2, none⟩) hbl).trans (hcell k _ hks).1
      have hc2 := (hb.cell (p := ⟨b, off + k * 2 + 1, none⟩) hbl).trans (hcell k _ hks).2
      simp only at hc1 hc2
      have hki : (k : Int) < (n : Int) := by omega
      have HKS : Hid ((dshL l)[k]? = some ((k : Int), s)) := by
        show _ = _
        rw [HG.out k hlt]; simp [List.getD, hks]
      have hbs := hb.size
      have ka := turn_alloc wr (.cells #[.int .i64 no, .string (str s)] 27)
      have za := World.size_alloc wr (.cells #[.int .i64 no, .string (str s)] 27)
      have d1 := alloc_duo1 wr (.int .i64 no) (.string (str s)) 27
      have hown' := owns_turn0 hown ka
      have hb' := ka.base hb (by omega) (by omega)
      have hlen : ((dshL l).take k ++ List.replicate (n - k) ((0 : Int), ([] : List UInt8))).length = n := by simp [HN.out]; omega
      have hkl : k < ((dshL l).take k ++ List.replicate (n - k) ((0 : Int), ([] : List UInt8))).length := by omega
      have hd1 : (wr.alloc (.cells #[.int .i64 no, .string (str s)] 27)).cell? ⟨w.heap.size, k * 2, none⟩ = some (.int .i64 ((dshL l).take k ++ List.replicate (n - k) ((0 : Int), ([] : List UInt8)))[k].1) := by rw [hown'.cellAt (k * 2) (by omega), shs_no _ k hkl]
      have hd2 : (wr.alloc (.cells #[.int .i64 no, .string (str s)] 27)).cell? ⟨w.heap.size, k * 2 + 1, none⟩ = some (.string (str ((dshL l).take k ++ List.replicate (n - k) ((0 : Int), ([] : List UInt8)))[k].2)) := by rw [hown'.cellAt (k * 2 + 1) (by omega), shs_data _ k hkl]
      have hf1 := hown'.frozenAt (k * 2)
      have hf2 := hown'.frozenAt (k * 2 + 1)
      have hst := hown'.stored (k * 2) (.int .i64 (k : Int))
      have hst2 := hst.1.stored (k * 2 + 1) (.string (str s))
      rw [shs_set _ k ((k : Int), s) hkl, take_set_next (dshL l) _ k ((k : Int), s) HKS.out (by simp [HN.out]; omega)] at hst2
      have hb2 := (hb'.setCell (p := ⟨w.heap.size, k * 2, none⟩) (Nat.le_refl _) (.int .i64 (k : Int))).setCell (p := ⟨w.heap.size, k * 2 + 1, none⟩) (Nat.le_refl _) (.string (str s))
      generalize ((dshL l).take k ++ List.replicate (n - k) ((0 : Int), ([] : List UInt8)))[k] = old at hd1 hd2
      have HS2 := Lib.hid hst2.1
      have HB2 := Lib.hid hb2
      clear hown' hlen hkl hst hst2 hown hb2 hcell hx hks
      go_wp2_with fail
      go_roundw
      case rel => exact ⟨k + 1, by omega, by go_num, by simpa [Nat.sub_sub] using HS2.out, HB2.out⟩
      case measure => simp [intOf]; omega
    · obtain rfl : k = n := by omega
      have hki : ¬ (k : Int) < (k : Int) := by omega
      go_wp2_with fail
      go_ret
      refine ⟨_, rfl, OwnSh.of_made ?_, TurnIn.of_below hb⟩
      rw [List.take_of_length_le (by rw [HDL.out]; exact Nat.le_refl _), Nat.sub_self] at hown
      rw [HDL.out]
      simpa using hown

set_option maxRecDepth 100000 in
set_option maxHeartbeats 2000000 in
theorem goodDrops_any (v : Value) (l : List Sh) (w : World) (hv : SeenH w v l) : Calls Tryd.prog 80 #[v] w (RetBool w (dropsOk l)) := by
  have HV := Lib.hid hv
  obtain ⟨A, c, rfl, hlc, hcm, hx⟩ := hv
  unfold maxLen at hcm
  have HM := Lib.hid (@dropsOk_many l)
  have HB := Lib.hid (fun i d => @dropsOk_bad l i d)
  have HTX := Lib.hid (dshL_texts l)
  have HOK : Hid (l.length ≤ 40 → (∀ (i : Nat) (d : Sh), i < l.length → l[i]? = some d → seedOk d.1 = true) → dropsOk l = textsOk (l.map (·.2))) := Lib.hid (fun h hs => by
    unfold dropsOk
    have e : (l.all fun d => seedOk d.1) = true := by
      rw [List.all_eq_true]
      intro d hd
      obtain ⟨i, hi, e⟩ := List.mem_iff_getElem.1 hd
      exact hs i d hi (by rw [List.getElem?_eq_getElem hi, e])
    rw [e]; simp [h])
  generalize hnn : l.length = n at *
  have HN := Lib.hid hnn
  clear hnn
  by_cases h40 : n ≤ 40
  · have hd : ¬ (40 : Int) < (n : Int) := by omega
    go_enter Tryd.func80, Tryd.ntmps80
    go_wp2_with fail
    go_loopw [10] (fun i wr => ∃ k : Nat, k ≤ n ∧ i = .int .i64 k ∧ Hid (∀ (i : Nat) (d : Sh), i < k → l[i]? = some d → seedOk d.1 = true) ∧ Below w.heap.size w wr)
      (fun i _ => n - (intOf i).toNat)
    case atStart => exact ⟨0, Nat.zero_le _, rfl, (fun _ _ h => by omega), Below.refl _ _⟩
    case round =>
      obtain ⟨k, hk, rfl, HE, hb⟩ := hrel
      by_cases hlt : k < n
      · obtain ⟨b, off, rfl, hbl, hcell⟩ := hx (by omega)
        obtain ⟨⟨no, s⟩, hks⟩ := at_lt HN.out hlt
        have hc1 := (hb.cell (p := ⟨b, off + k * 2, none⟩) hbl).trans (hcell k _ hks).1
        have hc2 := (hb.cell (p := ⟨b, off + k * 2 + 1, none⟩) hbl).trans (hcell k _ hks).2
        simp only at hc1 hc2
        have hki : (k : Int) < (n : Int) := by omega
        have hbs := hb.size
        have ka := turn_alloc wr (.cells #[.int .i64 no, .string (str s)] 27)
        have hb2 := ka.base hb (by omega) (by omega)
        have HKS := Lib.hid hks
        clear hcell hx hks
        cases hso : seedOk no
        · have HS := Lib.hid hso
          have HF : Hid (dropsOk l = false) := HB.out k (no, s) HKS.out (fun h => by have h1 : seedOk no = true := h.1; rw [hso] at h1; cases h1)
          clear hso
          go_wp2_with fail
          refine (goodSeed_any _ _).mono ?_
          rintro e w' ⟨rfl, rfl⟩
          rw [HS.out]
          go_wp2_with fail
          go_ret
          exact ⟨by rw [HF.out]; rfl, TurnIn.of_below hb2⟩
        · have HS := Lib.hid hso
          have HE2 : Hid (∀ (i : Nat) (d : Sh), i < k + 1 → l[i]? = some d → seedOk d.1 = true) := fun i d hi hd => by
            rcases Nat.lt_or_ge i k with h | h
            · exact HE.out i d h hd
            · obtain rfl : i = k := by omega
              rw [HKS.out] at hd
              obtain rfl := Option.some.inj hd
              exact hso
          clear hso
          go_wp2_with fail
          refine (goodSeed_any _ _).mono ?_
          rintro e w' ⟨rfl, rfl⟩
          rw [HS.out]
          go_wp2_with fail
          go_roundw
          case rel => exact ⟨k + 1, by omega, by go_num, HE2, hb2⟩
          case measure => simp [intOf]; omega
      · obtain rfl : k = n := by omega
        have hki : ¬ (k : Int) < (k : Int) := by omega
        have HF := Lib.hid (HOK.out h40 HE.out)
        have hbs := hb.size
        go_wp2_with fail
        refine (dropShards_own _ l _ (HV.out.below hb) (by rw [HN.out]; omega)).mono ?_
        rintro e w1 ⟨v1, rfl, o1, k1⟩
        have s1 := k1.size
        have HO1 := Lib.hid o1
        clear o1
        go_wp2_with fail
        refine (textsOf_own _ (dshL l) _ HO1.out.seen (by simp; rw [HN.out]; omega)).mono ?_
        rintro e w2 ⟨v2, rfl, o2, k2⟩
        have s2 := k2.size
        rw [HTX.out] at o2
        have HO2 := Lib.hid o2
        clear o2
        go_wp2_with fail
        refine (equallyLong_any _ _ _ HO2.out.seen).mono ?_
        rintro e w' ⟨rfl, rfl⟩
        go_wp2_with fail
        go_ret
        exact ⟨by rw [HF.out]; rfl, turn_trans (turn_trans (TurnIn.of_below hb) k1 (by omega)) k2 (by omega)⟩
  · have hd : (40 : Int) < (n : Int) := by omega
    have HF := Lib.hid (HM.out (by omega))
    go_enter Tryd.func80, Tryd.ntmps80
    go_wp2_with fail
    go_ret
    exact ⟨by rw [HF.out]; rfl, TurnIn.refl _⟩

end Go.Proofs.YtjklngheehhggaaDoor

/- Chapter 9: valid drops: the model's. -/
namespace Go.Proofs.YtjklngheehhggaaDoor
open Go.RowKit G294

set_option maxRecDepth 100000 in
set_option maxHeartbeats 4000000 in
theorem l9Drops_any (v : Value) (l : List Sh) (w : World) (hv : SeenH w v l) : Calls Tryd.prog 87 #[v] w (RetBool w (dropsOk l)) := by
  obtain ⟨A, c, rfl, hlc, hcm, hx⟩ := hv
  unfold maxLen at hcm
  have HM := Lib.hid (@dropsOk_many l)
  have HB := Lib.hid (fun i d => @dropsOk_bad l i d)
  have HOK : Hid (l.length ≤ 40 → (∀ (i : Nat) (d : Sh), i < l.length → l[i]? = some d → drpAt l d) → dropsOk l = true) := Lib.hid (fun h hs => (dropsOk_iff l).2 ⟨h, fun i d hd => hs i d (List.getElem?_eq_some_iff.1 hd).1 hd⟩)
  generalize hnn : l.length = n at *
  have HN := Lib.hid hnn
  clear hnn
  go_enter Tryd.func87, Tryd.ntmps87
  go_wp2_with fail
  go_loopw [7] (fun i wr => ∃ k : Nat, k ≤ n ∧ i = .int .i64 k ∧ Hid (∀ (j : Nat) (s : Sh), j < k → l[j]? = some s → drpAt l s) ∧ Below w.heap.size w wr)
    (fun i _ => n - (intOf i).toNat)
  case atStart => exact ⟨0, Nat.zero_le _, rfl, (fun j s h hj => by omega), Below.refl _ _⟩
  case round =>
    obtain ⟨k, hk, rfl, HE, hb⟩ := hrel
    by_cases hlt : k < n
    · obtain ⟨b, off, rfl, hbl, hcell⟩ := hx (by omega)
      obtain ⟨⟨no, s⟩, hks⟩ := at_lt HN.out hlt
      obtain ⟨⟨no0, s0⟩, hk0⟩ := at_lt (k := 0) HN.out (by omega)
      have hc1 := (hb.cell (p := ⟨b, off + k * 2, none⟩) hbl).trans (hcell k _ hks).1
      have hc2 := (hb.cell (p := ⟨b, off + k * 2 + 1, none⟩) hbl).trans (hcell k _ hks).2
      have hc0 := (hb.cell (p := ⟨b, off + 0 * 2 + 1, none⟩) hbl).trans (hcell 0 _ hk0).2
      simp only [Nat.zero_mul, Nat.add_zero] at hc1 hc2 hc0
      have hki : (k : Int) < (n : Int) := by omega
      have hni : (0 : Int) < (n : Int) := by omega
      have hbs := hb.size
      have k1 := turn_alloc wr (.cells #[.int .i64 no, .string (str s)] 27)
      have hb2 := hb.alloc hb.size (.cells #[.int .i64 no, .string (str s)] 27)
      have d0 := cell_turn k1 hc0 (by omega)
      have x1 : (wr.alloc (.cells #[.int .i64 no, .string (str s)] 27)).cell? ⟨wr.heap.size, 0, none⟩ = some (.int .i64 no) := by simp
      have x2 : (wr.alloc (.cells #[.int .i64 no, .string (str s)] 27)).cell? ⟨wr.heap.size, 1, none⟩ = some (.string (str s)) := by simp
      have hz := str_size s
      have hz0 := str_size s0
      have HG0 : Hid ((l.getD 0 (0, [])).2.length = s0.length) := by show _ = _; simp [List.getD, hk0]
      have HKS := Lib.hid hks
      clear hcell hx hks hk0 hc0 k1
      by_cases hA : seedOk no = true
      · have HC := Lib.hid (fun W : World => hA ▸ l9Seed_any no W)
        by_cases hC : s.length = s0.length
        · by_cases hD : s.length ≤ 40
          · have HK : Hid (∀ (jj : Nat) (s : Sh), jj < k + 1 → l[jj]? = some s → drpAt l s) := fun jj s' h hj => by
              rcases Nat.lt_or_ge jj k with h' | h'
              · exact HE.out jj s' h' hj
              · obtain rfl : jj = k := by omega
                obtain rfl : (no, s) = s' := Option.some.inj (HKS.out.symm.trans hj)
                exact ⟨hA, by rw [HG0.out]; exact hC, hD⟩
            clear hA
            generalize s.length = z at *
            generalize s0.length = z0 at *
            subst hC
            have tC : ((z : Int) != (z : Int)) = false := by simp
            have tD : decide ((40 : Int) < (z : Int)) = false := by simp; omega
            have tD' : decide (40 < z) = false := by simp; omega
            go_wp2_with fail
            go_quiet ((go_at_call 77; exact quietly (HC.out _)))
            go_wp2_with fail
            go_roundw
            case rel => exact ⟨k + 1, by omega, by go_num, HK, below_drewN hb2 _⟩
            case measure => simp [intOf]; omega
          · have HF : Hid (dropsOk l = false) := HB.out k _ HKS.out (fun h => hD h.2.2)
            clear hA
            generalize s.length = z at *
            generalize s0.length = z0 at *
            subst hC
            have tC : ((z : Int) != (z : Int)) = false := by simp
            have tD : decide ((40 : Int) < (z : Int)) = true := by simp; omega
            have tD' : decide (40 < z) = true := by simp; omega
            go_wp2_with fail
            go_quiet ((go_at_call 77; exact quietly (HC.out _)))
            go_wp2_with fail
            go_ret
            exact ⟨by rw [HF.out]; rfl, TurnIn.of_below (below_drewN hb2 _)⟩
        · have HF : Hid (dropsOk l = false) := HB.out k _ HKS.out (fun h => hC (by rw [← HG0.out]; exact h.2.1))
          clear hA
          generalize s.length = z at *
          generalize s0.length = z0 at *
          have tC : ((z : Int) != (z0 : Int)) = true := by rw [bne_iff_ne]; omega
          clear hC
          go_wp2_with fail
          go_quiet ((go_at_call 77; exact quietly (HC.out _)))
          go_wp2_with fail
          go_ret
          exact ⟨by rw [HF.out]; rfl, TurnIn.of_below (below_drewN hb2 _)⟩
      · have hA : seedOk no = false := by simpa using hA
        have HC := Lib.hid (fun W : World => hA ▸ l9Seed_any no W)
        have HF : Hid (dropsOk l = false) := HB.out k _ HKS.out (fun h => by have h1 : seedOk no = true := h.1; rw [hA] at h1; cases h1)
        clear hA
        go_wp2_with fail
        go_quiet ((go_at_call 77; exact quietly (HC.out _)))
        go_wp2_with fail
        go_ret
        exact ⟨by rw [HF.out]; rfl, TurnIn.of_below (below_drewN hb2 _)⟩
    · obtain rfl : k = n := by omega
      have hki : ¬ (k : Int) < (k : Int) := by omega
      by_cases h40 : k ≤ 40
      · have HF : Hid (dropsOk l = true) := HOK.out h40 HE.out
        have hd : decide ((k : Int) ≤ 40) = true := by simp; omega
        go_wp2_with fail
        go_ret
        exact ⟨by rw [HF.out]; rfl, TurnIn.of_below hb⟩
      · have HF : Hid (dropsOk l = false) := HM.out (by omega)
        have hd : decide ((k : Int) ≤ 40) = false := by simp; omega
        go_wp2_with fail
        go_ret
        exact ⟨by rw [HF.out]; rfl, TurnIn.of_below hb⟩

end Go.Proofs.YtjklngheehhggaaDoor

/- Chapter 9: IsDrop, the program's and the model's. -/
namespace G294
open Go Go.RowKit
def isdOk (d : Sh) (L : List (List UInt8)) : Bool := dropsOk [d] && bksOk L
def isdR (d : Sh) (L : List (List UInt8)) : Bool := isdOk d L && decide (sumD d.1.toNat L = d.2)
def RetTwo (w : World) (a b : Bool) (e : Ending) (w' : World) : Prop := e = .returned (.tuple #[.bool a, .bool b]) ∧ TurnIn 0 0 w w'
theorem drops1_seed {d : Sh} (h : dropsOk [d] = true) : seedOk d.1 = true := by
  have := ((dropsOk_iff [d]).1 h).2 0 d rfl
  exact this.1
theorem seenH_lit {w : World} {T : TypeId} (n : Int) (s : List UInt8) : SeenH (w.alloc (.cells #[.int .i64 n, .string (str s)] T)) (.slice (some ⟨w.heap.size, 0, none⟩) 1 1) [(n, s)] := by
  refine ⟨_, 1, rfl, Nat.le_refl _, by unfold maxLen; omega, fun _ => ⟨w.heap.size, 0, rfl, by simp, fun i x hx => ?_⟩⟩
  rcases i with _ | i
  · simp only [List.getElem?_cons_zero, Option.some.injEq] at hx
    subst hx
    exact ⟨by simp, by simp⟩
  · simp at hx
end G294
namespace Go.Proofs.YtjklngheehhggaaDoor
open Go.RowKit Go.Shelf G294

attribute [local go_sem] Oper.semAt_some

set_option maxRecDepth 100000 in
theorem eqlDrop (a b : Int) (x y : List UInt8) (w : World) : (binOp .eql 27 (.agg #[.int .i64 a, .string (str x)]) (.agg #[.int .i64 b, .string (str y)])).run Tryd.prog w = .ok (.bool (decide ((a, x) = (b, y)))) w := by
  have u3 := Tryd.underlying3
  have u9 := Tryd.underlying9
  have hS : Tryd.prog.underlying 27 = some (.struct (Tryd.prog.fieldsOf 27)) := by kernel_rfl
  have hp : Tryd.prog.stoodInHeld 27 = false := by kernel_rfl
  rw [run_eql_struct, show (10000 : Nat) = 9999 + 1 from rfl, run_equalIn_agg w 9999 27 _ _ hS hp]
  simp only [Program.fieldsOf, Tryd.underlying27]
  go_simp
  have hh : (str x).toList = (str y).toList ↔ x = y := by rw [str_toList, str_toList]
  by_cases h1 : a = b <;> by_cases h2 : x = y <;> simp [h1, h2, hh]

set_option maxRecDepth 100000 in
set_option maxHeartbeats 2000000 in
theorem isDrop_own (v : Value) (n : Int) (s : List UInt8) (L : List (List UInt8)) (w : World) (hv : Seen w v (strs L)) (ht : Tab w) (h0 : 1 < w.heap.size) :
    Calls Tryd.prog 13 #[.agg #[.int .i64 n, .string (str s)], v] w (RetTwo w (isdR (n, s) L) (isdOk (n, s) L)) := by
  have a1 := turn_alloc w (.cells #[.int .i64 n, .string (str s)] 27)
  have z1 := World.size_alloc w (.cells #[.int .i64 n, .string (str s)] 27)
  have b0 := alloc_duo0 w (.int .i64 n) (.string (str s)) 27
  have b1 := alloc_duo1 w (.int .i64 n) (.string (str s)) 27
  have a2 := turn_alloc (w.alloc (.cells #[.int .i64 n, .string (str s)] 27)) (.cells #[.int .i64 n, .string (str s)] 27)
  have z2 := World.size_alloc (w.alloc (.cells #[.int .i64 n, .string (str s)] 27)) (.cells #[.int .i64 n, .string (str s)] 27)
  have HS1 := Lib.hid (seenH_lit (w := w.alloc (.cells #[.int .i64 n, .string (str s)] 27)) (T := 27) n s)
  rw [World.size_alloc] at HS1
  have k12 := turn_trans a1 a2 (by omega)
  replace b0 := cell_turn a2 b0 (by omega)
  replace b1 := cell_turn a2 b1 (by omega)
  have HV := Lib.hid (hv.touch k12)
  have HT := Lib.hid (ht.below k12.to_below h0)
  have HA := Lib.hid k12
  obtain ⟨A, c, hvv⟩ := hv.len
  rw [strs_length] at hvv
  subst hvv
  clear hv ht a1 a2 k12
  by_cases h1 : dropsOk [(n, s)] = true
  · have hs := drops1_seed h1
    have H1 := Lib.hid h1
    by_cases h2 : bksOk L = true
    · have hok : drpOk L n = true := by simp [drpOk, h2, show seedOk n = true from hs]
      have hr : drpR L n = (n, sumD n.toNat L) := if_pos hok
      have HO := Lib.hid hok
      have HR : Hid (isdOk (n, s) L = true) := by show isdOk _ _ = true; simp [isdOk, h1, h2]
      have HD : Hid (isdR (n, s) L = decide ((n, s) = (n, sumD n.toNat L))) := by
        show isdR _ _ = _
        unfold isdR
        rw [HR.out]
        by_cases e : sumD n.toNat L = s
        · simp [e]
        · simp [e, show ¬ s = sumD n.toNat L from fun h => e h.symm]
      have HRR := Lib.hid hr
      clear h1 h2 hs hok hr
      generalize sumD n.toNat L = x at *
      have hgd : ∀ (op : BinOp) (a b : Operand) (W : World), (eqGuard op 27 a b (.agg #[.int .i64 n, .string (str s)]) (.agg #[.int .i64 n, .string (str x)])).run Tryd.prog W = .ok () W := fun op a b W => (GuardAt.agg (P := Tryd.prog) (T := 27) (α := Sh) (fun x => #[.int .i64 x.1, .string (str x.2)]) (by kernel_rfl)) op a b (n, s) (n, x) W
      have heq : ∀ W, (binOp .eql 27 (.agg #[.int .i64 n, .string (str s)]) (.agg #[.int .i64 n, .string (str x)])).run Tryd.prog W = .ok (.bool (isdR (n, s) L)) W := fun W => by rw [HD.out]; exact eqlDrop n n s x W
      generalize isdR (n, s) L = r at *
      clear HD
      go_enter Tryd.func13, Tryd.ntmps13
      go_wp2_with fail
      generalize ((w.alloc (.cells #[.int .i64 n, .string (str s)] 27)).alloc (.cells #[.int .i64 n, .string (str s)] 27)) = wa at *
      refine (goodDrops_any _ [(n, s)] _ HS1.out).mono ?_
      rintro e w2 ⟨rfl, k2⟩
      rw [H1.out]
      have s2 := k2.size
      replace b0 := cell_turn k2 b0 (by omega)
      replace b1 := cell_turn k2 b1 (by omega)
      have HK2 := Lib.hid (turn_trans HA.out k2 (by omega))
      go_wp2_with fail
      refine (makeDrop_own _ L n _ (HV.out.touch k2) (HT.out.below k2.to_below (by omega)) (by omega)).mono ?_
      rintro e w3 ⟨rfl, k3⟩
      rw [HO.out, HRR.out]
      have s3 := k3.size
      replace b0 := cell_turn k3 b0 (by omega)
      replace b1 := cell_turn k3 b1 (by omega)
      have a4 := turn_alloc w3 (.cells #[.int .i64 n, .string (str x)] 27)
      have c0 := alloc_duo0 w3 (.int .i64 n) (.string (str x)) 27
      have c1 := alloc_duo1 w3 (.int .i64 n) (.string (str x)) 27
      replace b0 := cell_turn a4 b0 (by omega)
      replace b1 := cell_turn a4 b1 (by omega)
      have HK4 := Lib.hid (turn_trans (turn_trans HK2.out k3 (by omega)) a4 (by omega))
      clear k2 k3 a4
      go_wp2_with fail
      go_ret2
      exact ⟨by rw [HR.out]; rfl, HK4.out⟩
    · have h2 : bksOk L = false := by simpa using h2
      have hok : drpOk L n = false := by simp [drpOk, h2]
      have hr : drpR L n = (0, []) := drpR_no hok
      have HO := Lib.hid hok
      have HR : Hid (isdOk (n, s) L = false) := by show isdOk _ _ = false; simp [isdOk, h2]
      have HD : Hid (isdR (n, s) L = false) := by show isdR _ _ = false; unfold isdR; rw [HR.out]; rfl
      have HRR := Lib.hid hr
      clear h1 h2 hs hok hr
      go_enter Tryd.func13, Tryd.ntmps13
      go_wp2_with fail
      generalize ((w.alloc (.cells #[.int .i64 n, .string (str s)] 27)).alloc (.cells #[.int .i64 n, .string (str s)] 27)) = wa at *
      refine (goodDrops_any _ [(n, s)] _ HS1.out).mono ?_
      rintro e w2 ⟨rfl, k2⟩
      rw [H1.out]
      have s2 := k2.size
      replace b0 := cell_turn k2 b0 (by omega)
      replace b1 := cell_turn k2 b1 (by omega)
      have HK2 := Lib.hid (turn_trans HA.out k2 (by omega))
      go_wp2_with fail
      refine (makeDrop_own _ L n _ (HV.out.touch k2) (HT.out.below k2.to_below (by omega)) (by omega)).mono ?_
      rintro e w3 ⟨rfl, k3⟩
      rw [HO.out, HRR.out]
      have a4 := turn_alloc w3 (.cells #[.int .i64 0, .string (str [])] 27)
      have HK4 := Lib.hid (turn_trans (turn_trans HK2.out k3 (by omega)) a4 (by omega))
      clear k2 k3 a4
      go_wp2_with fail
      go_ret2
      exact ⟨by rw [HR.out, HD.out]; rfl, HK4.out⟩
  · have h1 : dropsOk [(n, s)] = false := by simpa using h1
    have H1 := Lib.hid h1
    have HR : Hid (isdOk (n, s) L = false) := by show isdOk _ _ = false; simp [isdOk, h1]
    have HD : Hid (isdR (n, s) L = false) := by show isdR _ _ = false; unfold isdR; rw [HR.out]; rfl
    clear h1
    go_enter Tryd.func13, Tryd.ntmps13
    go_wp2_with fail
    generalize ((w.alloc (.cells #[.int .i64 n, .string (str s)] 27)).alloc (.cells #[.int .i64 n, .string (str s)] 27)) = wa at *
    refine (goodDrops_any _ [(n, s)] _ HS1.out).mono ?_
    rintro e w2 ⟨rfl, k2⟩
    rw [H1.out]
    have s2 := k2.size
    replace b0 := cell_turn k2 b0 (by omega)
    replace b1 := cell_turn k2 b1 (by omega)
    have HK2 := Lib.hid (turn_trans HA.out k2 (by omega))
    go_wp2_with fail
    go_ret2
    exact ⟨by rw [HR.out, HD.out]; rfl, HK2.out⟩

set_option maxRecDepth 100000 in
set_option maxHeartbeats 2000000 in
theorem sIsDrop_own (v : Value) (n : Int) (s : List UInt8) (L : List (List UInt8)) (w : World) (hv : Seen w v (strs L)) :
    Calls Tryd.prog 36 #[.agg #[.int .i64 n, .string (str s)], v] w (RetTwo w (isdR (n, s) L) (isdOk (n, s) L)) := by
  have a1 := turn_alloc w (.cells #[.int .i64 n, .string (str s)] 27)
  have z1 := World.size_alloc w (.cells #[.int .i64 n, .string (str s)] 27)
  have b0 := alloc_duo0 w (.int .i64 n) (.string (str s)) 27
  have b1 := alloc_duo1 w (.int .i64 n) (.string (str s)) 27
  have HV := Lib.hid (hv.touch a1)
  have HA := Lib.hid a1
  obtain ⟨A, c, hvv⟩ := hv.len
  rw [strs_length] at hvv
  subst hvv
  clear hv a1
  by_cases h2 : bksOk L = true
  · have H2 := Lib.hid h2
    by_cases h1 : dropsOk [(n, s)] = true
    · have hs := drops1_seed h1
      have H1 := Lib.hid h1
      have hok : drpOk L n = true := by simp [drpOk, h2, show seedOk n = true from hs]
      have hr : drpR L n = (n, sumD n.toNat L) := if_pos hok
      have HO := Lib.hid hok
      have HR : Hid (isdOk (n, s) L = true) := by show isdOk _ _ = true; simp [isdOk, h1, h2]
      have HD : Hid (isdR (n, s) L = ((str (sumD n.toNat L)).toList == (str s).toList)) := by
        show isdR _ _ = _
        unfold isdR
        rw [HR.out, str_toList, str_toList]
        by_cases e : sumD n.toNat L = s
        · simp [e]
        · simp [e]
      have HRR := Lib.hid hr
      clear h1 h2 hs hok hr
      generalize hx : sumD n.toNat L = x at *
      clear hx
      generalize hr : isdR (n, s) L = r at *
      have hcm : ((str x).toList == (str s).toList) = r := HD.out.symm
      clear HD hr
      go_enter Tryd.func36, Tryd.ntmps36
      go_wp2_with fail
      generalize (w.alloc (.cells #[.int .i64 n, .string (str s)] 27)) = wa at *
      replace z1 : w.heap.size + 1 ≤ wa.heap.size := by omega
      refine (l9Good_any _ L _ HV.out).mono ?_
      rintro e w' ⟨rfl, rfl⟩
      rw [H2.out]
      have a2 := turn_alloc wa (.cells #[.int .i64 n, .string (str s)] 27)
      have z2 : wa.heap.size + 1 ≤ (wa.alloc (.cells #[.int .i64 n, .string (str s)] 27)).heap.size := by rw [World.size_alloc]; exact Nat.le_refl _
      have HS1 := Lib.hid (seenH_lit (w := wa) (T := 27) n s)
      have e0 := b0
      have e1 := b1
      replace b0 := cell_turn a2 b0 (by omega)
      replace b1 := cell_turn a2 b1 (by omega)
      have HA2 := Lib.hid a2
      clear a2
      go_wp2_with fail
      refine (l9Drops_any _ [(n, s)] _ HS1.out).mono ?_
      rintro e w2 ⟨rfl, k2⟩
      rw [H1.out]
      have s2 := k2.size
      replace b0 := cell_turn k2 b0 (by omega)
      replace b1 := cell_turn k2 b1 (by omega)
      have k02 := turn_trans HA2.out k2 (by omega)
      have HK2 := Lib.hid (turn_trans HA.out k02 (by omega))
      have HV2 := Lib.hid (HV.out.touch k02)
      clear k02 k2
      go_wp2_with fail
      refine (sMakeDrop_own _ L n _ HV2.out).mono ?_
      rintro e w3 ⟨rfl, k3⟩
      rw [HO.out, HRR.out]
      have s3 := k3.size
      replace b0 := cell_turn k3 b0 (by omega)
      replace b1 := cell_turn k3 b1 (by omega)
      have a4 := turn_alloc w3 (.cells #[.int .i64 n, .string (str x)] 27)
      have c0 := alloc_duo0 w3 (.int .i64 n) (.string (str x)) 27
      have c1 := alloc_duo1 w3 (.int .i64 n) (.string (str x)) 27
      replace b0 := cell_turn a4 b0 (by omega)
      replace b1 := cell_turn a4 b1 (by omega)
      have HK4 := Lib.hid (turn_trans (turn_trans HK2.out k3 (by omega)) a4 (by omega))
      clear k3 a4
      go_wp2_with fail
      go_ret2
      exact ⟨by rw [HR.out]; rfl, HK4.out⟩
    · have h1 : dropsOk [(n, s)] = false := by simpa using h1
      have H1 := Lib.hid h1
      have HR : Hid (isdOk (n, s) L = false) := by show isdOk _ _ = false; simp [isdOk, h1]
      have HD : Hid (isdR (n, s) L = false) := by show isdR _ _ = false; unfold isdR; rw [HR.out]; rfl
      clear h1 h2
      go_enter Tryd.func36, Tryd.ntmps36
      go_wp2_with fail
      generalize (w.alloc (.cells #[.int .i64 n, .string (str s)] 27)) = wa at *
      replace z1 : w.heap.size + 1 ≤ wa.heap.size := by omega
      refine (l9Good_any _ L _ HV.out).mono ?_
      rintro e w' ⟨rfl, rfl⟩
      rw [H2.out]
      have a2 := turn_alloc wa (.cells #[.int .i64 n, .string (str s)] 27)
      have HS1 := Lib.hid (seenH_lit (w := wa) (T := 27) n s)
      have HA2 := Lib.hid a2
      clear a2
      go_wp2_with fail
      refine (l9Drops_any _ [(n, s)] _ HS1.out).mono ?_
      rintro e w2 ⟨rfl, k2⟩
      rw [H1.out]
      have HK2 := Lib.hid (turn_trans HA.out (turn_trans HA2.out k2 (by omega)) (by omega))
      go_wp2_with fail
      go_ret2
      exact ⟨by rw [HR.out, HD.out]; rfl, HK2.out⟩
  · have h2 : bksOk L = false := by simpa using h2
    have H2 := Lib.hid h2
    have HR : Hid (isdOk (n, s) L = false) := by show isdOk _ _ = false; simp [isdOk, h2]
    have HD : Hid (isdR (n, s) L = false) := by show isdR _ _ = false; unfold isdR; rw [HR.out]; rfl
    clear h2
    go_enter Tryd.func36, Tryd.ntmps36
    go_wp2_with fail
    generalize (w.alloc (.cells #[.int .i64 n, .string (str s)] 27)) = wa at *
    replace z1 : w.heap.size + 1 ≤ wa.heap.size := by omega
    refine (l9Good_any _ L _ HV.out).mono ?_
    rintro e w' ⟨rfl, rfl⟩
    rw [H2.out]
    go_wp2_with fail
    go_ret2
    exact ⟨by rw [HR.out, HD.out]; rfl, HA.out⟩

end Go.Proofs.YtjklngheehhggaaDoor
